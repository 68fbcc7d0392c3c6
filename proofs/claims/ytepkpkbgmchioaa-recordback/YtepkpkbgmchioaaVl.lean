/- Records and their parts in memory. Contracts of slices.Equal over parts. -/
import Derived.Test.YtepkpkbgmchioaaVj
import Derived.Test.YtepkpkbgmchioaaVk

namespace Go.Proofs.Ytepkpkbgmchioaa
open Go Go.RowKit

theorem run_loadVar_at (w : World) (g off : Nat) (ty : TypeId) (cs : Array Value) (d : TypeDesc) (hc : ∀ j v, cs[j]? = some v → w.cell? ⟨g, off + j, none⟩ = some v)
    (hu : Try.prog.underlying ty = some d) (hd : (match d with | .struct _ | .array _ _ => true | _ => false) = true) (hi : (Try.prog.info? ty).map (·.size) = some cs.size) :
    (loadVar ty ⟨g, off, none⟩).run Try.prog w = .ok (.agg cs) w := by
  have hl : (loadCells ⟨g, off, none⟩ cs.toList.length).run Try.prog w = .ok cs.toList.toArray w :=
    run_loadCells_list (P := Try.prog) w ⟨g, off, none⟩ cs.toList (fun j v hv => by
      rw [add_none]; exact hc j v (by simpa using hv))
  cases hq : Try.prog.info? ty with
  | none => simp [hq] at hi
  | some i =>
    have hs : i.size = cs.size := by simpa [hq] using hi
    have hagg : (isAgg ty).run Try.prog w = .ok true w := by
      unfold isAgg
      rw [Sem.run_bind, run_underlying hu w]
      cases d <;> simp_all
    simp only [Array.length_toList, Array.toArray_toList] at hl
    simp [loadVar, Sem.run_bind, hagg, sizeOf, typeInfo, hq, hs, hl]
theorem wpList_load_at {ops : Array Oper} {rest : List Oper} {o : Oper} {a : Act} {w : World} {Q : Exit → Act → World → Prop} (ty : TypeId) (x : Operand) (ho : o.op = .load ty x) (hw : Region.wanted o (yielded ops a.tmps) = true)
    (g off : Nat) (hx : a.eval x = .pointer (some ⟨g, off, none⟩)) (cs : Array Value) (d : TypeDesc) (hc : ∀ j v, cs[j]? = some v → w.cell? ⟨g, off + j, none⟩ = some v)
    (hu : Try.prog.underlying ty = some d) (hd : (match d with | .struct _ | .array _ _ => true | _ => false) = true) (hi : (Try.prog.info? ty).map (·.size) = some cs.size)
    (h : wpList Try.prog ops Q rest (a.put o.dst (.agg cs)) w) : wpList Try.prog ops Q (o :: rest) a w := by
  refine BigFrame.wpList_want hw fun K hK => ?_
  unfold Oper.wp execOp
  simp only [ho, hx, Instr.loadAt, Instr.sureAddr, Sem.run_bind, Sem.run_pure, Result.andThen_ok, run_loadVar_at w g off ty cs d hc hu hd hi]
  exact hK _ _ h
/-- Parts of a version. -/
abbrev Ps := List (Int × Int)
def PCells (w : World) (b o : Nat) (ps : Ps) : Prop := ∀ i, i < ps.length → w.cell? ⟨b, o + i * 2, none⟩ = some (i64 (ps.getD i (0, 0)).1) ∧ w.cell? ⟨b, o + i * 2 + 1, none⟩ = some (i64 (ps.getD i (0, 0)).2)
def PL (w : World) (v : Value) (ps : Ps) : Prop := ∃ po c, v = .slice po ps.length c ∧ ps.length ≤ c ∧ ps.length ≤ 100000 ∧ (ps = [] ∨ ∃ b o, po = some ⟨b, o, none⟩ ∧ PCells w b o ps)
theorem PL.keep {w w' : World} {v : Value} {ps : Ps} (h : PL w v ps) (hk : ∀ a, w.cell? a ≠ none → w'.cell? a = w.cell? a) : PL w' v ps := by
  obtain ⟨po, c, h1, h2, h3, h⟩ := h
  refine ⟨po, c, h1, h2, h3, ?_⟩
  rcases h with h | ⟨b, o, hp, h⟩
  · exact Or.inl h
  · exact Or.inr ⟨b, o, hp, fun i hi => ⟨(hk _ (by rw [(h i hi).1]; simp)).trans (h i hi).1, (hk _ (by rw [(h i hi).2]; simp)).trans (h i hi).2⟩⟩
theorem PL.below {w w' : World} {v : Value} {ps : Ps} (h : PL w v ps) (hb : Below w.heap.size w w') : PL w' v ps :=
  h.keep fun a ha => World.cell?_of_block (hb.block a.block (cell_lt' ha))
set_option maxRecDepth 100000 in
set_option maxHeartbeats 1000000 in
theorem equal_any (u v : Value) (ps qs : Ps) (w : World) (hu : PL w u ps) (hv : PL w v qs) : Calls Try.prog 52 #[u, v] w fun e w' => e = .returned (.bool (decide (ps = qs))) ∧ Below w.heap.size w w' := by
  obtain ⟨p, c, rfl, hc, hl, hp⟩ := hu
  obtain ⟨q, d, rfl, hd, hl2, hq⟩ := hv
  by_cases hlen : ps.length = qs.length
  · have hlen' : (ps.length : Int) = (qs.length : Int) := by omega
    have HP := hid hp
    have HQ := hid hq
    have HE := hid hlen
    rw [← hlen] at hl2 hd ⊢
    clear hp hq hlen'
    go_enter Try.func52, Try.ntmps52
    go_wp2
    go_loopw [13] (fun v wr => ∃ k : Nat, k ≤ ps.length ∧ v = .int .i64 (k : Int) ∧ Below w.heap.size w wr ∧ ∀ i, i < k → ps.getD i (0, 0) = qs.getD i (0, 0)) (fun v _ => (ps.length - intOf v).toNat)
    case atStart => exact ⟨0, by omega, rfl, Below.refl _ _, fun i hi => by omega⟩
    case round =>
      obtain ⟨k, hk, rfl, hw, hok⟩ := hrel
      have HOK := hid hok
      have HW := hid hw
      clear hok hw
      by_cases hlt : k < ps.length
      · have hlt' : (k : Int) < (ps.length : Int) := by omega
        have hx : ∃ b o, p = some ⟨b, o, none⟩ ∧ wr.cell? ⟨b, o + k * 2, none⟩ = some (i64 (ps.getD k (0, 0)).1) ∧ wr.cell? ⟨b, o + k * 2 + 1, none⟩ = some (i64 (ps.getD k (0, 0)).2) := by
          rcases HP.out with h | ⟨b, o, h, hc⟩
          · rw [h] at hlt; simp at hlt
          · obtain ⟨h1, h2⟩ := hc k hlt
            exact ⟨b, o, h, (World.cell?_of_block (HW.out.block b (cell_lt' (a := ⟨b, o + k * 2, none⟩) (by rw [h1]; simp)))).trans h1, (World.cell?_of_block (HW.out.block b (cell_lt' (a := ⟨b, o + k * 2, none⟩) (by rw [h1]; simp)))).trans h2⟩
        have hy : ∃ b o, q = some ⟨b, o, none⟩ ∧ wr.cell? ⟨b, o + k * 2, none⟩ = some (i64 (qs.getD k (0, 0)).1) ∧ wr.cell? ⟨b, o + k * 2 + 1, none⟩ = some (i64 (qs.getD k (0, 0)).2) := by
          rcases HQ.out with h | ⟨b, o, h, hc⟩
          · have := HE.out; rw [h] at this; simp at this; subst this; simp at hlt
          · obtain ⟨h1, h2⟩ := hc k (by have := HE.out; omega)
            exact ⟨b, o, h, (World.cell?_of_block (HW.out.block b (cell_lt' (a := ⟨b, o + k * 2, none⟩) (by rw [h1]; simp)))).trans h1, (World.cell?_of_block (HW.out.block b (cell_lt' (a := ⟨b, o + k * 2, none⟩) (by rw [h1]; simp)))).trans h2⟩
        obtain ⟨b, o, rfl, x1, x2⟩ := hx
        obtain ⟨b', o', rfl, y1, y2⟩ := hy
        by_cases hX : (ps.getD k (0, 0)).1 = (qs.getD k (0, 0)).1
        · by_cases hY : (ps.getD k (0, 0)).2 = (qs.getD k (0, 0)).2
          · have HXY : Hid (ps.getD k (0, 0) = qs.getD k (0, 0)) := Prod.ext hX hY
            rw [← hX] at y1
            rw [← hY] at y2
            clear hX hY
            generalize (ps.getD k (0, 0)).1 = X1 at *
            generalize (ps.getD k (0, 0)).2 = X2 at *
            go_wp2
            go_region
            go_wp2
            exact ⟨⟨k + 1, by omega, by simp, HW.out.drew, fun i hi => (by
              by_cases e : i = k
              · rw [e]; exact HXY.out
              · exact HOK.out i (by omega))⟩, by simp [intOf]; omega⟩
          · have e : Hid (decide (ps = qs) = false) := decide_eq_false fun e => hY (by rw [e])
            rw [← hX] at y1
            clear hX
            generalize (ps.getD k (0, 0)).1 = X1 at *
            generalize (ps.getD k (0, 0)).2 = X2 at *
            generalize (qs.getD k (0, 0)).2 = Y2 at *
            go_wp2
            go_region
            go_wp2
            go_ret
            exact ⟨by rw [e.out]; rfl, HW.out.drew⟩
        · have e : Hid (decide (ps = qs) = false) := decide_eq_false fun e => hX (by rw [e])
          generalize (ps.getD k (0, 0)).1 = X1 at *
          generalize (ps.getD k (0, 0)).2 = X2 at *
          generalize (qs.getD k (0, 0)).1 = Y1 at *
          generalize (qs.getD k (0, 0)).2 = Y2 at *
          go_wp2
          go_region
          go_wp2
          go_ret
          exact ⟨by rw [e.out]; rfl, HW.out.drew⟩
      · have hlt' : ¬ (k : Int) < (ps.length : Int) := by omega
        have e : Hid (decide (ps = qs) = true) := decide_eq_true (List.ext_getElem HE.out fun i h1 h2 => by
          have := HOK.out i (by omega)
          simpa [List.getD, h1, h2] using this)
        go_wp2
        go_ret
        exact ⟨by rw [e.out]; rfl, HW.out⟩
  · have hlen' : ((ps.length : Int) == (qs.length : Int)) = false := by simp; omega
    have e : decide (ps = qs) = false := decide_eq_false fun e => hlen (by rw [e])
    rw [e]
    go_enter Try.func52, Try.ntmps52
    go_wp2
    go_ret
    exact ⟨rfl, Below.refl _ _⟩
end Go.Proofs.Ytepkpkbgmchioaa
