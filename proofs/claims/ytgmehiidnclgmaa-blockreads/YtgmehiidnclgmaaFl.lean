/- Contracts of SameInts and CopyBytes of the statements' kit; small laws for the walks of the statements. -/
import Derived.Test.YtgmehiidnclgmaaFk
import Derived.Lib.SlBytesConst
namespace Go.Proofs.Ytgmehiidnclgmaa
open Go Go.RowKit

/-- A guarded append whose guard says yes. -/
theorem wpList_append_run {P : Program} {w w' : World} {ops : Array Oper} {rest : List Oper} {o : Oper} {a : Act} {Q : Exit → Act → World → Prop} (s x : Operand) (t : TypeId)
    (ho : o.op = .call { callee := .builtin .append, args := #[s, x], argTypes := #[t, t] }) (hw : Region.wanted o (yielded ops a.tmps) = true)
    (v xv v' : Value) (hs : a.eval s = v) (hx : a.eval x = xv) (hr : (Builtin.append_ #[t, t] o.type #[v, xv]).run P w = .ok v' w') (h : wpList P ops Q rest (a.put o.dst v') w') : wpList P ops Q (o :: rest) a w := by
  refine BigFrame.wpList_want hw fun K hK => ?_
  unfold Oper.wp execOp
  simp only [ho, resolve, invoke, builtin, Sem.run_bind, Sem.run_pure, Result.andThen_ok, List.map_toArray, List.map_cons, List.map_nil, hs, hx, hr]
  exact hK _ _ h
/-- Numbers in memory. -/
def IntAt (w : World) (p : Option Addr) (n : Nat) (x : Nat → Nat) : Prop := n = 0 ∨ ∃ b o, p = some ⟨b, o, none⟩ ∧ ∀ i, i < n → w.cell? ⟨b, o + i, none⟩ = some (.int .i64 (x i : Nat))
theorem BufI.ints {B : Nat} {w : World} {v : Value} {L : List Nat} (h : BufI B w v L) : ∃ p c, v = .slice p L.length c ∧ IntAt w p L.length (fun i => L.getD i 0) := by
  have h0 : w.ownsRow B 3 1 v L.length (L.map i64v) := h
  obtain ⟨hl, ⟨h1, h2⟩ | ⟨g, cap, cur, rfl, hB, hg, hc, _, hs, ht⟩⟩ := h0
  · exact ⟨none, 0, by rw [h1, h2], .inl h2⟩
  · refine ⟨some ⟨g, 0, none⟩, cap, rfl, .inr ⟨g, 0, rfl, fun i hi => ?_⟩⟩
    have h1 : w.ownsRow B 3 1 (.slice (some ⟨g, 0, none⟩) L.length cap) L.length (L.map i64v) := h
    have h2 := h1.cellAt i (by omega)
    rw [Nat.zero_add, h2]
    simp [hi, i64v]
theorem ints_new (w : World) (cs : Array Value) (t : TypeId) (fr : Nat × Nat) (L : List Nat) (h : cs = (L.map i64v).toArray) : IntAt (w.alloc (.cells cs t fr)) (some ⟨w.heap.size, 0, none⟩) L.length (fun i => L.getD i 0) := by
  subst h
  exact .inr ⟨_, _, rfl, fun i hi => by rw [Nat.zero_add, cell_of_row _ _ i _ t fr (heap_alloc_new _ _)]; simp [hi, i64v]⟩
theorem IntAt.below {w w' : World} {p : Option Addr} {n : Nat} {x : Nat → Nat} (h : IntAt w p n x) (hb : Below w.heap.size w w') : IntAt w' p n x := by
  rcases h with h | ⟨b, o, rfl, hr⟩
  · exact .inl h
  · refine .inr ⟨b, o, rfl, fun i hi => ?_⟩
    have h1 := hr i hi
    exact (hb.cell (p := ⟨b, o + i, none⟩) (cell_lt h1)).trans h1
set_option maxHeartbeats 400000 in
theorem sameInts_true (p q : Option Addr) (n c d : Nat) (x : Nat → Nat) (w : World) (hn : n ≤ 100000) (hp : IntAt w p n x) (hq : IntAt w q n x) :
    Calls Try.prog 24 #[.slice p n c, .slice q n d] w fun e w' => e = .returned (.bool true) ∧ ∃ k, w' = w.drewN k := by
  have HP := hid hp
  have HQ := hid hq
  clear hp hq
  go_enter Try.func24, Try.ntmps24
  go_wp2
  go_loopw [5] (fun v wr => ∃ i : Nat, i ≤ n ∧ v = .int .i64 (i : Int) ∧ ∃ k, wr = w.drewN k) (fun v _ => (n - intOf v).toNat)
  case atStart => exact ⟨0, by omega, rfl, 0, rfl⟩
  case round =>
    obtain ⟨i, hi, rfl, hw⟩ := hrel
    have HW := hid hw
    have hcell : ∀ a : Addr, wr.cell? a = w.cell? a := by obtain ⟨k, rfl⟩ := hw; intro a; rfl
    have HCE := hid hcell
    clear hw hcell
    by_cases hlt : i < n
    · rcases HP.out with h | ⟨b, o, rfl, hb⟩
      · omega
      rcases HQ.out with h | ⟨b2, o2, rfl, hb2⟩
      · omega
      have c1 := (HCE.out _).trans (hb i hlt)
      have c2 := (HCE.out _).trans (hb2 i hlt)
      have hlt' : (i : Int) < (n : Int) := by omega
      clear hb hb2
      go_wp2
      go_quiet (fail)
      go_wp2
      go_roundw
      case rel =>
        refine ⟨i + 1, by omega, by go_num, ?_⟩
        obtain ⟨k, rfl⟩ := HW.out
        first | exact ⟨_, rfl⟩ | exact ⟨k + nq, by simp [World.drewN, Nat.add_assoc]⟩
      case measure => simp [intOf]; omega
    · have hlt' : ¬ (i : Int) < (n : Int) := by omega
      go_wp2
      go_ret
      exact ⟨rfl, HW.out⟩
theorem BufL.empty (B : Nat) (w : World) (hB : B ≤ w.heap.size) : BufL B (w.alloc (.cells #[] 5)) (.slice (some ⟨w.heap.size, 0, none⟩) 0 0) [] :=
  ⟨rfl, .inr ⟨_, _, _, rfl, hB, heap_alloc_new _ _, Nat.le_refl _, by unfold maxLen; omega, rfl, rfl⟩⟩
def CopyAt (w : World) (L : List Nat) (e : Ending) (w' : World) : Prop := ∃ v, e = .returned v ∧ BufL w.heap.size w' v L ∧ Below w.heap.size w w'
set_option maxRecDepth 100000 in
theorem copyB_any (p : Option Addr) (n c : Nat) (x : Nat → Nat) (w : World) (hn : n ≤ 100000) (hp : p = none → n = 0 ∧ c = 0) (hx : StrAt w p n x) :
    Calls Try.prog 32 #[.slice p n c] w (CopyAt w ((List.range n).map x)) := by
  have b1 : Below w.heap.size w (w.alloc (.cells #[] 5)) := (Below.refl _ _).alloc (by omega) _
  obtain ⟨v, w1, r1, f1, g1, _⟩ := (BufL.empty w.heap.size w (Nat.le_refl _)).app p n c x (hx.below b1) hp (by simp; omega) (by simp)
  have HR := hid r1
  have HF := hid (show BufL w.heap.size w1 v ((List.range n).map x) by simpa using f1)
  have HB := hid (b1.grown g1 (by simp) (fun k e => by cases e; exact Nat.le_refl _))
  clear r1 f1 g1 hx hp
  go_enter Try.func32, Try.ntmps32
  go_wp2_with (refine wpList_append_eq rfl _ _ 22 rfl _ _ rfl rfl _ _ HR.out ?_)
  go_ret
  exact ⟨v, rfl, HF.out, HB.out⟩
end Go.Proofs.Ytgmehiidnclgmaa
