/- Contracts of Loose and List of package drive; texts held against one another. -/
import Derived.Test.YtfppmpfmafnfmaaDo
namespace Go.Proofs.Ytfppmpfmafnfmaa
open Go Go.RowKit

section
variable {w : World} {S : Nat → Prop} {p m : Nat} {fu : Option Nat} {d : Pd} {L : List (Nm × Ent)}
theorem loose_any (h : DrC w S p m fu d L) (hl : d.F.length < 1000000000000) : Calls Try.prog 32 #[ptr p] w (NamesAt w d.loose) := by
  have hmade := made_any h
  have HN := hid (names_o h (fun _ x => x.2) (fun _ _ _ _ => rfl) (fun w1 _ x po n c l => loose1_any x po n c l w1) hl)
  clear h
  go_enter Try.func32, Try.ntmps32
  go_wp2_with (first
    | (go_at_call 40; refine hmade.mono ?_; rintro e w' ⟨rfl, hw'⟩; have hw2 := hw'.symm; subst hw2)
    | (go_at_call 61; refine HN.out.mono ?_; rintro e w1 ⟨po, c, rfl, htx, hb⟩; have HR := hid (And.intro htx hb); clear htx hb))
  go_ret
  exact ⟨po, c, rfl, HR.out.1, HR.out.2⟩
def Pd.list (d : Pd) (f : Fs) (pre : Nm) : List Nm := if d.ans f [] = 0 then namesOf d.F (fun x _ => pre.isPrefixOf x) else []
def ListAt (w : World) (er : Nat) (ns : List Nm) (e : Ending) (w' : World) : Prop :=
  ∃ po c, e = .returned (.tuple #[.slice po ns.length c, .int .i64 (er : Int)]) ∧ TxtL w.heap.size w' (.slice po ns.length c) ns ∧ Below w.heap.size w w'
theorem TxtL.base {B B2 : Nat} {w : World} {v : Value} {ns : List Nm} (h : TxtL B w v ns) (hB : B2 ≤ B) : TxtL B2 w v ns := own_base h hB
theorem list_any (h : DrC w S p m fu d L) {f : Fs} (hf : FuAt w S fu f) (pre : Nm) (hl : d.F.length < 1000000000000) : Calls Try.prog 22 #[ptr p, sv pre] w (ListAt w (d.ans f []) (d.list f pre)) := by
  have HA := hid (fun (o : Obj) => answers_any (h.alloc o) (hf.alloc o) (.slice none 0 0) [] (Or.inl ⟨rfl, rfl⟩) (by simp) (by simp))
  have HN := hid (names_l (h.alloc (.cells #[sv pre] 9)) (fun x _ => pre.isPrefixOf x) (ptr w.heap.size) (fun _ _ _ _ => rfl) (fun w1 hw1 x po n c l => list1_any x pre po n c l w.heap.size w1 (((CAt.made w _ _).below hw1).cell 0)) hl)
  clear h hf
  by_cases ha : d.ans f [] = 0
  · have e : d.list f pre = namesOf d.F (fun x _ => pre.isPrefixOf x) := by unfold Pd.list; rw [if_pos ha]
    rw [e, ha]
    clear e
    go_enter Try.func22, Try.ntmps22
    go_wp2_with (first
      | (go_at_call 60; refine (HA.out _).mono ?_; rintro e w' ⟨rfl, hw'⟩; rw [ha]; have hw2 := hw'.symm; subst hw2)
      | (go_at_call 61; refine HN.out.mono ?_; rintro e w1 ⟨po, c, rfl, htx, hb⟩; have HR := hid (And.intro htx hb); clear htx hb))
    go_ret2
    exact ⟨po, c, rfl, HR.out.1.base (by rw [size_al]; omega), below_on _ _ ((Below.refl _ _).alloc (Nat.le_refl _) _) HR.out.2⟩
  · have e : d.list f pre = [] := by unfold Pd.list; rw [if_neg ha]
    rw [e]
    clear e
    have ha' : ((d.ans f [] : Nat) : Int) ≠ 0 := by omega
    generalize hx : d.ans f [] = x at *
    go_enter Try.func22, Try.ntmps22
    go_wp2_with (first
      | (go_at_call 60; refine (HA.out _).mono ?_; rintro e w' ⟨rfl, hw'⟩; have hw2 := hw'.symm; subst hw2))
    go_ret2
    exact ⟨none, 0, rfl, World.ownsRow_nil _ _ _ _, (Below.refl _ _).alloc (Nat.le_refl _) _⟩
end
theorem TxtL.at {B : Nat} {w : World} {v : Value} {ns : List Nm} (h : TxtL B w v ns) : TxtAt w v ns := by
  rcases h.2 with ⟨rfl, h0⟩ | ⟨g, cap, cur, rfl, _, hg, h1, _, h3, h4⟩
  · exact Or.inl ⟨List.eq_nil_of_length_eq_zero h0, rfl⟩
  · refine Or.inr ⟨g, cap, rfl, fun i hi => ?_⟩
    have hc : CAt w g cur 9 := hg
    rw [hc.cell]
    have := congrArg (fun l => l[i]?) h4
    simp [hi] at this
    rw [this, getD_in _ _ _ hi]
theorem TxtAt.below {w w' : World} {v : Value} {ns : List Nm} (h : TxtAt w v ns) (hb : Below w.heap.size w w') : TxtAt w' v ns := by
  rcases h with h | ⟨b, c, rfl, h⟩
  · exact Or.inl h
  · exact Or.inr ⟨b, c, rfl, fun i hi => (World.cell?_of_block (hb.block b (cell_lt' (a := ⟨b, i, none⟩) (by rw [h i hi]; simp)))).trans (h i hi)⟩
set_option maxHeartbeats 400000 in
theorem sameTexts_true (a b : Value) (ns : List Nm) (w : World) (hn : ns.length ≤ 1000000000000) (ha : TxtAt w a ns) (hb : TxtAt w b ns) :
    Calls Try.prog 39 #[a, b] w fun e w' => e = .returned (.bool true) ∧ ∃ k, w' = w.drewN k := by
  by_cases h0 : ns = []
  · subst h0
    have fa : ∃ pa ca, a = .slice pa 0 ca := by rcases ha with ⟨_, rfl⟩ | ⟨b, c, rfl, _⟩ <;> exact ⟨_, _, rfl⟩
    have fb : ∃ pa ca, b = .slice pa 0 ca := by rcases hb with ⟨_, rfl⟩ | ⟨b, c, rfl, _⟩ <;> exact ⟨_, _, rfl⟩
    obtain ⟨pa, ca, rfl⟩ := fa
    obtain ⟨pb, cb, rfl⟩ := fb
    clear ha hb
    go_enter Try.func39, Try.ntmps39
    go_wp2
    refine wp_loop_rounds 1 ?_
    rw [rounds_succ]
    go_wp2
    go_ret
    exact ⟨rfl, 0, rfl⟩
  · rcases ha with ⟨h, _⟩ | ⟨ga, ca, rfl, ha⟩
    · exact absurd h h0
    rcases hb with ⟨h, _⟩ | ⟨gb, cb, rfl, hb⟩
    · exact absurd h h0
    clear h0
    have HP := hid ha
    have HQ := hid hb
    clear ha hb
    go_enter Try.func39, Try.ntmps39
    go_wp2
    go_loopw [5] (fun v wr => ∃ i : Nat, i ≤ ns.length ∧ v = .int .i64 (i : Int) ∧ ∃ k, wr = w.drewN k) (fun v _ => (ns.length - intOf v).toNat)
    case atStart => exact ⟨0, by omega, rfl, 0, rfl⟩
    case round =>
      obtain ⟨i, hi, rfl, hw⟩ := hrel
      have HW := hid hw
      have hcell : ∀ a : Addr, wr.cell? a = w.cell? a := by obtain ⟨k, rfl⟩ := hw; intro a; rfl
      have HCE := hid hcell
      clear hw hcell
      by_cases hlt : i < ns.length
      · have c1 := (HCE.out _).trans (HP.out i hlt)
        have c2 := (HCE.out _).trans (HQ.out i hlt)
        have hlt' : (i : Int) < (ns.length : Int) := by omega
        unfold sv at c1 c2
        generalize (⟨(ns.getD i []).toArray⟩ : ByteArray) = bs at c1 c2
        go_wp2
        go_quiet (fail)
        go_wp2
        go_roundw
        case rel =>
          refine ⟨i + 1, by omega, by go_num, ?_⟩
          obtain ⟨k, rfl⟩ := HW.out
          first | exact ⟨_, rfl⟩ | exact ⟨k + nq, by simp [World.drewN, Nat.add_assoc]⟩
        case measure => simp [intOf]; omega
      · have hlt' : ¬ (i : Int) < (ns.length : Int) := by omega
        go_wp2
        go_ret
        exact ⟨rfl, HW.out⟩
#print axioms list_any
#print axioms sameTexts_true
end Go.Proofs.Ytfppmpfmafnfmaa
