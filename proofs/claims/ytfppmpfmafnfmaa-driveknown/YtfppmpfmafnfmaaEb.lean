/- Contracts of SameBytes, in and names of the statements; acts and bools that came in. -/
import Derived.Test.YtfppmpfmafnfmaaEa
import Derived.Laws.BytesArg
import Derived.Laws.BytesString
import Derived.Deep.Grids
import Derived.ChangeArms
namespace Go.Proofs.Ytfppmpfmafnfmaa
open Go Go.RowKit

/-- A row of bytes of the statements' own. -/
def Row8 (w : World) (v : Value) (bs : List Nat) : Prop := ∃ B, w.ownsRow B 5 1 v bs.length (bs.map u8)
theorem conv_row {w : World} {po : Option Addr} {n c : Nat} {bs : List Nat} (h : Row8 w (.slice po n c) bs) : (convert 33 9 (.slice po n c)).run Try.prog w = .ok (.string (strOfNums (bs.map fun (k : Nat) => (k : Int)))) w := by
  obtain ⟨B, h⟩ := h
  have hat := own_BAt h
  rcases h.2 with ⟨e, h0⟩ | ⟨g, cap, cur, e, _, hg, h1, _, h3, h4⟩
  · cases e
    have : bs = [] := List.eq_nil_of_length_eq_zero h0
    subst this
    rw [run_convert_bytes_string w 33 9 5 _ 0 0 Try.underlying33 Try.underlying5 Try.underlying9]
    simp [Conv.bytesToString]
    rfl
  · cases e
    rcases hat with ⟨h, _⟩ | ⟨a, ha, hc⟩
    · cases h
    · cases ha
      refine run_convert_bytes_arg w 33 5 Try.underlying33 Try.underlying5 g 0 bs.length c _ (by simp) (fun i hi => ?_) 9 Try.underlying9
      have hadd : (⟨g, 0, none⟩ : Addr).add i = ⟨g, i, none⟩ := by unfold Addr.add; split <;> simp_all
      have := hc i hi
      rw [hadd] at this
      rw [Nat.zero_add, this]; simp [List.getD, hi]
theorem sameBytes_true {w : World} {p q : Option Addr} {n k c d : Nat} {bs : List Nat} (h1 : Row8 w (.slice p n c) bs) (h2 : Row8 w (.slice q k d) bs) :
    Calls Try.prog 38 #[.slice p n c, .slice q k d] w fun e w' => e = .returned (.bool true) ∧ w' = w := by
  have h1 := conv_row h1
  have h2 := conv_row h2
  generalize strOfNums (bs.map fun (k : Nat) => (k : Int)) = s at *
  go_enter Try.func38, Try.ntmps38
  go_wp2
  go_ret
  exact ⟨rfl, rfl⟩
theorem sv_eq (x y : Nm) : (⟨x.toArray⟩ : ByteArray) = ⟨y.toArray⟩ ↔ x = y :=
  ⟨fun e => by have := congrArg (fun b : ByteArray => b.data.toList) e; simpa using this, fun e => by rw [e]⟩
theorem ba_ne {X Y : ByteArray} (h : X ≠ Y) : (X.toList == Y.toList) = false := by
  cases hb : (X.toList == Y.toList)
  · rfl
  · exfalso
    have h2 := eq_of_beq hb
    rw [ByteArray.toList_eq, ByteArray.toList_eq] at h2
    exact h (WideShapes.bytes_inj h2)
set_option maxRecDepth 100000 in
theorem in_any (v : Value) (ns : List Nm) (s : Nm) (w : World) (hn : ns.length ≤ 1000000000000) (hv : TxtAt w v ns) :
    Calls Try.prog 37 #[v, sv s] w fun e w' => e = .returned (.bool (decide (s ∈ ns))) ∧ w' = w := by
  have hform : ∃ po c, v = .slice po ns.length c := by rcases hv with ⟨rfl, rfl⟩ | ⟨b, c, rfl, _⟩ <;> exact ⟨_, _, rfl⟩
  obtain ⟨po, c, rfl⟩ := hform
  have HV := hid hv
  have HB := hid (fun x => sv_eq x s)
  clear hv
  have HD : Hid (∀ b : Bool, b = decide (s ∈ ns) → b = decide (s ∈ ns)) := hid (fun _ h => h)
  generalize hdd : decide (s ∈ ns) = dd at *
  have HDD := hid hdd
  clear hdd HD
  unfold sv
  generalize (⟨s.toArray⟩ : ByteArray) = Y at *
  go_enter Try.func37, Try.ntmps37
  go_wp2
  go_loopw [5] (fun v wr => ∃ k : Nat, k ≤ ns.length ∧ v = .int .i64 (k : Int) ∧ wr = w ∧ ∀ i, i < k → ns.getD i [] ≠ s) (fun v _ => (ns.length - intOf v).toNat)
  case atStart => exact ⟨0, by omega, rfl, rfl, fun i hi => by omega⟩
  case round =>
    obtain ⟨k, hk, rfl, hw, hok⟩ := hrel
    have HOK := hid hok
    subst hw
    clear hok
    by_cases hlt : k < ns.length
    · have hlt' : (k : Int) < (ns.length : Int) := by omega
      rcases HV.out with ⟨h0, _⟩ | ⟨b, c2, hv, hc⟩
      · rw [h0] at hlt; simp at hlt
      cases hv
      have ck := hc k hlt
      clear hc
      have hbq := HB.out (ns.getD k [])
      unfold sv at ck
      generalize (⟨(ns.getD k []).toArray⟩ : ByteArray) = X at *
      by_cases he : ns.getD k [] = s
      · have hxy := hbq.2 he
        subst hxy
        clear hbq
        go_wp2
        go_ret
        have : s ∈ ns := by rw [← he, getD_in _ _ _ hlt]; exact List.getElem_mem hlt
        exact ⟨by rw [← HDD.out, decide_eq_true this]; rfl, rfl⟩
      · have hxy : X ≠ Y := fun e => he (hbq.1 e)
        have hx2 := ba_ne hxy
        clear hbq
        go_wp2
        go_roundw
        case rel =>
          refine ⟨k + 1, by omega, by go_num, by trivial, fun i hi => ?_⟩
          by_cases e : i = k
          · rw [e]; exact he
          · exact HOK.out i (by omega)
        case measure => simp [intOf]; omega
    · have hlt' : ¬ (k : Int) < (ns.length : Int) := by omega
      have hni : ¬ s ∈ ns := fun hm => by
        obtain ⟨i, hi, e⟩ := List.mem_iff_getElem.1 hm
        exact HOK.out i (by omega) (by rw [getD_in _ _ _ hi]; exact e)
      go_wp2
      go_ret
      exact ⟨by rw [← HDD.out, decide_eq_false hni]; rfl, rfl⟩
section
variable {w : World} {S : Nat → Prop} {p m : Nat} {fu : Option Nat} {d : Pd} {L : List (Nm × Ent)}
theorem lnames_any (h : DrC w S p m fu d L) {f : Fs} (hf : FuAt w S fu f) (hl : d.F.length < 1000000000000) : Calls Try.prog 36 #[ptr p] w (NamesAt w (d.list f [])) := by
  have HL := hid (list_any h hf [] hl)
  clear h hf
  go_enter Try.func36, Try.ntmps36
  go_wp2_with (go_at_call 22; refine HL.out.mono ?_; rintro e w1 ⟨po, c, rfl, htx, hb⟩; have HR := hid (And.intro htx hb); clear htx hb)
  go_ret
  exact ⟨po, c, rfl, HR.out.1, HR.out.2⟩
end
theorem list_all (d : Pd) (f : Fs) (h : d.ans f [] = 0) : d.list f [] = d.F.map (·.1) := by
  unfold Pd.list namesOf; rw [if_pos h, List.filter_eq_self.2 (by simp)]
#print axioms in_any
end Go.Proofs.Ytfppmpfmafnfmaa
