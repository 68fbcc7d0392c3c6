/- Contracts of New, Read, Up, Ops, Used, Offline and Full of package drive. -/
import Derived.Test.YtfppmpfmafnfmaaDl
namespace Go.Proofs.Ytfppmpfmafnfmaa
open Go Go.RowKit

def fresh (n : Nat) : Pd := ⟨n, 0, false, false, false, []⟩
def NewAt (w : World) (n : Nat) (e : Ending) (w' : World) : Prop :=
  ∃ p, e = .returned (.tuple #[ptr p, .int .i64 0]) ∧ DrAt w' (fun b => w.heap.size ≤ b ∧ b < w'.heap.size) p none (fresh n) ∧ Below w.heap.size w w'
theorem new_ok (n : Nat) (h1 : 1 ≤ n) (h2 : n ≤ 67108864) (w : World) : Calls Try.prog 9 #[.int .i64 (n : Int)] w (NewAt w n) := by
  have hmm := @run_makeMap Try.prog
  have hbl : Below w.heap.size w ((w.alloc (.map #[] 0)).alloc (.cells #[ptr (w.heap.size + 1), .int .i64 (n : Int), .map (some w.heap.size), .int .i64 0, .int .i64 0, .bool false, .bool false, .bool false, .pointer none] 51)) := ((Below.refl _ _).alloc (Nat.le_refl _) _).alloc (by simp only [size_al]; omega) _
  have HB := hid hbl
  clear hbl
  have a1 : ¬ (n : Int) < 1 := by omega
  have a2 : ¬ 67108864 < (n : Int) := by omega
  go_enter Try.func9, Try.ntmps9
  go_wp2
  go_ret2
  refine ⟨w.heap.size + 1, rfl, ⟨w.heap.size, [], ?_⟩, HB.out⟩
  have hc := CAt.made (w.alloc (.map #[] 0)) #[ptr (w.heap.size + 1), .int .i64 (n : Int), .map (some w.heap.size), .int .i64 0, .int .i64 0, .bool false, .bool false, .bool false, .pointer none] 51
  rw [size_al] at hc
  refine { c := hc, mp := ((World.ownsMap_made w Try.prog 9 RF).alloc _), fs := rfl, ow := by simp, ap := List.Pairwise.nil, by8 := by simp, so := List.Pairwise.nil, nm := by simp, sp := ⟨by omega, by simp only [size_al]; omega⟩, sm := ⟨Nat.le_refl _, by simp only [size_al]; omega⟩, sf := by simp, lt := fun b h => h.2, us := Nat.zero_le _, sz := h2 }
theorem new_bad (n : Int) (h : n < 1 ∨ 67108864 < n) (w : World) : Calls Try.prog 9 #[.int .i64 n] w fun e w' => e = .returned (.tuple #[.pointer none, .int .i64 2]) ∧ w' = w := by
  by_cases h1 : n < 1
  · go_enter Try.func9, Try.ntmps9
    go_wp2
    go_ret2
    exact ⟨rfl, rfl⟩
  · have h2 : 67108864 < n := by omega
    go_enter Try.func9, Try.ntmps9
    go_wp2
    go_ret2
    exact ⟨rfl, rfl⟩
theorem own_BAt {w : World} {B n c : Nat} {po : Option Addr} {bs : List Nat} (h : w.ownsRow B 5 1 (.slice po n c) bs.length (bs.map u8)) : BAt w po bs := by
  rcases h.2 with ⟨e, h0⟩ | ⟨g, cap, cur, e, _, hg, h1, _, h3, h4⟩
  · cases e; exact Or.inl ⟨rfl, List.eq_nil_of_length_eq_zero h0⟩
  · cases e
    refine Or.inr ⟨_, rfl, fun i hi => ?_⟩
    have hadd : (⟨g, 0, none⟩ : Addr).add i = ⟨g, i, none⟩ := by unfold Addr.add; split <;> simp_all
    have hc : CAt w g cur 5 := hg
    rw [hadd, hc.cell]
    have := congrArg (fun l => l[i]?) h4
    simp [hi] at this
    rw [this]
    simp [u8, List.getD, List.getElem?_eq_getElem hi]
def ReadAt (w : World) (er : Nat) (bs : List Nat) (e : Ending) (w' : World) : Prop :=
  ∃ po c, e = .returned (.tuple #[.slice po bs.length c, .int .i64 (er : Int)]) ∧ w'.ownsRow w.heap.size 5 1 (.slice po bs.length c) bs.length (bs.map u8) ∧ Below w.heap.size w w'
section
variable {w : World} {S : Nat → Prop} {p m : Nat} {fu : Option Nat} {d : Pd} {L : List (Nm × Ent)}
theorem readB_ok {f : Fs} {s : Nm} {x : Fi} (h : d.readE f s = 0) (hx : gget d.F s = some x) : d.readB f s = x.1 := by
  unfold Pd.readB; rw [if_neg (by simp [(readE_ok h).1]), hx]
theorem readB_bad {f : Fs} {s : Nm} (h : d.readE f s ≠ 0) : d.readB f s = [] := by
  unfold Pd.readB
  rcases readE_not h with ⟨h1, _⟩ | ⟨h1, h2, _⟩
  · rw [if_pos h1]
  · rw [if_neg (by simp [h1]), h2]
set_option maxRecDepth 100000 in
theorem read_any (h : DrC w S p m fu d L) {f : Fs} (hf : FuAt w S fu f) (s : Nm) (hs : s.length ≤ maxLen) :
    Calls Try.prog 21 #[ptr p, sv s] w (ReadAt w (d.readE f s) (d.readB f s)) := by
  have H := hid h
  have HFD := hid (find_any h hf s hs)
  have hus := h.us
  have hsz := h.sz
  have HSR := hid h.srtF
  clear h hf
  by_cases hr : d.readE f s = 0
  · obtain ⟨e, po, c, hg, hv, hev, hgF⟩ := H.out.getE hr
    have HV : Hid (fileOf (findV d f L s) = .agg #[.slice po e.b.length c, .bool e.l]) := hid (by rw [hv, ← hev])
    have HEQ := hid (readB_ok hr hgF)
    have hle := used_le HSR.out hgF
    simp only at hle
    have HLE := hid hle
    have HEV := hid hev
    have HOW := hid (H.out.ow _ (gget_mem hg))
    have HSF := hid (H.out.sf _ (gget_mem hg))
    clear hv hev hgF hle
    go_enter Try.func21, Try.ntmps21
    go_wp2_with (first
      | (go_at_call 59; refine HFD.out.mono ?_; rintro e1 w1 ⟨rfl, hb1⟩; rw [hr, HV.out]; have HB1 := hid hb1; have H1 := hid ((H.out.below hb1).alloc (.cells #[.slice po e.b.length c, .bool e.l] 78)); clear hb1)
      | (go_at_call 41; refine (clone_any po c e.b _ (own_BAt (c := c) (n := e.b.length) (B := 0) (by have := H1.out.ow _ (gget_mem hg); simp only at this; rw [HEV.out] at this; exact this)) (by have := HLE.out; omega)).mono ?_; rintro e2 w2 ⟨pv, cv, rfl, ho2, hb2⟩; have HO2 := hid ho2; have HB2 := hid hb2; clear ho2 hb2))
    go_ret2
    rw [hr, HEQ.out]
    have hbb := below_on _ _ HB1.out ((Below.refl w1.heap.size w1).alloc (Nat.le_refl _) (.cells #[.slice po e.b.length c, .bool e.l] 78))
    exact ⟨pv, cv, rfl, own_base HO2.out hbb.size, below_on _ _ hbb HB2.out⟩
  · have HEQ := hid (readB_bad hr)
    have HV := hid (findV_bad (L := L) hr)
    have hr' : ((d.readE f s : Nat) : Int) ≠ 0 := by omega
    generalize hx : d.readE f s = x at *
    go_enter Try.func21, Try.ntmps21
    go_wp2_with (first
      | (go_at_call 59; refine HFD.out.mono ?_; rintro e1 w1 ⟨rfl, hb1⟩; rw [hx, HV.out]; have HB1 := hid hb1; clear hb1))
    go_ret2
    rw [HEQ.out]
    exact ⟨none, 0, rfl, World.ownsRow_nil _ _ _ _, below_on _ _ HB1.out ((Below.refl w1.heap.size w1).alloc (Nat.le_refl _) _)⟩
def Pd.up (d : Pd) (f : Fs) : Bool := !d.isOut f && !d.offl
theorem up_any (h : DrC w S p m fu d L) {f : Fs} (hf : FuAt w S fu f) : Calls Try.prog 34 #[ptr p] w fun e w' => e = .returned (.bool (d.up f)) ∧ w' = w := by
  have c5 : w.cell? ⟨p, 5, none⟩ = some (.bool d.offl) := h.c.cell 5
  have hmade := made_any h
  have hout := isOut_any h hf
  clear h hf
  unfold Pd.up
  cases ho : d.isOut f <;> rw [ho] at hout <;> cases hof : d.offl <;> rw [hof] at c5 <;>
  · go_enter Try.func34, Try.ntmps34
    go_wp2_with (first
      | (go_at_call 40; refine hmade.mono ?_; rintro e w' ⟨rfl, hw'⟩; have hw2 := hw'.symm; subst hw2)
      | (go_at_call 42; refine hout.mono ?_; rintro e w' ⟨rfl, hw'⟩; have hw2 := hw'.symm; subst hw2))
    go_ret
    exact ⟨rfl, by first | rfl | trivial⟩
theorem ops_any (h : DrC w S p m fu d L) : Calls Try.prog 33 #[ptr p] w fun e w' => e = .returned (.int .i64 (d.ops : Int)) ∧ w' = w := by
  have c4 : w.cell? ⟨p, 4, none⟩ = some (.int .i64 (d.ops : Int)) := h.c.cell 4
  have hmade := made_any h
  clear h
  go_enter Try.func33, Try.ntmps33
  go_wp2_with (first
    | (go_at_call 40; refine hmade.mono ?_; rintro e w' ⟨rfl, hw'⟩; have hw2 := hw'.symm; subst hw2))
  go_ret
  exact ⟨rfl, by first | rfl | trivial⟩
theorem used_any (h : DrC w S p m fu d L) : Calls Try.prog 31 #[ptr p] w fun e w' => e = .returned (.int .i64 (usedOf d.F : Int)) ∧ w' = w := by
  have c3 : w.cell? ⟨p, 3, none⟩ = some (.int .i64 (usedOf d.F : Int)) := h.c.cell 3
  have hmade := made_any h
  clear h
  go_enter Try.func31, Try.ntmps31
  go_wp2_with (first
    | (go_at_call 40; refine hmade.mono ?_; rintro e w' ⟨rfl, hw'⟩; have hw2 := hw'.symm; subst hw2))
  go_ret
  exact ⟨rfl, by first | rfl | trivial⟩
end
#print axioms read_any
end Go.Proofs.Ytfppmpfmafnfmaa
