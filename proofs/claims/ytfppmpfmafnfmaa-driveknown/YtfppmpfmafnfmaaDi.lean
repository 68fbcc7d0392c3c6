/- Contracts of Delete, Sync and Rename of package drive, and of their closures. -/
import Derived.Test.YtfppmpfmafnfmaaDh
namespace Go.Proofs.Ytfppmpfmafnfmaa
open Go Go.RowKit

section
variable {w : World} {S : Nat → Prop} {p m : Nat} {fu : Option Nat} {d : Pd} {L : List (Nm × Ent)}
theorem Done.from {w3 w' : World} {r : Nat × Pd × Fs} {e : Ending} (hb : Below w.heap.size w w3) (h : Done w3 S p fu r e w') : Done w S p fu r e w' := by
  obtain ⟨h1, S2, hg, hd, hf, ho⟩ := h
  exact ⟨h1, S2, hg.on hb.size, hd, hf, (Only.of_below hb).then ho (fun _ _ h => h)⟩
/-- A block of one's own is neither the drive's nor its map's. -/
theorem DrC.box_ne (h : DrC w S p m fu d L) {b : Nat} {cs : Array Value} {t : TypeId} (hb : CAt w b cs t) (ht : t ≠ 51) : b ≠ p ∧ b ≠ m := by
  obtain ⟨es, clock, hm⟩ := ownsMap_at h.mp
  refine ⟨fun e => ?_, fun e => ?_⟩
  · have h1 : w.heap[p]? = _ := h.c
    have h2 : w.heap[b]? = _ := hb
    rw [e, h1] at h2
    exact ht ((Obj.cells.inj (Option.some.inj h2)).2.1).symm
  · have h2 : w.heap[b]? = _ := hb
    rw [e, hm] at h2; cases h2
theorem DrC.apOf (h : DrC w S p m fu d L) {s : Nm} {e : Ent} (hg : gget L s = some e) : ∀ y ∈ gdel L s, y.2.v.ownBlock = none ∨ y.2.v.ownBlock ≠ e.v.ownBlock := by
  intro y hy
  obtain ⟨hyL, hys⟩ := mem_del.1 hy
  have hm := gget_mem hg
  have key : ∀ {M : List (Nm × Ent)}, M.Pairwise (fun x y => x.2.v.ownBlock = none ∨ x.2.v.ownBlock ≠ y.2.v.ownBlock) → y ∈ M → (s, e) ∈ M → (y.2.v.ownBlock = none ∨ y.2.v.ownBlock ≠ e.v.ownBlock) := by
    intro M
    induction M with
    | nil => intro _ h _; simp at h
    | cons x r ih =>
      intro hp h1 h2
      obtain ⟨p1, p2⟩ := List.pairwise_cons.1 hp
      rcases List.mem_cons.1 h1 with rfl | h1 <;> rcases List.mem_cons.1 h2 with h2 | h2
      · exact absurd (by rw [← h2]) hys
      · exact p1 _ h2
      · have := p1 _ h1
        rw [← h2] at this
        rcases this with h3 | h3
        · by_cases e1 : y.2.v.ownBlock = none
          · exact Or.inl e1
          · exact Or.inr (by rw [show e.v.ownBlock = none from h3]; exact e1)
        · exact Or.inr (Ne.symm h3)
      · exact ih p2 h1 h2
  exact key h.ap hyL hm
theorem DrC.newOf (h : DrC w S p m fu d L) {s : Nm} {e : Ent} (hg : gget L s = some e) (l : Bool) : NewE w S p m (gdel L s) ⟨e.v, e.b, l⟩ :=
  ⟨h.ow _ (gget_mem hg), h.by8 _ (gget_mem hg), fun b hb => ⟨h.sf _ (gget_mem hg) b hb, h.file_ne (gget_mem hg) hb⟩, fun y hy => h.apOf hg y hy⟩
theorem DrC.used_at (h : DrC w S p m fu d L) {s : Nm} {e : Ent} (hg : gget L s = some e) : usedOf (gdel d.F s) + e.b.length = usedOf d.F := by
  have := used_del h.srtF s
  unfold lenAt at this
  rw [h.fs, gget_map, hg] at this
  rw [h.fs]; exact this
theorem DrC.lenF (h : DrC w S p m fu d L) : L.length = d.F.length := by rw [h.fs, len_map]
end
section
variable {w : World} {S : Nat → Prop} {p m : Nat} {fu : Option Nat} {d : Pd} {L : List (Nm × Ent)}
theorem delete_did (h : DrC w S p m fu d L) (b0 b1 : Nat) (s : Nm) (hs : s.length ≤ maxLen) (h0 : CAt w b0 #[ptr p] 23) (h1 : CAt w b1 #[sv s] 9) :
    Calls Try.prog 70 #[ptr b0, ptr b1] w (Did w S p m fu d (gdel d.F s)) := by
  have c0 : w.cell? ⟨b0, 0, none⟩ = some (ptr p) := h0.cell 0
  have c1 : w.cell? ⟨b1, 0, none⟩ = some (sv s) := h1.cell 0
  have HT := hid (take_any h s hs)
  clear h h0 h1
  go_enter Try.func70, Try.ntmps70
  go_wp2_with (go_at_call 69; refine HT.out.mono ?_; rintro e w1 ⟨rfl, hd1, ho1, hz1⟩)
  go_end0
  exact ⟨rfl, S, _, Grows.refl _ _, hd1, ho1⟩
theorem sync_did (h : DrC w S p m fu d L) (b0 b1 b2 : Nat) (s : Nm) (e : Ent) (hg : gget L s = some e) (po : Option Addr) (c : Nat) (hv : e.v = .slice po e.b.length c) (hl : L.length < 1000000000000)
    (h0 : CAt w b0 #[ptr p] 23) (h1 : CAt w b1 #[sv s] 9) (h2 : CAt w b2 #[.slice po e.b.length c, .bool false] 78) :
    Calls Try.prog 67 #[ptr b0, ptr b1, ptr b2] w (Did w S p m fu d (gput d.F s (e.b, false))) := by
  have c0 : w.cell? ⟨b0, 0, none⟩ = some (ptr p) := h0.cell 0
  have c1 : w.cell? ⟨b1, 0, none⟩ = some (sv s) := h1.cell 0
  have c2 : w.cell? ⟨b2, 0, none⟩ = some (.slice po e.b.length c) := h2.cell 0
  have c3 : w.cell? ⟨b2, 1, none⟩ = some (.bool false) := h2.cell 1
  have hn := h.newOf hg false
  rw [hv] at hn
  have HP := hid (put_any h s (h.nm _ (gget_mem hg)) po e.b.length c e.b false rfl hn hl (by rw [h.used_at hg]; exact h.us))
  clear h h0 h1 h2 hn
  go_enter Try.func67, Try.ntmps67
  go_wp2_with (go_at_call 66; refine HP.out.mono ?_; rintro e w1 ⟨rfl, hd1, ho1⟩)
  go_end0
  exact ⟨rfl, S, _, Grows.refl _ _, hd1, ho1⟩
theorem rename_did (h : DrC w S p m fu d L) (b0 b1 b2 b3 : Nat) (s t : Nm) (ht : okNm t = true) (e : Ent) (hg : gget L s = some e) (po : Option Addr) (c : Nat) (hv : e.v = .slice po e.b.length c) (hl : L.length < 1000000000000)
    (h0 : CAt w b0 #[ptr p] 23) (h1 : CAt w b1 #[sv s] 9) (h2 : CAt w b2 #[sv t] 9) (h3 : CAt w b3 #[.slice po e.b.length c, .bool e.l] 78) :
    Calls Try.prog 68 #[ptr b0, ptr b1, ptr b2, ptr b3] w (Did w S p m fu d (gput (gdel d.F s) t (e.b, e.l))) := by
  have c0 : w.cell? ⟨b0, 0, none⟩ = some (ptr p) := h0.cell 0
  have c1 : w.cell? ⟨b1, 0, none⟩ = some (sv s) := h1.cell 0
  have n0 := h.box_ne h0 (by decide)
  have n2 := h.box_ne h2 (by decide)
  have n3 := h.box_ne h3 (by decide)
  have HT := hid (take_any h s (by have := ok_len (h.nm _ (gget_mem hg)); unfold maxLen; simp at this; omega))
  have HN := hid (And.intro n0 (And.intro n2 n3))
  have HC := hid (And.intro h0 (And.intro h2 h3))
  have H := hid h
  clear h h0 h1 h2 h3 n0 n2 n3
  go_enter Try.func68, Try.ntmps68
  go_wp2_with (first
    | (go_at_call 69; refine HT.out.mono ?_; rintro e1 w1 ⟨rfl, hd1, ho1, hz1⟩
       have a0 := HC.out.1.keep (ho1.block b0 HC.out.1.lt (fun e => e.elim HN.out.1.1 HN.out.1.2))
       have a2 := HC.out.2.1.keep (ho1.block b2 HC.out.2.1.lt (fun e => e.elim HN.out.2.1.1 HN.out.2.1.2))
       have a3 := HC.out.2.2.keep (ho1.block b3 HC.out.2.2.lt (fun e => e.elim HN.out.2.2.1 HN.out.2.2.2))
       have d0 : w1.cell? ⟨b0, 0, none⟩ = some (ptr p) := a0.cell 0
       have d2 : w1.cell? ⟨b2, 0, none⟩ = some (sv t) := a2.cell 0
       have d3 : w1.cell? ⟨b3, 0, none⟩ = some (.slice po e.b.length c) := a3.cell 0
       have d4 : w1.cell? ⟨b3, 1, none⟩ = some (.bool e.l) := a3.cell 1
       have hne : NewE w1 S p m (gdel (gdel L s) t) ⟨.slice po e.b.length c, e.b, e.l⟩ := by
         have hn := H.out.newOf hg e.l
         rw [← hv]
         exact ⟨ownsRow_keep hn.ow fun b hb => ho1.block b (H.out.lt b (hn.sf b hb).1) (fun e => e.elim (hn.sf b hb).2.1 (hn.sf b hb).2.2), hn.by8, hn.sf, fun y hy => hn.ap y (mem_del.1 hy).1⟩
       have HP := hid (put_any hd1 t ht po e.b.length c e.b e.l rfl hne (Nat.lt_of_le_of_lt (len_del L s) hl) (by
         show usedOf (gdel (gdel d.F s) t) + e.b.length ≤ d.size
         have := H.out.used_at hg
         have := used_del (H.out.srtF.del s) t
         have := H.out.us
         omega))
       have HO1 := hid ho1
       clear a0 a2 a3 hne hd1 ho1 hz1)
    | (go_at_call 66; refine HP.out.mono ?_; rintro e2 w2 ⟨rfl, hd2, ho2⟩))
  go_end0
  exact ⟨rfl, S, _, Grows.refl _ _, hd2, HO1.out.then ho2 (fun _ _ h => h)⟩
end
#print axioms rename_did
end Go.Proofs.Ytfppmpfmafnfmaa
