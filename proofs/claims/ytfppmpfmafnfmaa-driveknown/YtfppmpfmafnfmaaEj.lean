/- Contract of Turn of package drive. -/
import Derived.Test.YtfppmpfmafnfmaaEg
import Derived.Laws.BitsAllLaws
import Derived.Laws.Closers25b
namespace Go.Proofs.Ytfppmpfmafnfmaa
open Go Go.RowKit

/-- A byte turned. -/
def turnB (bs : List Nat) (i : Nat) (mask : Nat) : List Nat := bs.set i (bs.getD i 0 ^^^ mask)
def gmod (F : List (Nm × Fi)) (s : Nm) (i mask : Nat) : List (Nm × Fi) := F.map fun p => if p.1 = s then (p.1, (turnB p.2.1 i mask, p.2.2)) else p
def Pd.turn (d : Pd) (s : Nm) (a : Int) (mask : Nat) : Nat × Pd :=
  match gget d.F s with
  | none => (6, d)
  | some x => if a < 0 ∨ (x.1.length : Int) ≤ a then (5, d) else (0, { d with F := gmod d.F s a.toNat mask })
def TurnAt (w : World) (S : Nat → Prop) (p : Nat) (fu : Option Nat) (r : Nat × Pd) (e : Ending) (w' : World) : Prop :=
  e = .returned (.int .i64 (r.1 : Int)) ∧ DrAt w' S p fu r.2 ∧ Only S w w'
def emod (s : Nm) (i mask : Nat) (p : Nm × Ent) : Nm × Ent := if p.1 = s then (p.1, ⟨p.2.v, turnB p.2.b i mask, p.2.l⟩) else p
section
variable {w : World} {S : Nat → Prop} {p m : Nat} {fu : Option Nat} {d : Pd} {L : List (Nm × Ent)}
theorem turnB_len (bs : List Nat) (i mask : Nat) : (turnB bs i mask).length = bs.length := by simp [turnB]
theorem emod_fst (s : Nm) (i mask : Nat) (q : Nm × Ent) : (emod s i mask q).1 = q.1 := by unfold emod; split <;> rfl
theorem emod_v (s : Nm) (i mask : Nat) (q : Nm × Ent) : (emod s i mask q).2.v = q.2.v := by unfold emod; split <;> rfl
theorem emod_l (s : Nm) (i mask : Nat) (q : Nm × Ent) : (emod s i mask q).2.l = q.2.l := by unfold emod; split <;> rfl
theorem emod_enc (s : Nm) (i mask : Nat) (L : List (Nm × Ent)) : mapD (L.map (emod s i mask)) = mapD L := by
  unfold mapD; rw [List.map_map]; congr 1
  refine List.map_congr_left fun q _ => ?_
  unfold Function.comp encE; rw [emod_fst, emod_v, emod_l]
theorem gmod_used (F : List (Nm × Fi)) (s : Nm) (i mask : Nat) : usedOf (gmod F s i mask) = usedOf F := by
  unfold usedOf gmod; rw [List.map_map]; congr 1
  refine List.map_congr_left fun q _ => ?_
  by_cases hq : q.1 = s <;> simp [hq, turnB_len]
theorem xor_lt {a b : Nat} (ha : a < 256) (hb : b < 256) : a ^^^ b < 256 := Nat.xor_lt_two_pow (n := 8) ha hb
/-- One byte of a file's row is written. -/
theorem DrC.turned1 (h : DrC w S p m fu d L) {s : Nm} {e : Ent} (hg : gget L s = some e) {g c : Nat} (hv : e.v = .slice (some ⟨g, 0, none⟩) e.b.length c) (i mask : Nat) (_hi : i < e.b.length) (hm : mask < 256) :
    DrC (w.setCell ⟨g, i, none⟩ (u8 (e.b.getD i 0 ^^^ mask))) S p m fu { d with F := gmod d.F s i mask } (L.map (emod s i mask)) := by
  have hmem := gget_mem hg
  have hgb : e.v.ownBlock = some g := by rw [hv]; rfl
  have hne := h.file_ne hmem hgb
  have hother : ∀ x ∈ L, x.1 ≠ s → x.2.v.ownBlock ≠ some g := fun x hx hxs hb => by
    have := h.apOf hg x (mem_del.2 ⟨hx, hxs⟩)
    rcases this with h1 | h1
    · rw [h1] at hb; cases hb
    · exact h1 (by rw [hb, hgb])
  have hk : ∀ b, b ≠ g → (w.setCell ⟨g, i, none⟩ (u8 (e.b.getD i 0 ^^^ mask))).heap[b]? = w.heap[b]? := fun b hb => heap_setCell_ne _ _ _ _ hb
  refine { c := ?_, mp := ?_, fs := ?_, ow := fun x hx => ?_, ap := ?_, by8 := fun x hx y hy => ?_, so := ?_, nm := fun x hx => ?_, sp := h.sp, sm := h.sm, sf := fun x hx b hb => ?_, lt := fun b hb => by rw [setCell_size]; exact h.lt b hb, us := ?_, sz := h.sz }
  · have := h.c.keep (hk p hne.1.symm)
    have e1 : dcells p m fu { d with F := gmod d.F s i mask } (usedOf (gmod d.F s i mask) : Int) = dcells p m fu d (usedOf d.F : Int) := by rw [gmod_used]; rfl
    rw [e1]; exact this
  · rw [emod_enc, List.length_map]; exact ownsMap_keep h.mp (hk m hne.2.symm)
  · show gmod d.F s i mask = _
    rw [h.fs]; unfold gmod gmap; rw [List.map_map, List.map_map]
    refine List.map_congr_left fun q _ => ?_
    by_cases hq : q.1 = s <;> simp [emod, hq, Ent.fi]
  · obtain ⟨y, hy, rfl⟩ := List.mem_map.1 hx
    by_cases hys : y.1 = s
    · have hye : y.2 = e := by
        have := pw_key h.so.apart hy hmem hys
        rw [this]
      have e1 : (emod s i mask y).2 = ⟨y.2.v, turnB y.2.b i mask, y.2.l⟩ := by unfold emod; rw [if_pos hys]
      rw [e1, hye]
      have ho := h.ow y hy
      rw [hye] at ho
      simp only [turnB_len]
      rw [hv] at ho ⊢
      obtain ⟨h1, h2⟩ := ho
      refine ⟨by simp [turnB], ?_⟩
      rcases h2 with ⟨h3, _⟩ | ⟨g', cap, cur, h3, h4, h5, h6, h7, h8, h9⟩
      · cases h3
      · cases h3
        have hca : CAt w g cur 5 := h5
        refine Or.inr ⟨g, c, cur.setIfInBounds i (u8 (e.b.getD i 0 ^^^ mask)), rfl, h4, hca.set i _, h6, h7, by simpa using h8, ?_⟩
        rw [Array.toList_setIfInBounds, List.take_set, h9]
        unfold turnB
        rw [List.map_set]
    · have e1 : emod s i mask y = y := by unfold emod; rw [if_neg hys]
      rw [e1]
      exact ownsRow_keep (h.ow y hy) fun b hb => hk b fun e => hother y hy hys (by rw [hb, e])
  · refine List.pairwise_map.2 (h.ap.imp fun {a b} hab => ?_)
    rw [emod_v, emod_v]; exact hab
  · obtain ⟨z, hz, rfl⟩ := List.mem_map.1 hx
    unfold emod at hy
    split at hy
    · simp only [turnB] at hy
      rcases List.mem_or_eq_of_mem_set hy with h1 | h1
      · exact h.by8 z hz y h1
      · rw [h1]
        refine xor_lt ?_ hm
        by_cases hl : i < z.2.b.length
        · rw [getD_in _ _ _ hl]; exact h.by8 z hz _ (List.getElem_mem hl)
        · have : z.2.b.getD i 0 = 0 := by simp [List.getD, List.getElem?_eq_none (Nat.le_of_not_lt hl)]
          rw [this]; omega
    · exact h.by8 z hz y hy
  · refine List.pairwise_map.2 (h.so.imp fun {a b} hab => ?_)
    rw [emod_fst, emod_fst]; exact hab
  · obtain ⟨z, hz, rfl⟩ := List.mem_map.1 hx
    rw [emod_fst]; exact h.nm z hz
  · obtain ⟨z, hz, rfl⟩ := List.mem_map.1 hx
    rw [emod_v] at hb; exact h.sf z hz b hb
  · show usedOf (gmod d.F s i mask) ≤ d.size
    rw [gmod_used]; exact h.us
set_option maxHeartbeats 1000000 in
set_option maxRecDepth 100000 in
theorem turn_any (h : DrC w S p m fu d L) (s : Nm) (hs : s.length ≤ maxLen) (a : Int) (ha : -9223372036854775808 ≤ a ∧ a ≤ 9223372036854775807) (mask : Nat) (hm : mask < 256) :
    Calls Try.prog 29 #[ptr p, sv s, .int .i64 a, .int .u8 (mask : Int)] w (TurnAt w S p fu (d.turn s a mask)) := by
  have H := hid h
  have hmade := made_any h
  have c2 : w.cell? ⟨p, 2, none⟩ = some (.map (some m)) := h.c.cell 2
  have hp := h.c.lt
  clear h
  cases hg : gget L s with
  | none =>
    have HE : Hid (d.turn s a mask = (6, d)) := hid (by unfold Pd.turn; rw [H.out.fs, gget_map, hg]; rfl)
    go_enter Try.func29, Try.ntmps29
    go_wp2_with (first
      | (go_at_call 40; refine hmade.mono ?_; rintro e w' ⟨rfl, hw'⟩; have hw2 := hw'.symm; subst hw2)
      | (at_lookup; refine wpList_look _ rfl _ _ true rfl H.out.mp hs rfl rfl (r := .tuple #[.agg #[.slice none 0 0, .bool false], .bool false]) (by rw [hg]; rfl) ?_))
    go_ret
    rw [HE.out]
    exact ⟨rfl, ⟨m, L, H.out.alloc _⟩, Only.alloc _ _⟩
  | some e =>
    obtain ⟨po, cc, hev⟩ := own_form (H.out.ow _ (gget_mem hg))
    simp only at hev
    have HEV := hid hev
    clear hev
    have HGF : Hid (gget d.F s = some (e.b, e.l)) := hid (by rw [H.out.fs, gget_map, hg]; rfl)
    by_cases hr : a < 0 ∨ (e.b.length : Int) ≤ a
    · have HE : Hid (d.turn s a mask = (5, d)) := hid (by unfold Pd.turn; rw [HGF.out]; simp only; rw [if_pos hr])
      by_cases h0 : a < 0
      · go_enter Try.func29, Try.ntmps29
        go_wp2_with (first
          | (go_at_call 40; refine hmade.mono ?_; rintro e w' ⟨rfl, hw'⟩; have hw2 := hw'.symm; subst hw2)
          | (at_lookup; refine wpList_look _ rfl _ _ true rfl H.out.mp hs rfl rfl (r := .tuple #[.agg #[.slice po e.b.length cc, .bool e.l], .bool true]) (by rw [hg, ← HEV.out]; rfl) ?_))
        go_ret
        rw [HE.out]
        exact ⟨rfl, ⟨m, L, H.out.alloc _⟩, Only.alloc _ _⟩
      · have h1 : (e.b.length : Int) ≤ a := by omega
        go_enter Try.func29, Try.ntmps29
        go_wp2_with (first
          | (go_at_call 40; refine hmade.mono ?_; rintro e w' ⟨rfl, hw'⟩; have hw2 := hw'.symm; subst hw2)
          | (at_lookup; refine wpList_look _ rfl _ _ true rfl H.out.mp hs rfl rfl (r := .tuple #[.agg #[.slice po e.b.length cc, .bool e.l], .bool true]) (by rw [hg, ← HEV.out]; rfl) ?_))
        go_ret
        rw [HE.out]
        exact ⟨rfl, ⟨m, L, H.out.alloc _⟩, Only.alloc _ _⟩
    · obtain ⟨i, rfl⟩ : ∃ i : Nat, a = (i : Int) := ⟨a.toNat, by omega⟩
      have hi : i < e.b.length := by omega
      have HE : Hid (d.turn s (i : Int) mask = (0, { d with F := gmod d.F s i mask })) := hid (by unfold Pd.turn; rw [HGF.out]; simp only; rw [if_neg hr]; rfl)
      have hrow : ∃ g, po = some ⟨g, 0, none⟩ := by
        rcases (H.out.ow _ (gget_mem hg)).2 with ⟨h1, h2⟩ | ⟨g, cap, cur, h1, _⟩
        · simp only at h2; omega
        · simp only at h1; rw [HEV.out] at h1; cases h1; exact ⟨g, rfl⟩
      obtain ⟨g, rfl⟩ := hrow
      have HD := hid (H.out.turned1 hg HEV.out i mask hi hm)
      have hgb : e.v.ownBlock = some g := by rw [HEV.out]; rfl
      have hgl : g < w.heap.size := H.out.lt g (H.out.sf _ (gget_mem hg) g hgb)
      have hcell : w.cell? ⟨g, i, none⟩ = some (.int .u8 ((e.b.getD i 0 : Nat) : Int)) := by
        have := H.out.ow _ (gget_mem hg)
        simp only at this
        rw [HEV.out] at this
        rcases own_BAt this with ⟨h1, _⟩ | ⟨a', h1, h2⟩
        · cases h1
        · cases h1
          have h3 := h2 i hi
          rw [add_none] at h3
          rw [Nat.zero_add] at h3; exact h3
      have hfr : w.frozen? ⟨g, i, none⟩ = false := by
        obtain ⟨cur, hc⟩ := H.out.file_at (gget_mem hg) hgb
        exact CAt.free (cs := cur) (t := 5) hc i
      have hx8 : e.b.getD i 0 < 256 := by rw [getD_in _ _ _ hi]; exact H.out.by8 _ (gget_mem hg) _ (List.getElem_mem hi)
      have hxor : bits .xor .u8 ((e.b.getD i 0 : Nat) : Int) (mask : Int) = (((e.b.getD i 0 ^^^ mask : Nat)) : Int) := u8_xor_nat _ _ hx8 hm
      have HS := hid (H.out.sf _ (gget_mem hg) g hgb)
      have h1 : ¬ (i : Int) < 0 := by omega
      have h2 : ¬ (e.b.length : Int) ≤ (i : Int) := by omega
      unfold u8 at HD
      generalize e.b.getD i 0 ^^^ mask = y at *
      generalize e.b.getD i 0 = z at *
      clear hr hgb
      go_enter Try.func29, Try.ntmps29
      go_wp2_with (first
        | (go_at_call 40; refine hmade.mono ?_; rintro e w' ⟨rfl, hw'⟩; have hw2 := hw'.symm; subst hw2)
        | (at_lookup; refine wpList_look _ rfl _ _ true rfl H.out.mp hs rfl rfl (r := .tuple #[.agg #[.slice (some ⟨g, 0, none⟩) e.b.length cc, .bool e.l], .bool true]) (by rw [hg, ← HEV.out]; rfl) ?_))
      go_ret
      rw [HE.out]
      exact ⟨rfl, ⟨m, _, HD.out.alloc _⟩, (Only.set (S := S) w ⟨g, i, none⟩ _ HS.out).then (Only.alloc (S := S) _ _) (fun _ _ h => h)⟩
#print axioms turn_any
end
end Go.Proofs.Ytfppmpfmafnfmaa
