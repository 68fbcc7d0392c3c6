/- Contract of Write of package drive. -/
import Derived.Test.YtfppmpfmafnfmaaDk
namespace Go.Proofs.Ytfppmpfmafnfmaa
open Go Go.RowKit

/-- Bytes that a slice tells. -/
def BAt (w : World) (po : Option Addr) (bs : List Nat) : Prop := (po = none ∧ bs = []) ∨ ∃ a, po = some a ∧ ∀ i, i < bs.length → w.cell? (a.add i) = some (.int .u8 ((bs.getD i 0 : Nat) : Int))
theorem BAt.below {w w' : World} {po : Option Addr} {bs : List Nat} (h : BAt w po bs) (hk : ∀ a, w.cell? a ≠ none → w'.cell? a = w.cell? a) : BAt w' po bs := by
  rcases h with h | ⟨a, rfl, h⟩
  · exact Or.inl h
  · exact Or.inr ⟨a, rfl, fun i hi => (hk _ (by rw [h i hi]; simp)).trans (h i hi)⟩
theorem cell_lt' {w : World} {a : Addr} (h : w.cell? a ≠ none) : a.block < w.heap.size := by
  rcases Nat.lt_or_ge a.block w.heap.size with h1 | h1
  · exact h1
  · exact absurd (by simp [World.cell?, Array.getElem?_eq_none h1]) h
theorem BAt.keepB {w w' : World} {po : Option Addr} {bs : List Nat} (h : BAt w po bs) (hb : Below w.heap.size w w') : BAt w' po bs :=
  h.below fun a ha => World.cell?_of_block (hb.block a.block (cell_lt' ha))
/-- A copy of bytes in memory of its own. -/
def CloneAt (w : World) (bs : List Nat) (e : Ending) (w' : World) : Prop :=
  ∃ po c, e = .returned (.slice po bs.length c) ∧ w'.ownsRow w.heap.size 5 1 (.slice po bs.length c) bs.length (bs.map u8) ∧ Below w.heap.size w w'
theorem clone_any (po : Option Addr) (c : Nat) (bs : List Nat) (w : World) (h : BAt w po bs) (hn : bs.length ≤ 140737488355328) : Calls Try.prog 41 #[.slice po bs.length c] w (CloneAt w bs) := by
  rcases h with ⟨rfl, rfl⟩ | ⟨a, rfl, h⟩
  · refine (Try.bytes_Clone_nil 0 c w).mono ?_
    rintro e w' ⟨rfl, rfl⟩
    exact ⟨none, 0, rfl, World.ownsRow_nil _ _ _ _, Below.refl _ _⟩
  · refine (Try.bytes_Clone_at a bs.length c (bs.map fun (k : Nat) => (k : Int)) w (by simp) hn (fun i hi => ?_)).mono ?_
    · rw [h i hi]; simp [List.getD, List.getElem?_eq_getElem hi]
    · rintro e w' ⟨v, rfl, ho, _, hb⟩
      obtain ⟨po, cc, rfl⟩ := own_form ho
      refine ⟨po, cc, rfl, ?_, hb⟩
      have : (bs.map fun (k : Nat) => (k : Int)).map (Value.int .u8) = bs.map u8 := by simp [u8, Function.comp_def]
      rw [← this]; exact ho
theorem own_ge {w : World} {B e sz n : Nat} {v : Value} {xs : List Value} (h : w.ownsRow B e sz v n xs) : ∀ b, v.ownBlock = some b → B ≤ b ∧ b < w.heap.size := fun b hb => World.ownsRow.lt h b hb
theorem own_base {w : World} {B B2 e sz n : Nat} {v : Value} {xs : List Value} (h : w.ownsRow B e sz v n xs) (hB : B2 ≤ B) : w.ownsRow B2 e sz v n xs := by
  refine ⟨h.1, ?_⟩
  rcases h.2 with h2 | ⟨g, cap, cur, rfl, hb, r⟩
  · exact Or.inl h2
  · exact Or.inr ⟨g, cap, cur, rfl, Nat.le_trans hB hb, r⟩
section
variable {w : World} {S : Nat → Prop} {p m : Nat} {fu : Option Nat} {d : Pd} {L : List (Nm × Ent)}
/-- Behind a copy: the drive with the copy's block among its own, and the copy as a file. -/
theorem DrC.withNew (h : DrC w S p m fu d L) {bs : List Nat} (h8 : ∀ y ∈ bs, y < 256) {w1 : World} {v : Value} (ho : w1.ownsRow w.heap.size 5 1 v bs.length (bs.map u8)) (hb : Below w.heap.size w w1) (s : Nm) (l : Bool) :
    DrC w1 (grw S w w1) p m fu d L ∧ Grows w S (grw S w w1) ∧ NewE w1 (grw S w w1) p m (gdel L s) ⟨v, bs, l⟩ := by
  have h1 := h.below hb
  refine ⟨h1.wide (fun b hb => Or.inl hb) (fun b hb' => hb'.elim (h1.lt b) (·.2)), ⟨fun b hb => Or.inl hb, fun b hb => hb.imp id (·.1)⟩, ⟨own_base ho (Nat.zero_le _), h8, fun b hb' => ?_, fun x hx => ?_⟩⟩
  · have := own_ge ho b hb'
    exact ⟨Or.inr this, fun e => by have := h.lt p h.sp; omega, fun e => by have := h.lt m h.sm; omega⟩
  · by_cases e : x.2.v.ownBlock = none
    · exact Or.inl e
    · refine Or.inr fun e2 => ?_
      obtain ⟨b, hb1⟩ := Option.ne_none_iff_exists'.1 e
      have h2 := h.lt b (h.sf x (mem_del.1 hx).1 b hb1)
      rw [hb1] at e2
      have := own_ge ho b e2.symm
      omega
set_option maxRecDepth 100000 in
theorem write_did (h : DrC w S p m fu d L) (b0 b1 b2 : Nat) (s : Nm) (hs : okNm s = true) (po : Option Addr) (c : Nat) (bs : List Nat) (h8 : ∀ y ∈ bs, y < 256) (hx : BAt w po bs) (hn : bs.length ≤ 67108864) (hl : L.length < 1000000000000)
    (hu : usedOf (gdel d.F s) + bs.length ≤ d.size)
    (h0 : CAt w b0 #[ptr p] 23) (h1 : CAt w b1 #[sv s] 9) (h2 : CAt w b2 #[.slice po bs.length c] 33) :
    Calls Try.prog 65 #[ptr b0, ptr b1, ptr b2] w (Did w S p m fu d (gput d.F s (bs, true))) := by
  have c0 : w.cell? ⟨b0, 0, none⟩ = some (ptr p) := h0.cell 0
  have c1 : w.cell? ⟨b1, 0, none⟩ = some (sv s) := h1.cell 0
  have c2 : w.cell? ⟨b2, 0, none⟩ = some (.slice po bs.length c) := h2.cell 0
  have l0 := h0.lt
  have l1 := h1.lt
  have l2 := h2.lt
  have HN := hid (And.intro (h.box_ne h0 (by decide)) (And.intro (h.box_ne h1 (by decide)) (h.box_ne h2 (by decide))))
  have H := hid h
  have HX := hid hx
  have H8 := hid h8
  have HL := hid hl
  have HU := hid hu
  clear h h0 h1 h2 hx h8 hl hu
  go_enter Try.func65, Try.ntmps65
  go_wp2_with fail
  go_region_held3 (fun w' => w'.cell? ⟨b0, 0, none⟩ = some (ptr p) ∧ w'.cell? ⟨b1, 0, none⟩ = some (sv s) ∧ w'.cell? ⟨b2, 0, none⟩ = some (.slice po bs.length c)) (first | exact ⟨c0, c1, c2⟩ | exact ⟨(World.cell?_of_block (hb1.block b0 l0)).trans c0, (World.cell?_of_block (hb1.block b1 l1)).trans c1, (World.cell?_of_block (hb1.block b2 l2)).trans c2⟩ | exact ⟨(World.cell?_of_block (ho2.block b0 (Nat.lt_of_lt_of_le l0 hb1.size) (fun e => e.elim HN.out.1.1 HN.out.1.2))).trans ((World.cell?_of_block (hb1.block b0 l0)).trans c0), (World.cell?_of_block (ho2.block b1 (Nat.lt_of_lt_of_le l1 hb1.size) (fun e => e.elim HN.out.2.1.1 HN.out.2.1.2))).trans ((World.cell?_of_block (hb1.block b1 l1)).trans c1), (World.cell?_of_block (ho2.block b2 (Nat.lt_of_lt_of_le l2 hb1.size) (fun e => e.elim HN.out.2.2.1 HN.out.2.2.2))).trans ((World.cell?_of_block (hb1.block b2 l2)).trans c2)⟩) (first | (go_at_call 41; refine (clone_any po c bs w.drew HX.out (by omega)).mono ?_; rintro e w1 ⟨pv, cv, rfl, ho1, hb0⟩; have hb1 : Below w.heap.size w w1 := ⟨hb0.os, hb0.tape, hb0.output, hb0.size, hb0.block⟩) | (go_at_call 66; refine (put_any (H.out.withNew H8.out ho1 hb1 s true).1 s hs pv bs.length cv bs true rfl (H.out.withNew H8.out ho1 hb1 s true).2.2 HL.out HU.out).mono ?_; rintro e2 w2 ⟨rfl, hd2, ho2⟩))
  go_end0
  exact ⟨rfl, _, _, (H.out.withNew H8.out ho1 hb1 s true).2.1, hd2, (Only.of_below hb1).then ho2 (fun _ _ h => h)⟩
/-- No byte lies in a fuse. -/
theorem BAt.keepFu {w1 w2 : World} {po : Option Addr} {bs : List Nat} {f : Fs} (h : BAt w1 po bs) (hf : FuAt w1 S fu f) (ho : Only (fun b => fu = some b) w1 w2) : BAt w2 po bs := by
  rcases h with h | ⟨a, rfl, h⟩
  · exact Or.inl h
  · refine Or.inr ⟨a, rfl, fun i hi => ?_⟩
    have hc := h i hi
    refine (World.cell?_of_block (ho.block (a.add i).block (cell_lt' (by rw [hc]; simp)) ?_)).trans hc
    intro e
    match fu, f, hf with
    | some q, some (n, g), hf =>
      have hq : w1.heap[q]? = _ := hf.1
      have e' : (a.add i).block = q := by cases e; rfl
      unfold World.cell? at hc
      rw [e', hq] at hc
      generalize (a.add i).off = o at hc
      rcases o with _ | _ | o <;> simp at hc
theorem below_drewN (w : World) (n : Nat) : Below w.heap.size w (w.drewN n) := ⟨rfl, rfl, rfl, Nat.le_refl _, fun _ _ => rfl⟩
theorem Three.on {f : Fs} {s : Nm} {x : Value} {tx : TypeId} {w1 w2 : World} (h : Three w w1 S p m fu d L f s x tx) (hb : Below w1.heap.size w1 w2) : Three w w2 S p m fu d L f s x tx :=
  ⟨h.b0.below hb, h.b1.below hb, h.b2.below hb, h.dr.below hb, h.fu.below hb, below_on _ _ h.be hb⟩
theorem write_bad {f : Fs} {s : Nm} {bs : List Nat} (h : d.ans f [s] ≠ 0) : d.write f s bs = (d.ans f [s], d, f) := by unfold Pd.write; rw [if_pos h]
theorem write_full {f : Fs} {s : Nm} {bs : List Nat} (h : d.ans f [s] = 0) (h2 : d.full = true ∨ d.size < usedOf (gdel d.F s) + bs.length) : d.write f s bs = (8, d, f) := by
  unfold Pd.write; rw [if_neg (by simp [h]), if_pos]
  rcases h2 with h2 | h2 <;> simp [h2]
theorem write_ok {f : Fs} {s : Nm} {bs : List Nat} (h : d.ans f [s] = 0) (h2 : d.full = false) (h3 : usedOf (gdel d.F s) + bs.length ≤ d.size) : d.write f s bs = d.chg f (gput d.F s (bs, true)) := by
  unfold Pd.write; rw [if_neg (by simp [h]), if_neg]
  simp [h2]; omega
set_option maxRecDepth 100000 in
theorem write_any (h : DrC w S p m fu d L) {f : Fs} (hf : FuAt w S fu f) (s : Nm) (hs : s.length ≤ maxLen) (po : Option Addr) (c : Nat) (bs : List Nat) (h8 : ∀ y ∈ bs, y < 256) (hx : BAt w po bs) (hn : bs.length ≤ 140737488355328) (ho : d.ops < 1000000000000) (hl : d.F.length < 1000000000000) :
    Calls Try.prog 23 #[ptr p, sv s, .slice po bs.length c] w (Done w S p fu (d.write f s bs)) := by
  have H := hid h
  have HF := hid hf
  have HX := hid hx
  have H8 := hid h8
  have HA := hid (fun (o1 o2 o3 o4 : Obj) v hv => answers_any ((((h.alloc o1).alloc o2).alloc o3).alloc o4) ((((hf.alloc o1).alloc o2).alloc o3).alloc o4) v [s] hv (by simp) (by simpa using hs))
  have HL : Hid (L.length < 1000000000000) := hid (by rw [h.lenF]; exact hl)
  clear h hf hx h8
  by_cases ha : d.ans f [s] = 0
  · have HOK : Hid (okNm s = true) := hid (by
      unfold Pd.ans at ha
      cases h1 : d.isOut f <;> cases h2 : d.offl <;> cases h3 : okNm s <;> simp [h1, h2, h3] at ha ⊢)
    go_enter Try.func23, Try.ntmps23
    go_wp2_with (first
      | (go_at_call 60; refine (HA.out _ _ _ _ _ (txt_one _ _ _ _ _ (by simp))).mono ?_; rintro e w' ⟨rfl, hw'⟩; rw [ha]; have hw2 := hw'.symm; subst hw2))
    have HT := hid (Three.mk0 H.out HF.out s (.slice po bs.length c) 33 (.cells #[sv s] 9))
    have HX1 := hid (HX.out.keepB (below3 w (.cells #[ptr p] 23) (.cells #[sv s] 9) (.cells #[.slice po bs.length c] 33) (.cells #[sv s] 9)))
    generalize ((((w.alloc (.cells #[ptr p] 23)).alloc (.cells #[sv s] 9)).alloc (.cells #[.slice po bs.length c] 33)).alloc (.cells #[sv s] 9)) = w4 at *
    obtain ⟨pe, ce, le, hent⟩ := H.out.entry s
    have hd := used_del H.out.srtF s
    have hus := H.out.us
    have hsz := H.out.sz
    have hlk : ∀ n, (Instr.lookup 48 (.map (some m)) (sv s) false).run Try.prog (w4.drewN n) = .ok (.agg #[.slice pe (lenAt d.F s) ce, .bool le]) (w4.drewN n) := fun n => by
      rw [look_len (drewN_own HT.out.dr.mp) s hs, hent]
    have hfd := run_field0 (.slice pe (lenAt d.F s) ce) le
    have e0 : w4.cell? ⟨w.heap.size, 0, none⟩ = some (ptr p) := HT.out.b0.cell 0
    have e1 : w4.cell? ⟨w.heap.size + 1, 0, none⟩ = some (sv s) := HT.out.b1.cell 0
    have d2 : w4.cell? ⟨p, 2, none⟩ = some (.map (some m)) := HT.out.dr.c.cell 2
    have d3 : w4.cell? ⟨p, 3, none⟩ = some (.int .i64 (usedOf d.F : Int)) := HT.out.dr.c.cell 3
    generalize hA : usedOf d.F = A at *
    generalize hB : lenAt d.F s = B at *
    generalize hC : usedOf (gdel d.F s) = C at *
    have HC := hid hC
    clear hA hB hC hent
    have hd' := hd.symm
    subst hd'
    refine wp_region_tail 13 (by kernel_rfl) rfl (by kernel_rfl) ?_
    dsimp only [List.take]
    repeat (go_big_quiet_step (fail))
    refine wpQuiet_nil ?_
    intro nr
    have HT := hid (HT.out.on (below_drewN w4 nr))
    have HX1 := hid (HX1.out.keepB (below_drewN w4 nr))
    clear hlk hfd e0 e1 d2 d3
    generalize w4.drewN nr = w5 at *
    go_wp2
    have e0 : w5.cell? ⟨w.heap.size, 0, none⟩ = some (ptr p) := HT.out.b0.cell 0
    have e2 : w5.cell? ⟨w.heap.size + 1 + 1, 0, none⟩ = some (.slice po bs.length c) := HT.out.b2.cell 0
    have d1 : w5.cell? ⟨p, 1, none⟩ = some (.int .i64 (d.size : Int)) := HT.out.dr.c.cell 1
    have d6 : w5.cell? ⟨p, 6, none⟩ = some (.bool d.full) := HT.out.dr.c.cell 6
    cases hfu : d.full
    · rw [hfu] at d6
      by_cases hbig : d.size < C + bs.length
      · have HEQ := hid (write_full (bs := bs) ha (Or.inr (by rw [HC.out]; exact hbig)))
        have hcmp : (d.size : Int) - (C : Int) < (bs.length : Int) := by omega
        refine wp_region_tail 14 (by kernel_rfl) rfl (by kernel_rfl) ?_
        dsimp only [List.take]
        repeat (go_big_quiet_step (fail))
        refine wpQuiet_nil ?_
        intro nr2
        go_wp2
        go_ret
        rw [HEQ.out]
        exact (HT.out.on (below_drewN w5 nr2)).same 8
      · have HEQ := hid (write_ok (bs := bs) ha hfu (by rw [HC.out]; omega))
        have hcmp : ¬ (d.size : Int) - (C : Int) < (bs.length : Int) := by omega
        refine wp_region_tail 14 (by kernel_rfl) rfl (by kernel_rfl) ?_
        dsimp only [List.take]
        repeat (go_big_quiet_step (fail))
        refine wpQuiet_nil ?_
        intro nr2
        have HT := hid (HT.out.on (below_drewN w5 nr2))
        have HX1 := hid (HX1.out.keepB (below_drewN w5 nr2))
        clear e0 e2 d1 d6
        generalize w5.drewN nr2 = w6 at *
        have e0 : w6.cell? ⟨w.heap.size, 0, none⟩ = some (ptr p) := HT.out.b0.cell 0
        go_wp2_with (first
          | (go_at_call 64; refine (change_w HT.out.dr HT.out.fu ho _ _ _ (gput d.F s (bs, true)) (fun w2 hd2 ho2 hz2 => write_did hd2 _ _ _ s HOK.out po c bs H8.out (HX1.out.keepFu HT.out.fu ho2) (by omega) HL.out (by rw [HC.out]; omega) (HT.out.box HF.out ho2 (Nat.le_refl _) HT.out.b0) (HT.out.box HF.out ho2 (by omega) HT.out.b1) (HT.out.box HF.out ho2 (by omega) HT.out.b2))).mono ?_; rintro e2 w2 ⟨rfl, hR⟩; have HR := hid hR; clear hR))
        go_ret
        rw [HEQ.out]
        exact Done.from HT.out.be ⟨rfl, HR.out⟩
    · rw [hfu] at d6
      have HEQ := hid (write_full (bs := bs) ha (Or.inl hfu))
      refine wp_region_tail 14 (by kernel_rfl) rfl (by kernel_rfl) ?_
      dsimp only [List.take]
      repeat (go_big_quiet_step (fail))
      refine wpQuiet_nil ?_
      intro nr2
      go_wp2
      go_ret
      rw [HEQ.out]
      exact (HT.out.on (below_drewN w5 nr2)).same 8
  · have HEQ := hid (write_bad (bs := bs) ha)
    have ha' : ((d.ans f [s] : Nat) : Int) ≠ 0 := by omega
    generalize hx : d.ans f [s] = x at *
    go_enter Try.func23, Try.ntmps23
    go_wp2_with (first
      | (go_at_call 60; refine (HA.out _ _ _ _ _ (txt_one _ _ _ _ _ (by simp))).mono ?_; rintro e w' ⟨rfl, hw'⟩; have hw2 := hw'.symm; subst hw2))
    go_ret
    rw [HEQ.out]
    exact (Three.mk0 H.out HF.out s (.slice po bs.length c) 33 _).same x
#print axioms write_any
end
end Go.Proofs.Ytfppmpfmafnfmaa
