/- Texts laid into one, cut to what is needed: the remark ahead of each part says what is proved there. -/
import Derived.Test.YtelkijiphhoacaaDoorLan
/- lookAtDigest; readNumber, readSeq, readCount. -/
namespace Go.Proofs.YtelkijiphhoacaaDoor
open Go Go.RowKit

theorem run_from8s (b o n c l : Nat) (hl : l ≤ n) (hlt : l < c) (w : World) : (Instr.slice 29 (.slice (some ⟨b, o, none⟩) n c) (some (.int .i64 (l : Int))) none none).run Tryd.prog w = .ok (.slice (some ⟨b, o + l, none⟩) (n - l) (c - l)) w := by
  rw [run_slice_l (P := Tryd.prog) w 29 _ n c underE8 .i64 (l : Int) (by omega) (by omega), elem8]
  have e : ¬ c = l := by omega
  simp [Result.andThen, sliced, e, add_none]
theorem run_mid8s (b o n c l h : Nat) (hl : l ≤ h) (hh : h ≤ c) (hlt : l < c) (w : World) : (Instr.slice 29 (.slice (some ⟨b, o, none⟩) n c) (some (.int .i64 (l : Int))) (some (.int .i64 (h : Int))) none).run Tryd.prog w = .ok (.slice (some ⟨b, o + l, none⟩) (h - l) (c - l)) w := by
  rw [run_slice_lh (P := Tryd.prog) w 29 _ n c underE8 .i64 .i64 (l : Int) (h : Int) (by omega) (by omega) (by omega), elem8]
  have e : ¬ c = l := by omega
  simp [Result.andThen, sliced, e, add_none]
theorem CAt.r0 {w : World} {p : Nat} {l : Value} {n s : Int} {r : Value} {t : TypeId} (h : CAt w p (rC l n s r) t) (v : Value) : CAt (w.setCell ⟨p, 0, none⟩ v) p (rC v n s r) t := h.set 0 v
theorem CAt.r1 {w : World} {p : Nat} {l : Value} {n s : Int} {r : Value} {t : TypeId} (h : CAt w p (rC l n s r) t) (k : Int) : CAt (w.setCell ⟨p, 1, none⟩ (i64 k)) p (rC l k s r) t := h.set 1 _
theorem CAt.r2 {w : World} {p : Nat} {l : Value} {n s : Int} {r : Value} {t : TypeId} (h : CAt w p (rC l n s r) t) (k : Int) : CAt (w.setCell ⟨p, 2, none⟩ (i64 k)) p (rC l n k r) t := h.set 2 _
theorem CAt.r3 {w : World} {p : Nat} {l : Value} {n s : Int} {r : Value} {t : TypeId} (h : CAt w p (rC l n s r) t) (v : Value) : CAt (w.setCell ⟨p, 3, none⟩ v) p (rC l n s v) t := h.set 3 v
/-- What is left has become other bytes. -/
def NxtS (w : World) (p : Nat) (M : List Nat) (n s : Int) (r : Value) (e : Ending) (w' : World) : Prop := e = .returned .nilIface ∧ Only (fun b => b = p) w w' ∧ ∃ po c, RdC w' p po M c n s r
theorem RdC.sub {w W : World} {p b o : Nat} {L : List Nat} {c : Nat} {n s : Int} {r : Value} (h : RdC w p (some ⟨b, o, none⟩) L c n s r) (hb : Below w.heap.size w W) {E : Nat} (hE : E ≤ L.length) (h3 : 3 ≤ E) : RdC (W.setCell ⟨p, 0, none⟩ (.slice (some ⟨b, o + 3, none⟩) (E - 3) (c - 3))) p (some ⟨b, o + 3, none⟩) ((L.take E).drop 3) (c - 3) n s r := by
  have hl : ((L.take E).drop 3).length = E - 3 := by rw [List.length_drop, len_take hE]
  have hle := h.le
  have hlt := h.lt
  have hne : L ≠ [] := fun e => by rw [e] at hE; simp at hE; omega
  refine ⟨by rw [hl]; exact (h.at_.below hb).r0 _, ?_, fun _ a e => by cases e; exact h.ap hne ⟨b, o, none⟩ rfl, by omega, by omega, fun z hz => h.b8 z (List.mem_of_mem_take (List.mem_of_mem_drop hz))⟩
  exact ((((h.bl.below hb).take E).drop 3).onlyAt (Only.set (S := fun b => b = p) W ⟨p, 0, none⟩ _ rfl) (fun _ a e => by cases e; exact h.ap hne ⟨b, o, none⟩ rfl))
theorem digest_split {L : List Nat} (h : 35 ≤ L.length) : ∃ E, L.length = E + 32 ∧ 3 ≤ E := ⟨L.length - 32, by omega, by omega⟩
set_option maxRecDepth 100000 in
set_option maxHeartbeats 2000000 in
theorem digest_bad (p : Nat) (po : Option Addr) (L : List Nat) (c : Nat) (n s : Int) (r : Value) (w : World) (a0 a1 : Addr) (h : RdC w p po L c n s r) (he : Ers w a0 a1) (hl : 35 ≤ L.length) (hq : dig (L.take (L.length - 32)) ≠ L.drop (L.length - 32)) : Calls Tryd.prog 51 #[ptr p] w fun e w' => e = .returned (eV a0) ∧ Below w.heap.size w w' := by
  obtain ⟨E, hE, hE3⟩ := digest_split hl
  rw [show L.length - 32 = E by omega] at hq
  obtain ⟨b, o, rfl, hcells⟩ : ∃ b o, po = some ⟨b, o, none⟩ ∧ ∀ i, i < L.length → w.cell? ⟨b, o + i, none⟩ = some (u8 (L.getD i 0)) := by
    rcases h.bl with k | k
    · rw [k] at hl; simp at hl
    · exact k
  have hle := h.le
  have hlt := h.lt
  have c0 := h.c0
  rw [hE] at c0
  have hs1 := run_head8n (some ⟨b, o, none⟩) (E + 32) c E (by omega)
  have hs2 : ∀ w, (Instr.slice 29 (.slice (some ⟨b, o, none⟩) (E + 32) c) (some (.int .i64 (E : Int))) none none).run Tryd.prog w = .ok (.slice (some ⟨b, o + E, none⟩) 32 (c - E)) w := fun w => by have := run_from8s b o (E + 32) c E (by omega) (by omega) w; rwa [show E + 32 - E = 32 by omega] at this
  obtain ⟨D, hD⟩ : ∃ D, dig (L.take E) = D := ⟨_, rfl⟩
  have hDl : D.length = 32 := by rw [← hD]; exact dig_len _
  have hD8 : ∀ z ∈ D, z < 256 := by rw [← hD]; exact dig_lt _
  rw [hD] at hq
  have hE32 : (L.drop E).length = 32 := by rw [List.length_drop]; omega
  have HSUM : Hid (Calls Tryd.prog 23 #[.slice (some ⟨b, o, none⟩) E c] w fun e w' => e = .returned (.agg (sumC D)) ∧ Below w.heap.size w w') := hid (by
    have := dsum_any (some ⟨b, o, none⟩) c (L.take E) w (by rw [len_take (by omega)]; omega) (by rw [len_take (by omega)]; omega) (h.bl.take E) (fun z hz => h.b8 z (List.mem_of_mem_take hz))
    rw [len_take (by omega), hD] at this
    exact this)
  have HEQ : Hid (∀ W g, Below w.heap.size w W → CAt W g (sumC D) 57 → Calls Tryd.prog 66 #[.slice (some ⟨g, 0, none⟩) 32 32, .slice (some ⟨b, o + E, none⟩) 32 (c - E)] W fun e w' => e = .returned (.bool false) ∧ w' = W) := hid (fun W g hW hg => by
    have := equalB_any (some ⟨g, 0, none⟩) (some ⟨b, o + E, none⟩) 32 (c - E) D (L.drop E) W hg.bl ((h.bl.below hW).drop E) hD8 (fun z hz => h.b8 z (List.mem_of_mem_drop hz))
    rw [hDl, hE32, decide_eq_false hq] at this
    exact this)
  have HH := hid h
  have HER := hid he
  have HE := hid hE
  have hEi : (E : Int) ≤ 100000 := by omega
  clear h he hcells hq hD hD8 hE32 hE hl
  have hsd := run_dig
  go_enter Tryd.func51, Tryd.ntmps51
  go_upto_region 3 with (first
    | (go_at_call 23; refine HSUM.out.mono ?_; rintro e w1 ⟨rfl, hb1⟩; have HB1 := hid hb1; clear hb1 c0)
    | ((with_reducible refine wpList_allocD rfl rfl ?_); intro w2 g2 hz2 hb2 hg2; have HZ2 := hid hz2; have HB2 := hid (below_on HB1.out hb2); have HG2 := hid (show w.heap.size ≤ g2 by have := HB1.out.size; omega); clear hz2 hb2 hg2)
    | ((with_reducible refine wpList_storeD rfl rfl _ _ rfl g2 ?_ (m := zeroD) (n := D) ?_ ?_ hDl HZ2.out ?_); exact rfl; exact rfl; exact rfl; intro w3 h3 o3; have HB3 := hid (below_tr HB2.out (o3.below HB2.out.size (fun i e => by have := HG2.out; omega))); have HC3 := hid h3; clear h3 o3 HZ2))
  have c0 := (HH.out.below HB3.out).c0
  rw [HE.out] at c0
  simp only [Act.put, List.setIfInBounds_toArray, List.set_cons_zero, List.set_cons_succ]
  have e0 := (HER.out.below HB3.out).c0
  have HEQ2 := hid (fun k => HEQ.out (w3.drewN k) g2 (below_on HB3.out (below_drewN w3 k)) HC3.out)
  go_quiet ((go_at_call 66; refine Calls.quiet_of_same (HEQ2.out _)))
  go_wp2
  go_ret
  exact ⟨rfl, below_on HB3.out (below_drewN _ _)⟩
set_option maxRecDepth 100000 in
set_option maxHeartbeats 2000000 in
theorem digest_ok (p : Nat) (po : Option Addr) (L : List Nat) (c : Nat) (n s : Int) (r : Value) (w : World) (h : RdC w p po L c n s r) (hl : 35 ≤ L.length) (hq : dig (L.take (L.length - 32)) = L.drop (L.length - 32)) : Calls Tryd.prog 51 #[ptr p] w (NxtS w p ((L.take (L.length - 32)).drop 3) n s r) := by
  obtain ⟨E, hE, hE3⟩ := digest_split hl
  rw [show L.length - 32 = E by omega] at hq ⊢
  obtain ⟨b, o, rfl, hcells⟩ : ∃ b o, po = some ⟨b, o, none⟩ ∧ ∀ i, i < L.length → w.cell? ⟨b, o + i, none⟩ = some (u8 (L.getD i 0)) := by
    rcases h.bl with k | k
    · rw [k] at hl; simp at hl
    · exact k
  have hle := h.le
  have hlt := h.lt
  have c0 := h.c0
  rw [hE] at c0
  have hs1 := run_head8n (some ⟨b, o, none⟩) (E + 32) c E (by omega)
  have hs2 : ∀ w, (Instr.slice 29 (.slice (some ⟨b, o, none⟩) (E + 32) c) (some (.int .i64 (E : Int))) none none).run Tryd.prog w = .ok (.slice (some ⟨b, o + E, none⟩) 32 (c - E)) w := fun w => by have := run_from8s b o (E + 32) c E (by omega) (by omega) w; rwa [show E + 32 - E = 32 by omega] at this
  obtain ⟨D, hD⟩ : ∃ D, dig (L.take E) = D := ⟨_, rfl⟩
  have hDl : D.length = 32 := by rw [← hD]; exact dig_len _
  have hD8 : ∀ z ∈ D, z < 256 := by rw [← hD]; exact dig_lt _
  rw [hD] at hq
  have hE32 : (L.drop E).length = 32 := by rw [List.length_drop]; omega
  have HSUM : Hid (Calls Tryd.prog 23 #[.slice (some ⟨b, o, none⟩) E c] w fun e w' => e = .returned (.agg (sumC D)) ∧ Below w.heap.size w w') := hid (by
    have := dsum_any (some ⟨b, o, none⟩) c (L.take E) w (by rw [len_take (by omega)]; omega) (by rw [len_take (by omega)]; omega) (h.bl.take E) (fun z hz => h.b8 z (List.mem_of_mem_take hz))
    rw [len_take (by omega), hD] at this
    exact this)
  have HEQ : Hid (∀ W g, Below w.heap.size w W → CAt W g (sumC D) 57 → Calls Tryd.prog 66 #[.slice (some ⟨g, 0, none⟩) 32 32, .slice (some ⟨b, o + E, none⟩) 32 (c - E)] W fun e w' => e = .returned (.bool true) ∧ w' = W) := hid (fun W g hW hg => by
    have := equalB_any (some ⟨g, 0, none⟩) (some ⟨b, o + E, none⟩) 32 (c - E) D (L.drop E) W hg.bl ((h.bl.below hW).drop E) hD8 (fun z hz => h.b8 z (List.mem_of_mem_drop hz))
    rw [hDl, hE32, decide_eq_true hq] at this
    exact this)
  have HH := hid h
  have HE := hid hE
  have hEi : (E : Int) ≤ 100000 := by omega
  clear h hcells hq hD hD8 hE32 hE hl
  have hsd := run_dig
  go_enter Tryd.func51, Tryd.ntmps51
  go_upto_region 3 with (first
    | (go_at_call 23; refine HSUM.out.mono ?_; rintro e w1 ⟨rfl, hb1⟩; have HB1 := hid hb1; clear hb1 c0)
    | ((with_reducible refine wpList_allocD rfl rfl ?_); intro w2 g2 hz2 hb2 hg2; have HZ2 := hid hz2; have HB2 := hid (below_on HB1.out hb2); have HG2 := hid (show w.heap.size ≤ g2 by have := HB1.out.size; omega); clear hz2 hb2 hg2)
    | ((with_reducible refine wpList_storeD rfl rfl _ _ rfl g2 ?_ (m := zeroD) (n := D) ?_ ?_ hDl HZ2.out ?_); exact rfl; exact rfl; exact rfl; intro w3 h3 o3; have HB3 := hid (below_tr HB2.out (o3.below HB2.out.size (fun i e => by have := HG2.out; omega))); have HC3 := hid h3; clear h3 o3 HZ2))
  have c0 := (HH.out.below HB3.out).c0
  rw [HE.out] at c0
  simp only [Act.put, List.setIfInBounds_toArray, List.set_cons_zero, List.set_cons_succ]
  have hs3 : ∀ w, (Instr.slice 29 (.slice (some ⟨b, o, none⟩) (E + 32) c) (some (.int .i64 3)) (some (.int .i64 (E : Int))) none).run Tryd.prog w = .ok (.slice (some ⟨b, o + 3, none⟩) (E - 3) (c - 3)) w := run_mid8s b o (E + 32) c 3 E hE3 (by have := HE.out; omega) (by have := HE.out; omega)
  have f0 := (HH.out.below HB3.out).at_.free
  have HEQ2 := hid (fun k => HEQ.out (w3.drewN k) g2 (below_on HB3.out (below_drewN w3 k)) HC3.out)
  go_quiet ((go_at_call 66; refine Calls.quiet_of_same (HEQ2.out _)))
  go_wp2
  go_ret
  refine ⟨rfl, ?_, some ⟨b, o + 3, none⟩, c - 3, ?_⟩
  · exact (Only.of_below (below_on HB3.out (below_drewN w3 _))).trans (Only.set (S := fun b => b = p) _ ⟨p, 0, none⟩ _ rfl)
  · exact HH.out.sub (below_on HB3.out (below_drewN w3 _)) (E := E) (by have := HE.out; omega) hE3
/-- What is left is what was told. -/
theorem RdC.mkN {B p : Nat} {W : World} {l : Value} {n s : Int} {r : Value} (hc : CAt W p (rC l n s r) 76) (hp : p < B) {M : List Nat} {out : Value} (ho : OutB B W out M) (hM : M.length ≤ 100000) (h8 : ∀ z ∈ M, z < 256) : ∃ qo, out = .slice qo M.length M.length ∧ RdC (W.setCell ⟨p, 0, none⟩ out) p qo M M.length n s r := by
  obtain ⟨qo, rfl, hbl, hz⟩ := ho.form
  have hap : M ≠ [] → ∀ a, qo = some a → a.block ≠ p := fun hne a e => by
    rcases ho with ⟨_, e2⟩ | ⟨g, e2, hg, _⟩
    · exact absurd e2 hne
    · cases e2; cases e; show g ≠ p; omega
  exact ⟨qo, rfl, hc.r0 _, hbl.onlyAt (Only.set (S := fun b => b = p) W ⟨p, 0, none⟩ _ rfl) (fun hne a e => hap hne a e), hap, Nat.le_refl _, hM, h8⟩
theorem rdU_sub {L M : List Nat} {x : Nat} (h8 : ∀ z ∈ L, z < 256) (h : rdU L = some (x, M)) : M.length ≤ L.length ∧ (∀ z ∈ M, z < 256) := by
  obtain ⟨e, _⟩ := rdU_some h8 h
  subst e
  exact ⟨by rw [List.length_append]; omega, (sub256 h8).2⟩
set_option maxRecDepth 100000 in
set_option maxHeartbeats 1000000 in
theorem number_bad (k p : Nat) (po : Option Addr) (L : List Nat) (c : Nat) (n s : Int) (r : Value) (w : World) (a0 a1 : Addr) (h : RdC w p po L c n s r) (he : Ers w a0 a1) (hq : rdU L = none) : Calls Tryd.prog 67 #[ptr p, .pointer (some ⟨p, k, none⟩)] w fun e w' => e = .returned (eV a1) ∧ Below w.heap.size w w' := by
  have c0 := h.c0
  have HU := hid (readUint_bad po c L w h.bl h.le h.lt h.b8 hq)
  have HER := hid he
  clear h he hq
  go_enter Tryd.func67, Tryd.ntmps67
  go_wp2_with (go_at_call 77; refine HU.out.mono ?_; rintro e w1 ⟨rfl, hb1⟩; have e1 := (HER.out.below hb1).c1; have HB1 := hid hb1; clear hb1)
  go_ret
  exact ⟨rfl, HB1.out⟩
set_option maxRecDepth 100000 in
set_option maxHeartbeats 1000000 in
theorem number_seq (p : Nat) (po : Option Addr) (L : List Nat) (c : Nat) (n s : Int) (r : Value) (w : World) (h : RdC w p po L c n s r) (x : Nat) (M : List Nat) (hq : rdU L = some (x, M)) : Calls Tryd.prog 67 #[ptr p, .pointer (some ⟨p, 2, none⟩)] w (NxtS w p M n x r) := by
  have c0 := h.c0
  have HU := hid (readUint_ok po c L w h.bl h.le h.lt h.b8 hq)
  have HM := hid (rdU_sub h.b8 hq)
  have HH := hid h
  clear h hq
  go_enter Tryd.func67, Tryd.ntmps67
  go_wp2_with (go_at_call 77; refine HU.out.mono ?_; rintro e w1 ⟨out, rfl, ho1, hb1⟩; have h1 := HH.out.below hb1; have hset := h1.at_.r2 (x : Int); have hos := Only.set (S := fun b => b = p) w1 ⟨p, 2, none⟩ (i64 (x : Int)) rfl; obtain ⟨qo, hout, hn1⟩ := RdC.mkN hset HH.out.at_.lt (ho1.only hos (fun i e => by have := (ho1.blk i e).1; have := HH.out.at_.lt; omega)) (by have := HM.out.1; have := HH.out.lt; omega) HM.out.2; subst hout; clear c0; have d0 := h1.c0; have d2 := h1.c2; have df := h1.at_.free; have HN1 := hid hn1; have HO1 := hid ((Only.of_below hb1).trans (hos.trans (Only.set (S := fun b => b = p) _ ⟨p, 0, none⟩ (.slice qo M.length M.length) rfl))); clear h1 hn1 hb1 ho1 hset hos)
  go_ret
  exact ⟨rfl, HO1.out, qo, M.length, HN1.out⟩
set_option maxRecDepth 100000 in
set_option maxHeartbeats 1000000 in
theorem number_cnt (p : Nat) (po : Option Addr) (L : List Nat) (c : Nat) (n s : Int) (r : Value) (w : World) (h : RdC w p po L c n s r) (x : Nat) (M : List Nat) (hq : rdU L = some (x, M)) : Calls Tryd.prog 67 #[ptr p, .pointer (some ⟨p, 1, none⟩)] w (NxtS w p M x s r) := by
  have c0 := h.c0
  have HU := hid (readUint_ok po c L w h.bl h.le h.lt h.b8 hq)
  have HM := hid (rdU_sub h.b8 hq)
  have HH := hid h
  clear h hq
  go_enter Tryd.func67, Tryd.ntmps67
  go_wp2_with (go_at_call 77; refine HU.out.mono ?_; rintro e w1 ⟨out, rfl, ho1, hb1⟩; have h1 := HH.out.below hb1; have hset := h1.at_.r1 (x : Int); have hos := Only.set (S := fun b => b = p) w1 ⟨p, 1, none⟩ (i64 (x : Int)) rfl; obtain ⟨qo, hout, hn1⟩ := RdC.mkN hset HH.out.at_.lt (ho1.only hos (fun i e => by have := (ho1.blk i e).1; have := HH.out.at_.lt; omega)) (by have := HM.out.1; have := HH.out.lt; omega) HM.out.2; subst hout; clear c0; have d0 := h1.c0; have d2 := h1.c1; have df := h1.at_.free; have HN1 := hid hn1; have HO1 := hid ((Only.of_below hb1).trans (hos.trans (Only.set (S := fun b => b = p) _ ⟨p, 0, none⟩ (.slice qo M.length M.length) rfl))); clear h1 hn1 hb1 ho1 hset hos)
  go_ret
  exact ⟨rfl, HO1.out, qo, M.length, HN1.out⟩
set_option maxRecDepth 100000 in
theorem readSeq_bad (p : Nat) (po : Option Addr) (L : List Nat) (c : Nat) (n s : Int) (r : Value) (w : World) (a0 a1 : Addr) (h : RdC w p po L c n s r) (he : Ers w a0 a1) (hq : rdU L = none) : Calls Tryd.prog 52 #[ptr p] w fun e w' => e = .returned (eV a1) ∧ Below w.heap.size w w' := by
  have HN := hid (number_bad 2 p po L c n s r w a0 a1 h he hq)
  clear h he hq
  go_enter Tryd.func52, Tryd.ntmps52
  go_wp2_with (go_at_call 67; refine HN.out.mono ?_; rintro e w1 ⟨rfl, hb1⟩)
  go_ret
  exact ⟨rfl, hb1⟩
set_option maxRecDepth 100000 in
theorem readSeq_ok (p : Nat) (po : Option Addr) (L : List Nat) (c : Nat) (n s : Int) (r : Value) (w : World) (h : RdC w p po L c n s r) (x : Nat) (M : List Nat) (hq : rdU L = some (x, M)) : Calls Tryd.prog 52 #[ptr p] w (NxtS w p M n x r) := by
  have HN := hid (number_seq p po L c n s r w h x M hq)
  clear h hq
  go_enter Tryd.func52, Tryd.ntmps52
  go_wp2_with (go_at_call 67; refine HN.out.mono ?_; rintro e w1 ⟨rfl, hn1⟩)
  go_ret
  exact ⟨rfl, hn1⟩
set_option maxRecDepth 100000 in
theorem readCount_bad (p : Nat) (po : Option Addr) (L : List Nat) (c : Nat) (n s : Int) (r : Value) (w : World) (a0 a1 : Addr) (h : RdC w p po L c n s r) (he : Ers w a0 a1) (hq : rdU L = none) : Calls Tryd.prog 53 #[ptr p] w fun e w' => e = .returned (eV a1) ∧ Below w.heap.size w w' := by
  have HN := hid (number_bad 1 p po L c n s r w a0 a1 h he hq)
  clear h he hq
  go_enter Tryd.func53, Tryd.ntmps53
  go_wp2_with (go_at_call 67; refine HN.out.mono ?_; rintro e w1 ⟨rfl, hb1⟩)
  go_ret
  exact ⟨rfl, hb1⟩
set_option maxRecDepth 100000 in
theorem readCount_ok (p : Nat) (po : Option Addr) (L : List Nat) (c : Nat) (n s : Int) (r : Value) (w : World) (h : RdC w p po L c n s r) (x : Nat) (M : List Nat) (hq : rdU L = some (x, M)) : Calls Tryd.prog 53 #[ptr p] w (NxtS w p M x s r) := by
  have HN := hid (number_cnt p po L c n s r w h x M hq)
  clear h hq
  go_enter Tryd.func53, Tryd.ntmps53
  go_wp2_with (go_at_call 67; refine HN.out.mono ?_; rintro e w1 ⟨rfl, hn1⟩)
  go_ret
  exact ⟨rfl, hn1⟩
end Go.Proofs.YtelkijiphhoacaaDoor

/- readRecords. -/
namespace Go.Proofs.YtelkijiphhoacaaDoor
open Go Go.RowKit

theorem rdR_sub {L M : List Nat} {x : Rc} (h8 : ∀ z ∈ L, z < 256) (h : rdR L = some (x, M)) : M.length ≤ L.length ∧ (∀ z ∈ M, z < 256) := by
  obtain ⟨_, e⟩ := rdR_some h8 h
  subst e
  exact ⟨by rw [List.length_append]; omega, (sub256 h8).2⟩
theorem rdRs_zero (b : List Nat) : rdRs 0 b = some ([], b) := rfl
theorem rdRs_step {n : Nat} {b b' : List Nat} {r : Rc} (h : rdR b = some (r, b')) : rdRs (n + 1) b = (rdRs n b').map fun q => (r :: q.1, q.2) := by
  rw [rdRs, h]
  simp only [Option.bind_eq_bind, Option.bind_some]
  cases rdRs n b' <;> rfl
theorem rdRs_fail {n : Nat} {b : List Nat} (h : rdR b = none) : rdRs (n + 1) b = none := by rw [rdRs, h]; rfl
/-- So many records have been read; the rest is N. -/
structure RI (B p n : Nat) (s : Int) (M : List Nat) (kk : Nat) (l : List Rp) (N : List Nat) (po : Option Addr) (c : Nat) (v : Value) (W : World) : Prop where
  rd : RdC W p po N c n s v
  rs : Rs B W v l
  len : l.length = kk
  eq : rdRs n M = (rdRs (n - kk) N).map fun q => (rcs l ++ q.1, q.2)
def RecsS (w : World) (p n : Nat) (s : Int) (M : List Nat) (a1 : Addr) (e : Ending) (w' : World) : Prop := Only (fun b => b = p) w w' ∧ match rdRs n M with
  | none => e = .returned (eV a1)
  | some (rs, N) => e = .returned .nilIface ∧ ∃ po c v m, RdC w' p po N c n s v ∧ Rs w.heap.size w' v m ∧ rcs m = rs
theorem rcs_app (l m : List Rp) : rcs (l ++ m) = rcs l ++ rcs m := by simp [rcs]
theorem RI.next {n : Nat} {M : List Nat} {kk : Nat} {l : List Rp} {N : List Nat} (heq : rdRs n M = (rdRs (n - kk) N).map fun q => (rcs l ++ q.1, q.2)) (hk : kk < n) {y : Rp} {x : Rc} {N' : List Nat} (hq : rdR N = some (x, N')) (hy : y.rc = x) : rdRs n M = (rdRs (n - (kk + 1)) N').map fun q => (rcs (l ++ [y]) ++ q.1, q.2) := by
  rw [heq, show n - kk = (n - (kk + 1)) + 1 by omega, rdRs_step hq, rcs_app]
  cases rdRs (n - (kk + 1)) N' with
  | none => rfl
  | some q => simp [rcs, hy]
/-- The record is laid behind the others. -/
theorem RI.push {B p : Nat} {W W1 : World} {v : Value} {l : List Rp} {po : Option Addr} {N : List Nat} {c : Nat} {n s : Int} (hrd : RdC W p po N c n s v) (hrs : Rs B W v l) (hB : B ≤ W.heap.size) (hpB : p < B) (hb : Below W.heap.size W W1) (hl : l.length ≤ 64) {y : Rp} (hy : RpX B W1 y) :
    ∃ v' W2, (Builtin.append_ #[22, 22] 22 #[v, .slice (some ⟨W1.heap.size, 0, none⟩) 1 1]).run Tryd.prog (W1.alloc (.cells y.r.cs 60)) = .ok v' W2 ∧ Rs B W2 v' (l ++ [y]) ∧ CAt W2 p (rC (.slice po N.length c) n s v) 76 ∧ Only (fun b => v.ownBlock = some b) W1 W2 ∧ (∀ b, v.ownBlock = some b → B ≤ b ∧ b < W.heap.size) := by
  have h2 := below_on hb (below_al W1 (.cells y.r.cs 60))
  have hrs2 := hrs.below h2
  have hy2 := hy.below (below_al W1 (.cells y.r.cs 60))
  obtain ⟨v', W2, hr, hbf, hg⟩ := hrs2.buf.app _ [y] (one_rl (CAt.made W1 y.r.cs 60) hy2.one) (by simp; omega) (by rw [size_al]; have := hb.size; omega)
  have hO : Only (fun b => v.ownBlock = some b) (W1.alloc (.cells y.r.cs 60)) W2 := Only.of_grown hg fun k e _ => e
  refine ⟨v', W2, hr, ⟨hbf, fun x hx => ?_⟩, ?_, (Only.alloc W1 _).trans hO, own_ge hrs.buf⟩
  · rcases List.mem_append.1 hx with hx | hx
    · exact (hrs2.each x hx).grown hrs2.buf hg
    · simp at hx; subst hx; exact hy2.grown hrs2.buf hg
  · exact ((hrd.below h2).at_).keep (hO.block p (hrd.below h2).at_.lt (fun e => by have := (own_ge hrs.buf p e).1; omega))
set_option maxRecDepth 100000 in
set_option maxHeartbeats 1000000 in
theorem recs_many (p : Nat) (po : Option Addr) (M : List Nat) (c n : Nat) (s : Int) (r : Value) (w : World) (a0 a1 : Addr) (h : RdC w p po M c n s r) (he : Ers w a0 a1) (hn : 64 < n) : Calls Tryd.prog 54 #[ptr p] w fun e w' => e = .returned (eV a1) ∧ Below w.heap.size w w' := by
  have c1 := h.c1
  have e1 := he.c1
  have hn' : (64 : Int) < (n : Int) := by omega
  clear h he
  go_enter Tryd.func54, Tryd.ntmps54
  go_wp2
  go_ret
  exact ⟨rfl, Below.refl _ _⟩
set_option maxRecDepth 100000 in
set_option maxHeartbeats 4000000 in
theorem recs_few (p : Nat) (po : Option Addr) (M : List Nat) (c n : Nat) (s : Int) (w : World) (a0 a1 : Addr) (h : RdC w p po M c n s (.slice none 0 0)) (hE : ∀ W, Only (fun b => b = p) w W → Ers W a0 a1) (hn : n ≤ 64) : Calls Tryd.prog 54 #[ptr p] w (RecsS w p n s M a1) := by
  have c1 := h.c1
  have hn' : ¬ (64 : Int) < (n : Int) := by omega
  have HER := hid hE
  have HPW := hid h.at_.lt
  have HI : Hid (RI w.heap.size p n s M 0 [] M po c (.slice none 0 0) w) := hid ⟨h, Rs.nil _ _, rfl, by rw [Nat.sub_zero]; cases rdRs n M <;> simp [rcs]⟩
  clear h hE
  go_enter Tryd.func54, Tryd.ntmps54
  go_wp2
  go_loopg [3, 4, 5, 16] n (fun gg _ _ _ s16 wr => ∃ (kk : Nat) (l : List Rp) (N : List Nat) (pn : Option Addr) (cn : Nat) (v : Value), kk ≤ n ∧ n - kk ≤ gg ∧ s16 = i64 kk ∧ Hid (Only (fun b => b = p) w wr) ∧ Hid (RI w.heap.size p n s M kk l N pn cn v wr))
  case atStart => exact ⟨0, [], M, po, c, _, Nat.zero_le _, by omega, rfl, Only.refl _ _, HI.out⟩
  case round =>
    obtain ⟨kk, l, N, pn, cn, v, hkk, hg, rfl, HO, I⟩ := hrel
    clear HI c1
    by_cases hlt : kk < n
    · have hltz : (kk : Int) < (n : Int) := by omega
      have c0 := I.out.rd.c0
      cases hq : rdR N with
      | none =>
        have HRB := hid (read_bad pn cn N wr I.out.rd.bl I.out.rd.le I.out.rd.lt I.out.rd.b8 hq)
        obtain ⟨Z, hZ⟩ : ∃ Z, zR = Z := ⟨_, rfl⟩
        rw [hZ] at HRB
        have HZ := hid hZ
        have HQ := hid hq
        clear hZ hq
        go_wp2_with (first
          | (go_at_call 68; refine HRB.out.mono ?_; rintro e w1 ⟨rfl, hb1⟩; have HB1 := hid hb1; clear hb1)
          | ((with_reducible refine wpList_allocR rfl rfl ?_); intro w2 g2 hz2 hb2 hg2; have HZ2 := hid hz2; have HB2 := hid hb2; have HG2 := hid hg2; clear hz2 hb2 hg2)
          | ((with_reducible refine wpList_storeR rfl rfl _ _ rfl g2 ?_ (r := Z) ?_ zR_ok ?_ ?_ HZ2.out ?_); exact rfl; exact rfl; (rw [← HZ.out]; exact zR_ok); (rw [← HZ.out]; rfl); intro w3 h3 o3; have HB3 := hid (below_on HB1.out (Own1.mk1 HB2.out HG2.out h3 o3).below); have HO3 := hid (HO.out.trans (Only.of_below HB3.out)); have e1 := (HER.out _ HO3.out).c1; clear h3 o3 HZ2))
        go_ret
        refine ⟨HO3.out, ?_⟩
        rw [I.out.eq, show n - kk = (n - (kk + 1)) + 1 by omega, rdRs_fail HQ.out]
        rfl
      | some q =>
        obtain ⟨x, N'⟩ := q
        have HRB := hid (read_ok pn cn N wr I.out.rd.bl I.out.rd.le I.out.rd.lt I.out.rd.b8 hq)
        have HSB := hid (rdR_sub I.out.rd.b8 hq)
        have HQ := hid hq
        clear hq
        go_upto_region 8 with (first
          | (go_at_call 68; refine HRB.out.mono ?_; rintro e w1 ⟨ry, ps, out, rfl, hyk, hyx, hypl, hout, hb1⟩; obtain ⟨qo, hqo, _, _⟩ := hout.form; subst hqo; have hyo : ry.pv.oneCell' = true := (by obtain ⟨p0, n0, c0, e0⟩ := hypl.form; rw [e0]; rfl); have HY : Hid (RpX wr.heap.size w1 ⟨ry, ps⟩) := hid ⟨hyk, hypl⟩; have HYX := hid hyx; have HOUT := hid hout; have HB1 := hid hb1; clear hb1 hypl hyx hout c0)
          | ((with_reducible refine wpList_allocR rfl rfl ?_); intro w2 g2 hz2 hb2 hg2; have HZ2 := hid hz2; have HB2 := hid hb2; have HG2 := hid hg2; clear hz2 hb2 hg2)
          | ((with_reducible refine wpList_storeR rfl rfl _ _ rfl g2 ?_ (r := ry) ?_ zR_ok hyk hyo HZ2.out ?_); exact rfl; exact rfl; intro w3 h3 o3; have HO3 := hid (Own1.mk1 HB2.out HG2.out h3 o3); clear h3 o3 HZ2))
        have HB3 := hid (below_on HB1.out HO3.out.below)
        have HOUT3 := hid (HOUT.out.below HO3.out.below)
        have HY3 := hid ((HY.out.below HO3.out.below).base HO.out.size)
        obtain ⟨v9, w9, hr9, hrs9, hc9, ho9, hown9⟩ := RI.push I.out.rd I.out.rs HO.out.size HPW.out (below_on HB3.out (below_drew w3)) (by have := I.out.len; omega) (HY3.out.below (below_drew w3))
        have hok9 : Only (fun b => v.ownBlock = some b) w3 w9 := (Only.of_below (below_drew w3)).trans ho9
        obtain ⟨pv, nv, cv, hvv⟩ : ∃ a b c, v = .slice a b c := by obtain ⟨a, c, e, _⟩ := I.out.rs.buf.form; exact ⟨a, _, c, e⟩
        obtain ⟨p9, n9, c9, hv9⟩ : ∃ a b c, v9 = .slice a b c := by obtain ⟨a, c, e, _⟩ := hrs9.buf.form; exact ⟨a, _, c, e⟩
        have d3 := (I.out.rd.below HB3.out).c3
        have df := (I.out.rd.below HB3.out).at_.free
        have hgp : p < g2 := by have := HPW.out; have := HO.out.size; have := HB1.out.size; have := HG2.out; omega
        have hwp : p < w3.heap.size := by have := HPW.out; have := HO.out.size; have := HB3.out.size; omega
        have hout9 : OutB w.heap.size w9 (.slice qo N'.length N'.length) N' := ((HOUT3.out.only hok9 (fun b e k => by have := (HOUT.out.blk b e).1; have := (hown9 b k).2; omega))).base HO.out.size
        have hstore := hc9.r3 v9
        have hos := Only.set (S := fun b => b = p) w9 ⟨p, 3, none⟩ v9 rfl
        obtain ⟨qo2, hqe, hn9⟩ := RdC.mkN hstore HPW.out (hout9.only hos (fun b e k => by have := (hout9.blk b e).1; have := HPW.out; omega)) (by have := HSB.out.1; have := I.out.rd.lt; omega) HSB.out.2
        cases hqe
        have hon : Only (fun b => b = p) w9 ((w9.setCell ⟨p, 3, none⟩ v9).setCell ⟨p, 0, none⟩ (.slice qo N'.length N'.length)) := hos.trans (Only.set (S := fun b => b = p) _ ⟨p, 0, none⟩ _ rfl)
        have hrsn := hrs9.only hon (fun i e => by have := HPW.out; omega)
        have HIN : Hid (RI w.heap.size p n s M (kk + 1) (l ++ [⟨ry, ps⟩]) N' qo N'.length v9 ((w9.setCell ⟨p, 3, none⟩ v9).setCell ⟨p, 0, none⟩ (.slice qo N'.length N'.length))) := hid ⟨hn9, hrsn, by rw [List.length_append, I.out.len]; rfl, RI.next I.out.eq hlt HQ.out HYX.out⟩
        have HON : Hid (Only (fun b => b = p) w ((w9.setCell ⟨p, 3, none⟩ v9).setCell ⟨p, 0, none⟩ (.slice qo N'.length N'.length))) := hid (((HO.out.trans (Only.of_below HB3.out)).then hok9 (fun i hi e => by have := (hown9 i e).1; omega)).trans hon)
        have k3 : w9.cell? ⟨p, 3, none⟩ = some v := by rw [hc9.cell]; rfl
        have k0 : (w9.setCell ⟨p, 3, none⟩ v9).cell? ⟨p, 0, none⟩ = some (.slice pn N.length cn) := by rw [hstore.cell]; rfl
        have kf := hc9.free
        have kf2 := hstore.free
        have hgv : v.ownBlock ≠ some g2 := fun e => by have := (hown9 g2 e).2; have := HB1.out.size; have := HG2.out; omega
        have HSF : Hid (∀ W, W.heap[g2]? = w3.heap[g2]? → (Instr.loadAt 60 (.pointer (some ⟨g2, 0, none⟩))).run Tryd.prog W = .ok (.agg ry.cs) W) := hid fun W hW => run_loadR hyk (RBox.mk' hyk (HO3.out.box.at_.keep hW))
        have HK9 := hid (hok9.block g2 HO3.out.box.at_.lt hgv)
        have HKA := hid (show (w3.drew.alloc (.cells ry.cs 60)).heap[g2]? = w3.heap[g2]? from heap_alloc_old w3.drew _ HO3.out.box.at_.lt)
        have HKS := hid (show (w9.setCell ⟨p, 3, none⟩ v9).heap[g2]? = w3.heap[g2]? from (heap_setCell_ne _ _ _ _ (show g2 ≠ p by omega)).trans HK9.out)
        have HKT := hid (show ((w9.setCell ⟨p, 3, none⟩ v9).setCell ⟨p, 0, none⟩ (.slice qo N'.length N'.length)).heap[g2]? = w3.heap[g2]? from (heap_setCell_ne _ _ _ _ (show g2 ≠ p by omega)).trans HKS.out)
        have da : (w3.drew.alloc (.cells ry.cs 60)).cell? ⟨p, 3, none⟩ = some v := (World.cell?_of_block (a := ⟨p, 3, none⟩) (heap_alloc_old w3.drew _ (show p < w3.drew.heap.size from hwp))).trans d3
        have HRUN := hid hr9
        subst hvv hv9
        clear hr9 hrs9 hc9 ho9 hown9 hok9 hstore hos hn9 hon hrsn hout9
        (try simp only [Act.put, List.setIfInBounds_toArray, List.set_cons_zero, List.set_cons_succ])
        refine wp_region_held_drew (S := fun W => (Instr.loadAt 60 (.pointer (some ⟨g2, 0, none⟩))).run Tryd.prog W = .ok (.agg ry.cs) W) (by kernel_rfl) (HSF.out _ rfl) (fun hHeld => ?_)
        refine wpAnyH_take (i := 0) (oi := ⟨some 30, .move (.tmp 0), _, _, _, none⟩) (v := ptr p) rfl (by kernel_rfl) (by kernel_rfl) (by kernel_rfl) (fun _ _ _ h => h) (Or.inl ⟨by kernel_rfl, by intro W hW; go_simp⟩) hHeld ?_
        refine wpAnyH_take (i := 1) (oi := ⟨some 31, .move (.tmp 0), _, _, _, none⟩) (v := ptr p) rfl (by kernel_rfl) (by kernel_rfl) (by kernel_rfl) (fun _ _ _ h => h) (Or.inl ⟨by kernel_rfl, by intro W hW; go_simp⟩) hHeld ?_
        refine wpAnyH_take (i := 2) (oi := ⟨some 32, .move (.tmp 0), _, _, _, none⟩) (v := ptr p) rfl (by kernel_rfl) (by kernel_rfl) (by kernel_rfl) (fun _ _ _ h => h) (Or.inl ⟨by kernel_rfl, by intro W hW; go_simp⟩) hHeld ?_
        refine wpAnyH_take (i := 3) (oi := ⟨some 33, .nilCheck (.tmp 32), _, _, _, none⟩) (v := ptr p) rfl (by kernel_rfl) (by kernel_rfl) (by kernel_rfl) (fun _ _ _ h => h) (Or.inl ⟨by kernel_rfl, by intro W hW; go_simp⟩) hHeld ?_
        refine wpAnyH_take (i := 4) (oi := ⟨some 34, .fieldAddr 76 (.tmp 33) 2, _, _, _, none⟩) (v := .pointer (some ⟨p, 2, none⟩)) rfl (by kernel_rfl) (by kernel_rfl) (by kernel_rfl) (fun _ _ _ h => h) (Or.inl ⟨by kernel_rfl, by intro W hW; go_simp⟩) hHeld ?_
        refine wpAnyH_take (i := 5) (oi := ⟨some 35, .fieldAddr 24 (.tmp 34) 1, _, _, _, none⟩) (v := .pointer (some ⟨p, 3, none⟩)) rfl (by kernel_rfl) (by kernel_rfl) (by kernel_rfl) (fun _ _ _ h => h) (Or.inl ⟨by kernel_rfl, by intro W hW; go_simp⟩) hHeld ?_
        refine wpAnyH_take (i := 7) (oi := ⟨some 37, .load 60 (.tmp 3), _, _, _, none⟩) (v := .agg ry.cs) rfl (by kernel_rfl) (by kernel_rfl) (by kernel_rfl) (fun _ _ _ h => h) (Or.inl ⟨by kernel_rfl, fun W hW => exec_load rfl (by kernel_rfl) hW⟩) hHeld ?_
        refine wpAnyH_take (i := 10) (oi := ⟨some 40, .move (.tmp 4), _, _, _, none⟩) (v := .slice qo N'.length N'.length) rfl (by kernel_rfl) (by kernel_rfl) (by kernel_rfl) (fun _ _ _ h => h) (Or.inl ⟨by kernel_rfl, by intro W hW; go_simp⟩) hHeld ?_
        refine wpAnyH_ready (rs := [6, 8]) (by kernel_rfl) (by simp) ?_
        refine AllReadyH.cons rfl (fun K hK => ?_) (AllReadyH.cons (o := ⟨some 38, .buildSlice 22 1 #[(0, .tmp 37)], _, _, _, none⟩) rfl (fun K hK => ?_) AllReadyH.nil)
        · go_simp
          refine hK.out _ _ (HSF.out _ rfl) (fun hHeld => ?_)
          clear hK K
          refine wpAnyH_ready (rs := [8]) (by kernel_rfl) (by simp) ?_
          refine AllReadyH.cons (o := ⟨some 38, .buildSlice 22 1 #[(0, .tmp 37)], _, _, _, none⟩) rfl (fun K hK => ?_) AllReadyH.nil
          with_reducible refine step_run_val ?_ (.slice (some ⟨w3.drew.heap.size, 0, none⟩) 1 1) (w3.drew.alloc (.cells ry.cs 60)) ?_ ?_
          · exact rfl
          · exact exec_buildOne hyk rfl (by kernel_rfl)
          refine hK.out _ _ (HSF.out _ HKA.out) (fun hHeld => ?_)
          clear hK K
          refine wpAnyH_ready (rs := [9]) (by kernel_rfl) (by simp) ?_
          refine AllReadyH.cons (o := ⟨some 39, .call { callee := .builtin .append, args := #[.tmp 36, .tmp 38], argTypes := #[22, 22] }, 22, _, _, none⟩) rfl (fun K hK => ?_) AllReadyH.nil
          with_reducible refine step_append_ex (R := fun v' w' => v' = .slice p9 n9 c9 ∧ w' = w9) ?_ (.tmp 36) (.tmp 38) 22 ?_ (.slice pv nv cv) (.slice (some ⟨w3.drew.heap.size, 0, none⟩) 1 1) ?_ ?_ ?_ ?_
          · exact rfl
          · exact rfl
          · kernel_rfl
          · kernel_rfl
          · exact ⟨_, _, HRUN.out, rfl, rfl⟩
          rintro v' w' ⟨hv9, hw9⟩
          subst hv9 hw9
          refine hK.out _ _ (HSF.out _ HK9.out) (fun hHeld => ?_)
          clear hK K
          refine wpAnyH_take (i := 11) (oi := ⟨some 41, .nilCheck (.tmp 30), _, _, _, none⟩) (v := ptr p) rfl (by kernel_rfl) (by kernel_rfl) (by kernel_rfl) (fun _ _ _ h => h) (Or.inl ⟨by kernel_rfl, by intro W hW; go_simp⟩) hHeld ?_
          refine wpAnyH_take (i := 12) (oi := ⟨some 42, .fieldAddr 76 (.tmp 41) 2, _, _, _, none⟩) (v := .pointer (some ⟨p, 2, none⟩)) rfl (by kernel_rfl) (by kernel_rfl) (by kernel_rfl) (fun _ _ _ h => h) (Or.inl ⟨by kernel_rfl, by intro W hW; go_simp⟩) hHeld ?_
          refine wpAnyH_take (i := 13) (oi := ⟨some 43, .fieldAddr 24 (.tmp 42) 1, _, _, _, none⟩) (v := .pointer (some ⟨p, 3, none⟩)) rfl (by kernel_rfl) (by kernel_rfl) (by kernel_rfl) (fun _ _ _ h => h) (Or.inl ⟨by kernel_rfl, by intro W hW; go_simp⟩) hHeld ?_
          refine wpAnyH_ready (rs := [14]) (by kernel_rfl) (by simp) ?_
          refine AllReadyH.cons rfl (fun K hK => ?_) AllReadyH.nil
          go_simp
          refine hK.out _ _ (HSF.out _ HKS.out) (fun hHeld => ?_)
          clear hK K
          refine wpAnyH_take (i := 15) (oi := ⟨some 44, .nilCheck (.tmp 31), _, _, _, none⟩) (v := ptr p) rfl (by kernel_rfl) (by kernel_rfl) (by kernel_rfl) (fun _ _ _ h => h) (Or.inl ⟨by kernel_rfl, by intro W hW; go_simp⟩) hHeld ?_
          refine wpAnyH_take (i := 16) (oi := ⟨some 45, .fieldAddr 76 (.tmp 44) 0, _, _, _, none⟩) (v := .pointer (some ⟨p, 0, none⟩)) rfl (by kernel_rfl) (by kernel_rfl) (by kernel_rfl) (fun _ _ _ h => h) (Or.inl ⟨by kernel_rfl, by intro W hW; go_simp⟩) hHeld ?_
          refine wpAnyH_ready (rs := [17]) (by kernel_rfl) (by simp) ?_
          refine AllReadyH.cons rfl (fun K hK => ?_) AllReadyH.nil
          go_simp
          refine hK.out _ _ (HSF.out _ HKT.out) (fun hHeld => ?_)
          clear hK K
          refine wpAnyH_done (by kernel_rfl) ?_ _
          (try simp only [Act.put, List.setIfInBounds_toArray, List.set_cons_zero, List.set_cons_succ])
          go_wp2
          go_roundg (n - (kk + 1))
          case measure => omega
          case rel => exact ⟨kk + 1, _, N', qo, N'.length, _, by omega, by omega, by go_num, HON.out, HIN.out⟩
        · with_reducible refine step_run_val ?_ (.slice (some ⟨w3.drew.heap.size, 0, none⟩) 1 1) (w3.drew.alloc (.cells ry.cs 60)) ?_ ?_
          · exact rfl
          · exact exec_buildOne hyk rfl (by kernel_rfl)
          refine hK.out _ _ (HSF.out _ HKA.out) (fun hHeld => ?_)
          clear hK K
          refine wpAnyH_ready (rs := [6]) (by kernel_rfl) (by simp) ?_
          refine AllReadyH.cons rfl (fun K hK => ?_) AllReadyH.nil
          go_simp
          refine hK.out _ _ (HSF.out _ HKA.out) (fun hHeld => ?_)
          clear hK K
          refine wpAnyH_ready (rs := [9]) (by kernel_rfl) (by simp) ?_
          refine AllReadyH.cons (o := ⟨some 39, .call { callee := .builtin .append, args := #[.tmp 36, .tmp 38], argTypes := #[22, 22] }, 22, _, _, none⟩) rfl (fun K hK => ?_) AllReadyH.nil
          with_reducible refine step_append_ex (R := fun v' w' => v' = .slice p9 n9 c9 ∧ w' = w9) ?_ (.tmp 36) (.tmp 38) 22 ?_ (.slice pv nv cv) (.slice (some ⟨w3.drew.heap.size, 0, none⟩) 1 1) ?_ ?_ ?_ ?_
          · exact rfl
          · exact rfl
          · kernel_rfl
          · kernel_rfl
          · exact ⟨_, _, HRUN.out, rfl, rfl⟩
          rintro v' w' ⟨hv9, hw9⟩
          subst hv9 hw9
          refine hK.out _ _ (HSF.out _ HK9.out) (fun hHeld => ?_)
          clear hK K
          refine wpAnyH_take (i := 11) (oi := ⟨some 41, .nilCheck (.tmp 30), _, _, _, none⟩) (v := ptr p) rfl (by kernel_rfl) (by kernel_rfl) (by kernel_rfl) (fun _ _ _ h => h) (Or.inl ⟨by kernel_rfl, by intro W hW; go_simp⟩) hHeld ?_
          refine wpAnyH_take (i := 12) (oi := ⟨some 42, .fieldAddr 76 (.tmp 41) 2, _, _, _, none⟩) (v := .pointer (some ⟨p, 2, none⟩)) rfl (by kernel_rfl) (by kernel_rfl) (by kernel_rfl) (fun _ _ _ h => h) (Or.inl ⟨by kernel_rfl, by intro W hW; go_simp⟩) hHeld ?_
          refine wpAnyH_take (i := 13) (oi := ⟨some 43, .fieldAddr 24 (.tmp 42) 1, _, _, _, none⟩) (v := .pointer (some ⟨p, 3, none⟩)) rfl (by kernel_rfl) (by kernel_rfl) (by kernel_rfl) (fun _ _ _ h => h) (Or.inl ⟨by kernel_rfl, by intro W hW; go_simp⟩) hHeld ?_
          refine wpAnyH_ready (rs := [14]) (by kernel_rfl) (by simp) ?_
          refine AllReadyH.cons rfl (fun K hK => ?_) AllReadyH.nil
          go_simp
          refine hK.out _ _ (HSF.out _ HKS.out) (fun hHeld => ?_)
          clear hK K
          refine wpAnyH_take (i := 15) (oi := ⟨some 44, .nilCheck (.tmp 31), _, _, _, none⟩) (v := ptr p) rfl (by kernel_rfl) (by kernel_rfl) (by kernel_rfl) (fun _ _ _ h => h) (Or.inl ⟨by kernel_rfl, by intro W hW; go_simp⟩) hHeld ?_
          refine wpAnyH_take (i := 16) (oi := ⟨some 45, .fieldAddr 76 (.tmp 44) 0, _, _, _, none⟩) (v := .pointer (some ⟨p, 0, none⟩)) rfl (by kernel_rfl) (by kernel_rfl) (by kernel_rfl) (fun _ _ _ h => h) (Or.inl ⟨by kernel_rfl, by intro W hW; go_simp⟩) hHeld ?_
          refine wpAnyH_ready (rs := [17]) (by kernel_rfl) (by simp) ?_
          refine AllReadyH.cons rfl (fun K hK => ?_) AllReadyH.nil
          go_simp
          refine hK.out _ _ (HSF.out _ HKT.out) (fun hHeld => ?_)
          clear hK K
          refine wpAnyH_done (by kernel_rfl) ?_ _
          (try simp only [Act.put, List.setIfInBounds_toArray, List.set_cons_zero, List.set_cons_succ])
          go_wp2
          go_roundg (n - (kk + 1))
          case measure => omega
          case rel => exact ⟨kk + 1, _, N', qo, N'.length, _, by omega, by omega, by go_num, HON.out, HIN.out⟩
    · have hltz : ¬ (kk : Int) < (n : Int) := by omega
      have hke : kk = n := by omega
      go_wp2
      go_ret
      refine ⟨HO.out, ?_⟩
      have e := I.out.eq
      rw [show n - kk = 0 by omega, rdRs_zero] at e
      rw [e]
      exact ⟨rfl, pn, cn, v, l, I.out.rd, I.out.rs, by simp⟩
end Go.Proofs.YtelkijiphhoacaaDoor
