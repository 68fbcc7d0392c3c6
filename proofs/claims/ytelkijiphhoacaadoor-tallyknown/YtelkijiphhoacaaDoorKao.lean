/- Texts laid into one, cut to what is needed: the remark ahead of each part says what is proved there. -/
import Derived.Test.YtelkijiphhoacaaDoorKan
import Derived.Test.YtelkijiphhoacaaDoorKai
import Derived.Deep.QuietTactic
import Derived.BigQuiet
/- bytes.Equal, HasPrefix; what looks at a journal's sign and digest. -/
namespace Go.Proofs.YtelkijiphhoacaaDoor
open Go Go.RowKit

theorem lst_eq_ba {A B : List Nat} (hA : ∀ z ∈ A, z < 256) (hB : ∀ z ∈ B, z < 256) : ((ba A).toList == (ba B).toList) = decide (A = B) := by
  rw [lst_beq, lst_ba hA, lst_ba hB]
theorem equalB_any (po qo : Option Addr) (c d : Nat) (A B : List Nat) (w : World) (hA : BL w po A) (hB : BL w qo B) (a8 : ∀ z ∈ A, z < 256) (b8 : ∀ z ∈ B, z < 256) : Calls Tryd.prog 66 #[.slice po A.length c, .slice qo B.length d] w fun e w' => e = .returned (.bool (decide (A = B))) ∧ w' = w := by
  have h1 := hA.conv c
  have h2 := hB.conv d
  have HE := hid (lst_eq_ba a8 b8)
  generalize ba A = SA at h1 HE
  generalize ba B = SB at h2 HE
  clear hA hB a8 b8
  go_enter Tryd.func66, Tryd.ntmps66
  go_wp2
  go_ret
  exact ⟨by rw [← HE.out]; rfl, rfl⟩
theorem run_head8n (po : Option Addr) (n c h : Nat) (hh : h ≤ c) (w : World) : (Instr.slice 29 (.slice po n c) none (some (.int .i64 (h : Int))) none).run Tryd.prog w = .ok (.slice po h c) w := by
  rw [run_slice_h (P := Tryd.prog) w 29 po n c underE8 .i64 (h : Int) (by omega) (by omega), elem8]
  cases po with
  | none => simp [Result.andThen, sliced]
  | some a =>
    by_cases h0 : c = 0
    · simp [Result.andThen, sliced, h0]
    · simp [Result.andThen, sliced, h0, add_zero']
theorem len_take {L : List Nat} {k : Nat} (h : k ≤ L.length) : (L.take k).length = k := by rw [List.length_take]; omega
theorem prefix_any (po qo : Option Addr) (c d : Nat) (A B : List Nat) (w : World) (hA : BL w po A) (hB : BL w qo B) (a8 : ∀ z ∈ A, z < 256) (b8 : ∀ z ∈ B, z < 256) (hl : B.length ≤ A.length) (hc : A.length ≤ c) : Calls Tryd.prog 65 #[.slice po A.length c, .slice qo B.length d] w fun e w' => e = .returned (.bool (decide (A.take B.length = B))) ∧ w' = w := by
  have hs := run_head8n po A.length c B.length (by omega)
  have hE := equalB_any po qo c d (A.take B.length) B w (hA.take B.length) hB (fun z hz => a8 z (List.mem_of_mem_take hz)) b8
  rw [len_take hl] at hE
  generalize decide (A.take B.length = B) = Q at hE
  have HE := hid hE
  have hl' : (B.length : Int) ≤ (A.length : Int) := by omega
  clear hE hA hB a8 b8
  go_enter Tryd.func65, Tryd.ntmps65
  go_wp2_with (go_at_call 66; refine HE.out.mono ?_; rintro e w1 ⟨rfl, hw1⟩; have hw2 := hw1.symm; subst hw2)
  go_ret
  exact ⟨rfl, rfl⟩
/-- What is left of bytes, and what was read of them so far: its cells. -/
def rC (l : Value) (n s : Int) (r : Value) : Array Value := #[l, i64 n, i64 s, r]
structure RdC (w : World) (p : Nat) (po : Option Addr) (L : List Nat) (c : Nat) (n s : Int) (r : Value) : Prop where
  at_ : CAt w p (rC (.slice po L.length c) n s r) 76
  bl : BL w po L
  ap : L ≠ [] → ∀ a, po = some a → a.block ≠ p
  le : L.length ≤ c
  lt : L.length ≤ 100000
  b8 : ∀ z ∈ L, z < 256
section
variable {w : World} {p : Nat} {po : Option Addr} {L : List Nat} {c : Nat} {n s : Int} {r : Value} (h : RdC w p po L c n s r)
include h
theorem RdC.below {w' : World} (hb : Below w.heap.size w w') : RdC w' p po L c n s r := ⟨h.at_.below hb, h.bl.below hb, h.ap, h.le, h.lt, h.b8⟩
theorem RdC.c0 : w.cell? ⟨p, 0, none⟩ = some (.slice po L.length c) := by rw [h.at_.cell]; rfl
theorem RdC.c1 : w.cell? ⟨p, 1, none⟩ = some (i64 n) := by rw [h.at_.cell]; rfl
theorem RdC.c2 : w.cell? ⟨p, 2, none⟩ = some (i64 s) := by rw [h.at_.cell]; rfl
theorem RdC.c3 : w.cell? ⟨p, 3, none⟩ = some r := by rw [h.at_.cell]; rfl
end
theorem sign_bl (w : World) (fz : Nat × Nat) : BL (w.alloc (.cells c3 5 fz)) (some ⟨w.heap.size, 0, none⟩) [83, 74, 49] := Or.inr ⟨_, _, rfl, fun i hi => by rw [Nat.zero_add]; exact c3_cells w fz i hi⟩
set_option maxRecDepth 100000 in
set_option maxHeartbeats 1000000 in
theorem sign_any (p : Nat) (po : Option Addr) (L : List Nat) (c : Nat) (n s : Int) (r : Value) (w : World) (a0 a1 : Addr) (h : RdC w p po L c n s r) (he : Ers w a0 a1) : Calls Tryd.prog 50 #[ptr p] w fun e w' => e = .returned (if L.length < 35 ∨ L.take 3 ≠ [83, 74, 49] then eV a1 else .nilIface) ∧ Below w.heap.size w w' := by
  obtain ⟨R, hR⟩ : ∃ R : Value, (if L.length < 35 ∨ L.take 3 ≠ [83, 74, 49] then eV a1 else .nilIface) = R := ⟨_, rfl⟩
  rw [hR]
  have HRR := hid hR
  clear hR
  have c0 := h.c0
  have HH := hid h
  have HER := hid he
  clear h he
  by_cases hl : L.length < 35
  · have hl' : (L.length : Int) < 35 := by omega
    have e1 := HER.out.c1
    go_enter Tryd.func50, Tryd.ntmps50
    go_wp2
    go_ret
    exact ⟨by rw [← HRR.out, if_pos (Or.inl hl)]; rfl, Below.refl _ _⟩
  · have hl' : ¬ (L.length : Int) < 35 := by omega
    have hcv := fun (w : World) (C : Array Value) (n c : Nat) => Go.Lib.run_convert_bytes_const (P := Tryd.prog) w 29 5 C n c Tryd.underlying29 under5'
    have hP := prefix_any po (some ⟨w.heap.size, 0, none⟩) c 3 L [83, 74, 49] (w.alloc (.cells c3 5 (3, 4))) (HH.out.bl.below (below_al _ _)) (sign_bl w (3, 4)) HH.out.b8 (by decide) (by simp only [List.length_cons, List.length_nil]; omega) HH.out.le
    have HP : Hid (Calls Tryd.prog 65 #[.slice po L.length c, .slice (some ⟨w.heap.size, 0, none⟩) 3 3] (w.alloc (.cells c3 5 (3, 4))) fun e w' => e = .returned (.bool (decide (L.take 3 = [83, 74, 49]))) ∧ w' = w.alloc (.cells c3 5 (3, 4))) := hid hP
    clear hP
    have HBW := hid (below_al w (.cells c3 5 (3, 4)))
    by_cases hq : L.take 3 = [83, 74, 49]
    · rw [decide_eq_true hq] at HP
      go_enter Tryd.func50, Tryd.ntmps50
      go_wp2_with (go_at_call 65; refine HP.out.mono ?_; rintro e w1 ⟨rfl, hw1⟩; have hw2 := hw1.symm; subst hw2)
      go_ret
      exact ⟨by rw [← HRR.out, if_neg (by rintro (k | k); exact hl k; exact k hq)]; rfl, HBW.out⟩
    · rw [decide_eq_false hq] at HP
      have e1 := (HER.out.below HBW.out).c1
      go_enter Tryd.func50, Tryd.ntmps50
      go_wp2_with (go_at_call 65; refine HP.out.mono ?_; rintro e w1 ⟨rfl, hw1⟩; have hw2 := hw1.symm; subst hw2)
      go_ret
      exact ⟨by rw [← HRR.out, if_pos (Or.inr hq)]; rfl, HBW.out⟩
end Go.Proofs.YtelkijiphhoacaaDoor

/- lookAtDigest; readNumber, readSeq, readCount. -/
namespace Go.Proofs.YtelkijiphhoacaaDoor
open Go Go.RowKit

theorem run_from8s (b o n c l : Nat) (hl : l ≤ n) (hlt : l < c) (w : World) : (Instr.slice 29 (.slice (some ⟨b, o, none⟩) n c) (some (.int .i64 (l : Int))) none none).run Tryd.prog w = .ok (.slice (some ⟨b, o + l, none⟩) (n - l) (c - l)) w := by
  rw [run_slice_l (P := Tryd.prog) w 29 _ n c underE8 .i64 (l : Int) (by omega) (by omega), elem8]
  have e : ¬ c = l := by omega
  simp [Result.andThen, sliced, e, add_none]
theorem run_mid8s (b o n c l h : Nat) (hl : l ≤ h) (hh : h ≤ c) (hlt : l < c) (w : World) : (Instr.slice 29 (.slice (some ⟨b, o, none⟩) n c) (some (.int .i64 (l : Int))) (some (.int .i64 (h : Int))) none).run Tryd.prog w = .ok (.slice (some ⟨b, o + l, none⟩) (h - l) (c - l)) w := by
  rw [run_slice_lh (P := Tryd.prog) w 29 _ n c underE8 .i64 .i64 (l : Int) (h : Int) (by omega) (by omega) (by omega), elem8]
  have e : ¬ c = l := by omega
  simp [Result.andThen, sliced, e, add_none]
theorem CAt.r0 {w : World} {p : Nat} {l : Value} {n s : Int} {r : Value} {t : TypeId} (h : CAt w p (rC l n s r) t) (v : Value) : CAt (w.setCell ⟨p, 0, none⟩ v) p (rC v n s r) t := h.set 0 v
theorem CAt.r1 {w : World} {p : Nat} {l : Value} {n s : Int} {r : Value} {t : TypeId} (h : CAt w p (rC l n s r) t) (k : Int) : CAt (w.setCell ⟨p, 1, none⟩ (i64 k)) p (rC l k s r) t := h.set 1 _
theorem CAt.r2 {w : World} {p : Nat} {l : Value} {n s : Int} {r : Value} {t : TypeId} (h : CAt w p (rC l n s r) t) (k : Int) : CAt (w.setCell ⟨p, 2, none⟩ (i64 k)) p (rC l n k r) t := h.set 2 _
theorem CAt.r3 {w : World} {p : Nat} {l : Value} {n s : Int} {r : Value} {t : TypeId} (h : CAt w p (rC l n s r) t) (v : Value) : CAt (w.setCell ⟨p, 3, none⟩ v) p (rC l n s v) t := h.set 3 v
/-- What is left has become other bytes. -/
def NxtS (w : World) (p : Nat) (M : List Nat) (n s : Int) (r : Value) (e : Ending) (w' : World) : Prop := e = .returned .nilIface ∧ Only (fun b => b = p) w w' ∧ ∃ po c, RdC w' p po M c n s r
theorem RdC.sub {w W : World} {p b o : Nat} {L : List Nat} {c : Nat} {n s : Int} {r : Value} (h : RdC w p (some ⟨b, o, none⟩) L c n s r) (hb : Below w.heap.size w W) {E : Nat} (hE : E ≤ L.length) (h3 : 3 ≤ E) : RdC (W.setCell ⟨p, 0, none⟩ (.slice (some ⟨b, o + 3, none⟩) (E - 3) (c - 3))) p (some ⟨b, o + 3, none⟩) ((L.take E).drop 3) (c - 3) n s r := by
  have hl : ((L.take E).drop 3).length = E - 3 := by rw [List.length_drop, len_take hE]
  have hle := h.le
  have hlt := h.lt
  have hne : L ≠ [] := fun e => by rw [e] at hE; simp at hE; omega
  refine ⟨by rw [hl]; exact (h.at_.below hb).r0 _, ?_, fun _ a e => by cases e; exact h.ap hne ⟨b, o, none⟩ rfl, by omega, by omega, fun z hz => h.b8 z (List.mem_of_mem_take (List.mem_of_mem_drop hz))⟩
  exact ((((h.bl.below hb).take E).drop 3).onlyAt (Only.set (S := fun b => b = p) W ⟨p, 0, none⟩ _ rfl) (fun _ a e => by cases e; exact h.ap hne ⟨b, o, none⟩ rfl))
theorem digest_split {L : List Nat} (h : 35 ≤ L.length) : ∃ E, L.length = E + 32 ∧ 3 ≤ E := ⟨L.length - 32, by omega, by omega⟩
set_option maxRecDepth 100000 in
set_option maxHeartbeats 2000000 in
theorem digest_bad (p : Nat) (po : Option Addr) (L : List Nat) (c : Nat) (n s : Int) (r : Value) (w : World) (a0 a1 : Addr) (h : RdC w p po L c n s r) (he : Ers w a0 a1) (hl : 35 ≤ L.length) (hq : dig (L.take (L.length - 32)) ≠ L.drop (L.length - 32)) : Calls Tryd.prog 51 #[ptr p] w fun e w' => e = .returned (eV a0) ∧ Below w.heap.size w w' := by
  obtain ⟨E, hE, hE3⟩ := digest_split hl
  rw [show L.length - 32 = E by omega] at hq
  obtain ⟨b, o, rfl, hcells⟩ : ∃ b o, po = some ⟨b, o, none⟩ ∧ ∀ i, i < L.length → w.cell? ⟨b, o + i, none⟩ = some (u8 (L.getD i 0)) := by
    rcases h.bl with k | k
    · rw [k] at hl; simp at hl
    · exact k
  have hle := h.le
  have hlt := h.lt
  have c0 := h.c0
  rw [hE] at c0
  have hs1 := run_head8n (some ⟨b, o, none⟩) (E + 32) c E (by omega)
  have hs2 : ∀ w, (Instr.slice 29 (.slice (some ⟨b, o, none⟩) (E + 32) c) (some (.int .i64 (E : Int))) none none).run Tryd.prog w = .ok (.slice (some ⟨b, o + E, none⟩) 32 (c - E)) w := fun w => by have := run_from8s b o (E + 32) c E (by omega) (by omega) w; rwa [show E + 32 - E = 32 by omega] at this
  obtain ⟨D, hD⟩ : ∃ D, dig (L.take E) = D := ⟨_, rfl⟩
  have hDl : D.length = 32 := by rw [← hD]; exact dig_len _
  have hD8 : ∀ z ∈ D, z < 256 := by rw [← hD]; exact dig_lt _
  rw [hD] at hq
  have hE32 : (L.drop E).length = 32 := by rw [List.length_drop]; omega
  have HSUM : Hid (Calls Tryd.prog 23 #[.slice (some ⟨b, o, none⟩) E c] w fun e w' => e = .returned (.agg (sumC D)) ∧ Below w.heap.size w w') := hid (by
    have := dsum_any (some ⟨b, o, none⟩) c (L.take E) w (by rw [len_take (by omega)]; omega) (by rw [len_take (by omega)]; omega) (h.bl.take E) (fun z hz => h.b8 z (List.mem_of_mem_take hz))
    rw [len_take (by omega), hD] at this
    exact this)
  have HEQ : Hid (∀ W g, Below w.heap.size w W → CAt W g (sumC D) 57 → Calls Tryd.prog 66 #[.slice (some ⟨g, 0, none⟩) 32 32, .slice (some ⟨b, o + E, none⟩) 32 (c - E)] W fun e w' => e = .returned (.bool false) ∧ w' = W) := hid (fun W g hW hg => by
    have := equalB_any (some ⟨g, 0, none⟩) (some ⟨b, o + E, none⟩) 32 (c - E) D (L.drop E) W hg.bl ((h.bl.below hW).drop E) hD8 (fun z hz => h.b8 z (List.mem_of_mem_drop hz))
    rw [hDl, hE32, decide_eq_false hq] at this
    exact this)
  have HH := hid h
  have HER := hid he
  have HE := hid hE
  have hEi : (E : Int) ≤ 100000 := by omega
  clear h he hcells hq hD hD8 hE32 hE hl
  have hsd := run_dig
  go_enter Tryd.func51, Tryd.ntmps51
  go_upto_region 3 with (first
    | (go_at_call 23; refine HSUM.out.mono ?_; rintro e w1 ⟨rfl, hb1⟩; have HB1 := hid hb1; clear hb1 c0)
    | ((with_reducible refine wpList_allocD rfl rfl ?_); intro w2 g2 hz2 hb2 hg2; have HZ2 := hid hz2; have HB2 := hid (below_on HB1.out hb2); have HG2 := hid (show w.heap.size ≤ g2 by have := HB1.out.size; omega); clear hz2 hb2 hg2)
    | ((with_reducible refine wpList_storeD rfl rfl _ _ rfl g2 ?_ (m := zeroD) (n := D) ?_ ?_ hDl HZ2.out ?_); exact rfl; exact rfl; exact rfl; intro w3 h3 o3; have HB3 := hid (below_tr HB2.out (o3.below HB2.out.size (fun i e => by have := HG2.out; omega))); have HC3 := hid h3; clear h3 o3 HZ2))
  have c0 := (HH.out.below HB3.out).c0
  rw [HE.out] at c0
  simp only [Act.put, List.setIfInBounds_toArray, List.set_cons_zero, List.set_cons_succ]
  have e0 := (HER.out.below HB3.out).c0
  have HEQ2 := hid (fun k => HEQ.out (w3.drewN k) g2 (below_on HB3.out (below_drewN w3 k)) HC3.out)
  go_quiet ((go_at_call 66; refine Calls.quiet_of_same (HEQ2.out _)))
  go_wp2
  go_ret
  exact ⟨rfl, below_on HB3.out (below_drewN _ _)⟩
set_option maxRecDepth 100000 in
set_option maxHeartbeats 2000000 in
theorem digest_ok (p : Nat) (po : Option Addr) (L : List Nat) (c : Nat) (n s : Int) (r : Value) (w : World) (h : RdC w p po L c n s r) (hl : 35 ≤ L.length) (hq : dig (L.take (L.length - 32)) = L.drop (L.length - 32)) : Calls Tryd.prog 51 #[ptr p] w (NxtS w p ((L.take (L.length - 32)).drop 3) n s r) := by
  obtain ⟨E, hE, hE3⟩ := digest_split hl
  rw [show L.length - 32 = E by omega] at hq ⊢
  obtain ⟨b, o, rfl, hcells⟩ : ∃ b o, po = some ⟨b, o, none⟩ ∧ ∀ i, i < L.length → w.cell? ⟨b, o + i, none⟩ = some (u8 (L.getD i 0)) := by
    rcases h.bl with k | k
    · rw [k] at hl; simp at hl
    · exact k
  have hle := h.le
  have hlt := h.lt
  have c0 := h.c0
  rw [hE] at c0
  have hs1 := run_head8n (some ⟨b, o, none⟩) (E + 32) c E (by omega)
  have hs2 : ∀ w, (Instr.slice 29 (.slice (some ⟨b, o, none⟩) (E + 32) c) (some (.int .i64 (E : Int))) none none).run Tryd.prog w = .ok (.slice (some ⟨b, o + E, none⟩) 32 (c - E)) w := fun w => by have := run_from8s b o (E + 32) c E (by omega) (by omega) w; rwa [show E + 32 - E = 32 by omega] at this
  obtain ⟨D, hD⟩ : ∃ D, dig (L.take E) = D := ⟨_, rfl⟩
  have hDl : D.length = 32 := by rw [← hD]; exact dig_len _
  have hD8 : ∀ z ∈ D, z < 256 := by rw [← hD]; exact dig_lt _
  rw [hD] at hq
  have hE32 : (L.drop E).length = 32 := by rw [List.length_drop]; omega
  have HSUM : Hid (Calls Tryd.prog 23 #[.slice (some ⟨b, o, none⟩) E c] w fun e w' => e = .returned (.agg (sumC D)) ∧ Below w.heap.size w w') := hid (by
    have := dsum_any (some ⟨b, o, none⟩) c (L.take E) w (by rw [len_take (by omega)]; omega) (by rw [len_take (by omega)]; omega) (h.bl.take E) (fun z hz => h.b8 z (List.mem_of_mem_take hz))
    rw [len_take (by omega), hD] at this
    exact this)
  have HEQ : Hid (∀ W g, Below w.heap.size w W → CAt W g (sumC D) 57 → Calls Tryd.prog 66 #[.slice (some ⟨g, 0, none⟩) 32 32, .slice (some ⟨b, o + E, none⟩) 32 (c - E)] W fun e w' => e = .returned (.bool true) ∧ w' = W) := hid (fun W g hW hg => by
    have := equalB_any (some ⟨g, 0, none⟩) (some ⟨b, o + E, none⟩) 32 (c - E) D (L.drop E) W hg.bl ((h.bl.below hW).drop E) hD8 (fun z hz => h.b8 z (List.mem_of_mem_drop hz))
    rw [hDl, hE32, decide_eq_true hq] at this
    exact this)
  have HH := hid h
  have HE := hid hE
  have hEi : (E : Int) ≤ 100000 := by omega
  clear h hcells hq hD hD8 hE32 hE hl
  have hsd := run_dig
  go_enter Tryd.func51, Tryd.ntmps51
  go_upto_region 3 with (first
    | (go_at_call 23; refine HSUM.out.mono ?_; rintro e w1 ⟨rfl, hb1⟩; have HB1 := hid hb1; clear hb1 c0)
    | ((with_reducible refine wpList_allocD rfl rfl ?_); intro w2 g2 hz2 hb2 hg2; have HZ2 := hid hz2; have HB2 := hid (below_on HB1.out hb2); have HG2 := hid (show w.heap.size ≤ g2 by have := HB1.out.size; omega); clear hz2 hb2 hg2)
    | ((with_reducible refine wpList_storeD rfl rfl _ _ rfl g2 ?_ (m := zeroD) (n := D) ?_ ?_ hDl HZ2.out ?_); exact rfl; exact rfl; exact rfl; intro w3 h3 o3; have HB3 := hid (below_tr HB2.out (o3.below HB2.out.size (fun i e => by have := HG2.out; omega))); have HC3 := hid h3; clear h3 o3 HZ2))
  have c0 := (HH.out.below HB3.out).c0
  rw [HE.out] at c0
  simp only [Act.put, List.setIfInBounds_toArray, List.set_cons_zero, List.set_cons_succ]
  have hs3 : ∀ w, (Instr.slice 29 (.slice (some ⟨b, o, none⟩) (E + 32) c) (some (.int .i64 3)) (some (.int .i64 (E : Int))) none).run Tryd.prog w = .ok (.slice (some ⟨b, o + 3, none⟩) (E - 3) (c - 3)) w := run_mid8s b o (E + 32) c 3 E hE3 (by have := HE.out; omega) (by have := HE.out; omega)
  have f0 := (HH.out.below HB3.out).at_.free
  have HEQ2 := hid (fun k => HEQ.out (w3.drewN k) g2 (below_on HB3.out (below_drewN w3 k)) HC3.out)
  go_quiet ((go_at_call 66; refine Calls.quiet_of_same (HEQ2.out _)))
  go_wp2
  go_ret
  refine ⟨rfl, ?_, some ⟨b, o + 3, none⟩, c - 3, ?_⟩
  · exact (Only.of_below (below_on HB3.out (below_drewN w3 _))).trans (Only.set (S := fun b => b = p) _ ⟨p, 0, none⟩ _ rfl)
  · exact HH.out.sub (below_on HB3.out (below_drewN w3 _)) (E := E) (by have := HE.out; omega) hE3
/-- What is left is what was told. -/
theorem RdC.mkN {B p : Nat} {W : World} {l : Value} {n s : Int} {r : Value} (hc : CAt W p (rC l n s r) 76) (hp : p < B) {M : List Nat} {out : Value} (ho : OutB B W out M) (hM : M.length ≤ 100000) (h8 : ∀ z ∈ M, z < 256) : ∃ qo, out = .slice qo M.length M.length ∧ RdC (W.setCell ⟨p, 0, none⟩ out) p qo M M.length n s r := by
  obtain ⟨qo, rfl, hbl, hz⟩ := ho.form
  have hap : M ≠ [] → ∀ a, qo = some a → a.block ≠ p := fun hne a e => by
    rcases ho with ⟨_, e2⟩ | ⟨g, e2, hg, _⟩
    · exact absurd e2 hne
    · cases e2; cases e; show g ≠ p; omega
  exact ⟨qo, rfl, hc.r0 _, hbl.onlyAt (Only.set (S := fun b => b = p) W ⟨p, 0, none⟩ _ rfl) (fun hne a e => hap hne a e), hap, Nat.le_refl _, hM, h8⟩
theorem rdU_sub {L M : List Nat} {x : Nat} (h8 : ∀ z ∈ L, z < 256) (h : rdU L = some (x, M)) : M.length ≤ L.length ∧ (∀ z ∈ M, z < 256) := by
  obtain ⟨e, _⟩ := rdU_some h8 h
  subst e
  exact ⟨by rw [List.length_append]; omega, (sub256 h8).2⟩
set_option maxRecDepth 100000 in
set_option maxHeartbeats 1000000 in
theorem number_bad (k p : Nat) (po : Option Addr) (L : List Nat) (c : Nat) (n s : Int) (r : Value) (w : World) (a0 a1 : Addr) (h : RdC w p po L c n s r) (he : Ers w a0 a1) (hq : rdU L = none) : Calls Tryd.prog 67 #[ptr p, .pointer (some ⟨p, k, none⟩)] w fun e w' => e = .returned (eV a1) ∧ Below w.heap.size w w' := by
  have c0 := h.c0
  have HU := hid (readUint_bad po c L w h.bl h.le h.lt h.b8 hq)
  have HER := hid he
  clear h he hq
  go_enter Tryd.func67, Tryd.ntmps67
  go_wp2_with (go_at_call 77; refine HU.out.mono ?_; rintro e w1 ⟨rfl, hb1⟩; have e1 := (HER.out.below hb1).c1; have HB1 := hid hb1; clear hb1)
  go_ret
  exact ⟨rfl, HB1.out⟩
set_option maxRecDepth 100000 in
set_option maxHeartbeats 1000000 in
theorem number_seq (p : Nat) (po : Option Addr) (L : List Nat) (c : Nat) (n s : Int) (r : Value) (w : World) (h : RdC w p po L c n s r) (x : Nat) (M : List Nat) (hq : rdU L = some (x, M)) : Calls Tryd.prog 67 #[ptr p, .pointer (some ⟨p, 2, none⟩)] w (NxtS w p M n x r) := by
  have c0 := h.c0
  have HU := hid (readUint_ok po c L w h.bl h.le h.lt h.b8 hq)
  have HM := hid (rdU_sub h.b8 hq)
  have HH := hid h
  clear h hq
  go_enter Tryd.func67, Tryd.ntmps67
  go_wp2_with (go_at_call 77; refine HU.out.mono ?_; rintro e w1 ⟨out, rfl, ho1, hb1⟩; have h1 := HH.out.below hb1; have hset := h1.at_.r2 (x : Int); have hos := Only.set (S := fun b => b = p) w1 ⟨p, 2, none⟩ (i64 (x : Int)) rfl; obtain ⟨qo, hout, hn1⟩ := RdC.mkN hset HH.out.at_.lt (ho1.only hos (fun i e => by have := (ho1.blk i e).1; have := HH.out.at_.lt; omega)) (by have := HM.out.1; have := HH.out.lt; omega) HM.out.2; subst hout; clear c0; have d0 := h1.c0; have d2 := h1.c2; have df := h1.at_.free; have HN1 := hid hn1; have HO1 := hid ((Only.of_below hb1).trans (hos.trans (Only.set (S := fun b => b = p) _ ⟨p, 0, none⟩ (.slice qo M.length M.length) rfl))); clear h1 hn1 hb1 ho1 hset hos)
  go_ret
  exact ⟨rfl, HO1.out, qo, M.length, HN1.out⟩
set_option maxRecDepth 100000 in
set_option maxHeartbeats 1000000 in
theorem number_cnt (p : Nat) (po : Option Addr) (L : List Nat) (c : Nat) (n s : Int) (r : Value) (w : World) (h : RdC w p po L c n s r) (x : Nat) (M : List Nat) (hq : rdU L = some (x, M)) : Calls Tryd.prog 67 #[ptr p, .pointer (some ⟨p, 1, none⟩)] w (NxtS w p M x s r) := by
  have c0 := h.c0
  have HU := hid (readUint_ok po c L w h.bl h.le h.lt h.b8 hq)
  have HM := hid (rdU_sub h.b8 hq)
  have HH := hid h
  clear h hq
  go_enter Tryd.func67, Tryd.ntmps67
  go_wp2_with (go_at_call 77; refine HU.out.mono ?_; rintro e w1 ⟨out, rfl, ho1, hb1⟩; have h1 := HH.out.below hb1; have hset := h1.at_.r1 (x : Int); have hos := Only.set (S := fun b => b = p) w1 ⟨p, 1, none⟩ (i64 (x : Int)) rfl; obtain ⟨qo, hout, hn1⟩ := RdC.mkN hset HH.out.at_.lt (ho1.only hos (fun i e => by have := (ho1.blk i e).1; have := HH.out.at_.lt; omega)) (by have := HM.out.1; have := HH.out.lt; omega) HM.out.2; subst hout; clear c0; have d0 := h1.c0; have d2 := h1.c1; have df := h1.at_.free; have HN1 := hid hn1; have HO1 := hid ((Only.of_below hb1).trans (hos.trans (Only.set (S := fun b => b = p) _ ⟨p, 0, none⟩ (.slice qo M.length M.length) rfl))); clear h1 hn1 hb1 ho1 hset hos)
  go_ret
  exact ⟨rfl, HO1.out, qo, M.length, HN1.out⟩
set_option maxRecDepth 100000 in
theorem readSeq_bad (p : Nat) (po : Option Addr) (L : List Nat) (c : Nat) (n s : Int) (r : Value) (w : World) (a0 a1 : Addr) (h : RdC w p po L c n s r) (he : Ers w a0 a1) (hq : rdU L = none) : Calls Tryd.prog 52 #[ptr p] w fun e w' => e = .returned (eV a1) ∧ Below w.heap.size w w' := by
  have HN := hid (number_bad 2 p po L c n s r w a0 a1 h he hq)
  clear h he hq
  go_enter Tryd.func52, Tryd.ntmps52
  go_wp2_with (go_at_call 67; refine HN.out.mono ?_; rintro e w1 ⟨rfl, hb1⟩)
  go_ret
  exact ⟨rfl, hb1⟩
set_option maxRecDepth 100000 in
theorem readSeq_ok (p : Nat) (po : Option Addr) (L : List Nat) (c : Nat) (n s : Int) (r : Value) (w : World) (h : RdC w p po L c n s r) (x : Nat) (M : List Nat) (hq : rdU L = some (x, M)) : Calls Tryd.prog 52 #[ptr p] w (NxtS w p M n x r) := by
  have HN := hid (number_seq p po L c n s r w h x M hq)
  clear h hq
  go_enter Tryd.func52, Tryd.ntmps52
  go_wp2_with (go_at_call 67; refine HN.out.mono ?_; rintro e w1 ⟨rfl, hn1⟩)
  go_ret
  exact ⟨rfl, hn1⟩
set_option maxRecDepth 100000 in
theorem readCount_bad (p : Nat) (po : Option Addr) (L : List Nat) (c : Nat) (n s : Int) (r : Value) (w : World) (a0 a1 : Addr) (h : RdC w p po L c n s r) (he : Ers w a0 a1) (hq : rdU L = none) : Calls Tryd.prog 53 #[ptr p] w fun e w' => e = .returned (eV a1) ∧ Below w.heap.size w w' := by
  have HN := hid (number_bad 1 p po L c n s r w a0 a1 h he hq)
  clear h he hq
  go_enter Tryd.func53, Tryd.ntmps53
  go_wp2_with (go_at_call 67; refine HN.out.mono ?_; rintro e w1 ⟨rfl, hb1⟩)
  go_ret
  exact ⟨rfl, hb1⟩
set_option maxRecDepth 100000 in
theorem readCount_ok (p : Nat) (po : Option Addr) (L : List Nat) (c : Nat) (n s : Int) (r : Value) (w : World) (h : RdC w p po L c n s r) (x : Nat) (M : List Nat) (hq : rdU L = some (x, M)) : Calls Tryd.prog 53 #[ptr p] w (NxtS w p M x s r) := by
  have HN := hid (number_cnt p po L c n s r w h x M hq)
  clear h hq
  go_enter Tryd.func53, Tryd.ntmps53
  go_wp2_with (go_at_call 67; refine HN.out.mono ?_; rintro e w1 ⟨rfl, hn1⟩)
  go_ret
  exact ⟨rfl, hn1⟩
end Go.Proofs.YtelkijiphhoacaaDoor
