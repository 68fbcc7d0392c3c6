/- Texts laid into one, cut to what is needed: the remark ahead of each part says what is proved there. -/
import Derived.Test.YtkiojnledimihaaPai
import Derived.Test.YtkiojnledimihaaPaj
import Derived.Test.YtkiojnledimihaaPag
/- Package place: Merge. -/
namespace Go.Proofs.Ytkiojnledimihaa
open Go Go.RowKit Go.Shelf

theorem TsO.take {w : World} {b o : Nat} {l : List TV} (h : TsO w (some ⟨b, o, none⟩) l) (k : Nat) (hk : k ≤ l.length) : TsO w (some ⟨b, o, none⟩) (l.take k) := by
  refine ⟨?_, fun t ht => h.el t (List.mem_of_mem_take ht)⟩
  rcases h.at_ with e | ⟨b', o', e, h1⟩
  · subst e; exact .inl (by simp)
  · cases e
    refine .inr ⟨b, o, rfl, fun i hi => ?_⟩
    rw [List.length_take] at hi
    rw [h1 i (by omega), getD_in l _ _ (by omega), getD_in (l.take k) _ _ (by rw [List.length_take]; omega), List.getElem_take]
theorem TsO.drop {w : World} {b o : Nat} {l : List TV} (h : TsO w (some ⟨b, o, none⟩) l) (k : Nat) : TsO w (some ⟨b, o + k, none⟩) (l.drop k) := by
  refine ⟨?_, fun t ht => h.el t (List.mem_of_mem_drop ht)⟩
  rcases h.at_ with e | ⟨b', o', e, h1⟩
  · subst e; exact .inl (by simp)
  · cases e
    refine .inr ⟨b, o + k, rfl, fun i hi => ?_⟩
    rw [List.length_drop] at hi
    rw [Nat.add_assoc, h1 (k + i) (by omega), getD_in l _ _ (by omega), getD_in (l.drop k) _ _ (by rw [List.length_drop]; omega), List.getElem_drop]
theorem flT_take_le (l : List TV) (k : Nat) : (flT (l.take k)).length ≤ (flT l).length ∧ (flT (l.drop k)).length ≤ (flT l).length := by
  have h := congrArg List.length (flT_app (l.take k) (l.drop k))
  rw [List.take_append_drop, List.length_append] at h
  omega
theorem run_make9 (n : Nat) (hn : n ≤ 10000000) (w : World) : (Instr.makeSlice 30 (.int .i64 0) (.int .i64 (n : Int))).run Try.prog w = .ok (.slice (some ⟨w.heap.size, 0, none⟩) 0 n) (w.alloc (.cells (madeCells #[.string ⟨#[]⟩] n) 9)) := by
  obtain ⟨i0, hi, hz0, hz1, hz2⟩ := info_parts Try.info9
  have h := run_make (P := Try.prog) w 30 9 i0 (.string ⟨#[]⟩) Try.underlying30 hi hz0 .i64 .i64 0 n (by omega) (by omega) (by rw [hz2]; omega) (by omega)
  rw [hz1] at h
  simpa [Value.cells] using h
theorem made9 (w : World) (n : Nat) (hn : n ≤ 10000000) : TxtS w.heap.size (w.alloc (.cells (madeCells #[.string ⟨#[]⟩] n) 9)) (.slice (some ⟨w.heap.size, 0, none⟩) 0 n) [] := by
  have hc : CAt (w.alloc (.cells (madeCells #[.string ⟨#[]⟩] n) 9)) w.heap.size (madeCells #[.string ⟨#[]⟩] n) 9 := CAt.made _ _ _
  refine ⟨⟨by simp, .inr ⟨w.heap.size, n, _, rfl, Nat.le_refl _, hc, Nat.zero_le _, by unfold maxLen; omega, by simp [madeCells], by simp⟩⟩, fun g hg cur hcu u hu => ?_, fun x hx => by cases hx⟩
  cases hg
  have hc2 : _ = some (Obj.cells _ 9 (0, 0)) := hc
  rw [hcu] at hc2
  cases hc2
  unfold madeCells at hu
  simp [Nat.mod_one] at hu
  obtain ⟨_, rfl⟩ := hu
  exact ⟨[], rfl, by simp⟩
theorem step_call13 {P : Program} {w : World} {ops : Array Oper} {o : Oper} {a : Act} {K : Act → World → Prop} {Q : Exit → Act → World → Prop} {E : Prop} (hgd : o.guard = none) (f : FuncId) (vs : Array Value) (hrun : (execOp a.eval o).run P w = .ok (.enter f vs) w)
    (h : Calls P f vs w fun e w' => ∃ v, e = .returned v ∧ K (a.put o.dst v) w') : if Region.wanted o (yielded ops a.tmps) = true then Oper.wp P o a w K Q else E := by
  rw [if_pos (by simp [Region.wanted, hgd])]
  exact H.wp_enter f vs hrun h
theorem then_only {P : Program} {c : Code} {K : Act → World → Prop} {Q : Exit → Act → World → Prop} {a : Act} {w : World} (h : c.wp P (Exit.then K fun _ _ _ => False) a w) : c.wp P (Exit.then K Q) a w :=
  wp_mono h fun e a w h => by cases e <;> first | exact h | exact h.elim
/-- What the loop of Merge carries beside its list: the two lists and the boxes in which they lie. -/
structure MgI (w5 W0 : World) (g ba bb : Nat) (va vb : Value) (L : List Nm) (W : World) : Prop where
  ap : ApI w5 g L W
  xa : CAt W ba #[va] 30
  xb : CAt W bb #[vb] 30
  sz : W0.heap.size ≤ W.heap.size
theorem MgI.tn {w5 W0 W W' : World} {g ba bb D : Nat} {va vb : Value} {L : List Nm} (h : MgI w5 W0 g ba bb va vb L W) (ht : Tn D W W') (hD : w5.heap.size ≤ D) : MgI w5 W0 g ba bb va vb L W' := ⟨h.ap.tn ht hD, h.xa.tn ht, h.xb.tn ht, Nat.le_trans h.sz ht.size⟩
set_option maxHeartbeats 8000000 in
set_option maxRecDepth 100000 in
theorem pmerge_any : ∀ (n : Nat) {w : World} {po : Option Addr} {l : List TV} (c : Nat), l.length = n → TsO w po l → Rm po l.length c → (∀ t ∈ l, Rm t.po t.ns.length t.c ∧ t.ns.length ≤ 10000) → l.length ≤ 1000 → (flT l).length ≤ 100000 → (∀ x ∈ flT l, x.length ≤ 512) →
    Calls Try.prog 20 #[.slice po l.length c] w (MgP w l) := by
  intro n
  induction n using Nat.strongRecOn with
  | _ n ih =>
    intro w po l c hn h hr ht hl hf hx
    by_cases h0 : l.length = 0
    · have e : l = [] := List.length_eq_zero_iff.1 h0
      subst e
      have HE : Hid (MgP w [] (.returned (.slice none 0 0)) w) := hid ⟨_, rfl, TxtS.nil _ _, Below.refl _ _⟩
      generalize MgP w [] = PP at *
      clear ih h hr ht hl hf hx
      go_enter Try.func20, Try.ntmps20
      go_wp2
      exact HE.out
    · by_cases h1 : l.length = 1
      · obtain ⟨t, rfl⟩ : ∃ t, l = [t] := List.length_eq_one_iff.1 h1
        obtain ⟨tpo, tc, ns⟩ := t
        obtain ⟨b, o, hp, hc, hto⟩ := h.row (i := 0) (by simp)
        subst hp
        dsimp only [List.getD, List.getElem?_cons_zero, Option.getD_some] at hc hto
        have HR := hid (risen_any tc hto (by have := (ht _ (List.mem_singleton.2 rfl)).2; exact Nat.le_trans this (by decide)) (fun x hx2 => hx x (by simpa [flT] using hx2)))
        have HE : Hid (∀ e w', RsP w (wths [] ns) e w' → MgP w [⟨tpo, tc, ns⟩] e w') := hid (by
          rintro e w' ⟨p, cc, rfl, h2, h3⟩
          exact ⟨_, rfl, by have e2 : mgT [⟨tpo, tc, ns⟩] = wths [] ns := by unfold mgT flT; simp
                            rw [e2]; exact h2, h3⟩)
        generalize MgP w [⟨tpo, tc, ns⟩] = PP at *
        generalize wths [] ns = rr at *
        clear ih h hr ht hl hf hx hto hn h0 h1
        rw [Nat.add_zero] at hc
        show Calls Try.prog 20 #[.slice (some ⟨b, o, none⟩) 1 c] w PP
        generalize ns.length = m at *
        go_enter Try.func20, Try.ntmps20
        go_wp2_with (go_at_call 27; refine HR.out.mono ?_; rintro e w2 ⟨p, cc, rfl, h2, h3⟩; have HQ := hid (HE.out _ _ ⟨p, cc, rfl, h2, h3⟩); clear h2 h3)
        exact HQ.out
      · obtain ⟨b, o, hp, -, -⟩ := h.row (i := 0) (by omega)
        subst hp
        obtain ⟨k, hk⟩ : ∃ k, l.length / 2 = k := ⟨_, rfl⟩
        have hk0 : 0 < k := by omega
        have hkn : k < l.length := by omega
        have hcn : l.length ≤ c := hr.1
        have hla : (l.take k).length = k := by rw [List.length_take]; omega
        have hlb : (l.drop k).length = l.length - k := by rw [List.length_drop]
        obtain ⟨hfa, hfb⟩ := flT_take_le l k
        have mema : ∀ x ∈ flT (l.take k), x ∈ flT l := fun x hm => by
          rw [mem_flT] at hm ⊢
          obtain ⟨t, h1, h2⟩ := hm
          exact ⟨t, List.mem_of_mem_take h1, h2⟩
        have memb : ∀ x ∈ flT (l.drop k), x ∈ flT l := fun x hm => by
          rw [mem_flT] at hm ⊢
          obtain ⟨t, h1, h2⟩ := hm
          exact ⟨t, List.mem_of_mem_drop h1, h2⟩
        have HMA : Hid (∀ W, Below w.heap.size w W → Calls Try.prog 20 #[.slice (some ⟨b, o, none⟩) k c] W fun e w' => ∃ pa ca, e = .returned (.slice pa (mgT (l.take k)).length ca) ∧ TxtS W.heap.size w' (.slice pa (mgT (l.take k)).length ca) (mgT (l.take k)) ∧ Below W.heap.size W w') := hid (fun W hb => by
          have := ih k (by omega) (w := W) (po := some ⟨b, o, none⟩) (l := l.take k) c hla ((h.below hb).take k (by omega)) (by rw [hla]; exact ⟨by omega, fun e => by cases e⟩) (fun t hm => ht t (List.mem_of_mem_take hm)) (by omega) (by omega) (fun x hm => hx x (mema x hm))
          rw [hla] at this
          refine this.mono ?_
          rintro e w' ⟨v, rfl, h1, h2⟩
          obtain ⟨pa, ca, rfl⟩ := own_form h1.t
          exact ⟨pa, ca, rfl, h1, h2⟩)
        have HMB : Hid (∀ W, Below w.heap.size w W → Calls Try.prog 20 #[.slice (some ⟨b, o + k, none⟩) (l.length - k) (c - k)] W fun e w' => ∃ pa ca, e = .returned (.slice pa (mgT (l.drop k)).length ca) ∧ TxtS W.heap.size w' (.slice pa (mgT (l.drop k)).length ca) (mgT (l.drop k)) ∧ Below W.heap.size W w') := hid (fun W hb => by
          have := ih (l.length - k) (by omega) (w := W) (po := some ⟨b, o + k, none⟩) (l := l.drop k) (c - k) hlb ((h.below hb).drop k) (by rw [hlb]; exact ⟨by omega, fun e => by cases e⟩) (fun t hm => ht t (List.mem_of_mem_drop hm)) (by omega) (by omega) (fun x hm => hx x (memb x hm))
          rw [hlb] at this
          refine this.mono ?_
          rintro e w' ⟨v, rfl, h1, h2⟩
          obtain ⟨pa, ca, rfl⟩ := own_form h1.t
          exact ⟨pa, ca, rfl, h1, h2⟩)
        have HEND : Hid (∀ vp vc W, TxtS w.heap.size W (.slice vp (cmpL (mrg (mgT (l.take k)) (mgT (l.drop k)))).length vc) (cmpL (mrg (mgT (l.take k)) (mgT (l.drop k)))) → Below w.heap.size w W → MgP w l (.returned (.slice vp (cmpL (mrg (mgT (l.take k)) (mgT (l.drop k)))).length vc)) W) := hid (fun vp vc W h1 h2 => by
          rw [mgT_half] at h1 ⊢
          exact ⟨_, rfl, h1, h2⟩)
        have hra := Nat.le_trans (mgT_len (l.take k)) hfa
        have hrb := Nat.le_trans (mgT_len (l.drop k)) hfb
        have HX : Hid ((∀ x ∈ mgT (l.take k), x.length ≤ 512) ∧ ∀ x ∈ mgT (l.drop k), x.length ≤ 512) := hid ⟨fun x hm => hx x (mema x (mgT_mem.1 hm)), fun x hm => hx x (memb x (mgT_mem.1 hm))⟩
        generalize mgT (l.take k) = lsA at *
        generalize mgT (l.drop k) = lsB at *
        generalize MgP w l = PP at *
        have HRA : Hid (lsA.length ≤ 100000) := hid (by omega)
        have HRB : Hid (lsB.length ≤ 100000) := hid (by omega)
        have hl2 : 2 ≤ (l.length : Int) := by omega
        have hlm : (l.length : Int) ≤ 1000 := by omega
        have hkq : (l.length : Int).tdiv 2 = (k : Int) := by rw [← hk]; exact (Int.ofNat_tdiv l.length 2).symm
        have hkc : (k : Int) ≤ (c : Int) := by omega
        have hkl : (k : Int) < (l.length : Int) := by omega
        have hlc : (l.length : Int) ≤ (c : Int) := by omega
        have hkm : k ≤ l.length := by omega
        have hck : ¬ c = k := by omega
        clear ih h hr ht hf hx mema memb hla hlb hfa hfb hra hrb hk h0 h1 hn hl hk0 hkn hcn
        generalize l.length = m at *
        refine (callsIn_wide (n := 0)).1 ?_
        refine callsIn_of_wp_marks Try.func20 rfl trivial ?_ rfl
        refine wpIn_wide.2 ?_
        simp only [Try.ntmps20, List.size_toArray, List.length_cons, List.length_nil, Nat.reduceAdd, Nat.reduceSub, Array.replicate_succ, Array.replicate_zero, List.push_toArray, List.append_toArray, List.nil_append, List.cons_append]
        go_wp2_with fail
        have HW3 : Hid (Below w.heap.size w w.drew) := hid ((Below.refl _ _).drew)
        refine then_only ?_
        refine wp_region_held_drew (S := fun _ : World => True) (by kernel_rfl) trivial ?_
        generalize w.drew = w3 at HW3 ⊢
        intro hHeld
        refine wpAnyH_take (i := 0) (oi := ⟨some 21, .move (.tmp 0), 33, _, _, none⟩) (v := .slice (some ⟨b, o, none⟩) m c) rfl (by kernel_rfl) (by kernel_rfl) (by kernel_rfl) (fun _ _ _ h => h) (Or.inl ⟨by kernel_rfl, by intro W hW; go_simp⟩) hHeld ?_
        refine wpAnyH_take (i := 1) (oi := ⟨some 22, .move (.tmp 3), 3, _, _, none⟩) (v := .int .i64 (k : Int)) rfl (by kernel_rfl) (by kernel_rfl) (by kernel_rfl) (fun _ _ _ h => h) (Or.inl ⟨by kernel_rfl, by intro W hW; go_simp⟩) hHeld ?_
        refine wpAnyH_take (i := 2) (oi := ⟨some 23, .slice 33 (.tmp 21) none (some (.tmp 22)) none, 33, _, _, none⟩) (v := .slice (some ⟨b, o, none⟩) k c) rfl (by kernel_rfl) (by kernel_rfl) (by kernel_rfl) (fun _ _ _ h => h) (Or.inl ⟨by kernel_rfl, by intro W hW; go_simp⟩) hHeld ?_
        refine wpAnyH_take (i := 4) (oi := ⟨some 25, .move (.tmp 0), 33, _, _, none⟩) (v := .slice (some ⟨b, o, none⟩) m c) rfl (by kernel_rfl) (by kernel_rfl) (by kernel_rfl) (fun _ _ _ h => h) (Or.inl ⟨by kernel_rfl, by intro W hW; go_simp⟩) hHeld ?_
        refine wpAnyH_take (i := 5) (oi := ⟨some 26, .move (.tmp 3), 3, _, _, none⟩) (v := .int .i64 (k : Int)) rfl (by kernel_rfl) (by kernel_rfl) (by kernel_rfl) (fun _ _ _ h => h) (Or.inl ⟨by kernel_rfl, by intro W hW; go_simp⟩) hHeld ?_
        refine wpAnyH_take (i := 6) (oi := ⟨some 27, .slice 33 (.tmp 25) (some (.tmp 26)) none none, 33, _, _, none⟩) (v := .slice (some ⟨b, o + k, none⟩) (m - k) (c - k)) rfl (by kernel_rfl) (by kernel_rfl) (by kernel_rfl) (fun _ _ _ h => h) (Or.inl ⟨by kernel_rfl, by intro W hW; go_simp⟩) hHeld ?_
        refine wpAnyH_ready (rs := [3]) (by kernel_rfl) (by simp) ?_
        refine AllReadyH.cons (o := ⟨some 24, _, _, _, _, _⟩) rfl (fun K hK => ?_) AllReadyH.nil
        refine step_call13 rfl 20 #[.slice (some ⟨b, o, none⟩) k c] (by kernel_rfl) ((HMA.out _ HW3.out).mono ?_)
        rintro e w4 ⟨pa, ca, rfl, ht4, hb4⟩
        have HT4 := hid ht4
        have HB4 := hid (below_on _ _ HW3.out hb4)
        clear ht4 hb4
        refine ⟨_, rfl, hK.out _ _ trivial (fun hHeld => ?_)⟩
        clear hK K
        refine wpAnyH_ready (rs := [7]) (by kernel_rfl) (by simp) ?_
        refine AllReadyH.cons (o := ⟨some 28, _, _, _, _, _⟩) rfl (fun K hK => ?_) AllReadyH.nil
        refine step_call13 rfl 20 #[.slice (some ⟨b, o + k, none⟩) (m - k) (c - k)] (by kernel_rfl) ((HMB.out _ HB4.out).mono ?_)
        rintro e w5 ⟨pb, cb, rfl, ht5, hb5⟩
        have HT5 := hid ht5
        have HT45 := hid (HT4.out.below hb5)
        have HB5 := hid (below_on _ _ HB4.out hb5)
        clear ht5 hb5
        refine ⟨_, rfl, hK.out _ _ trivial (fun hHeld => ?_)⟩
        clear hK K
        refine wpAnyH_take (i := 8) (oi := ⟨some 4, .assign (.tmp 24), 30, _, _, none⟩) (v := .slice pa lsA.length ca) rfl (by kernel_rfl) (by kernel_rfl) (by kernel_rfl) (fun _ _ _ h => h) (Or.inl ⟨by kernel_rfl, by intro W hW; go_simp⟩) hHeld ?_
        refine wpAnyH_take (i := 9) (oi := ⟨some 5, .assign (.tmp 28), 30, _, _, none⟩) (v := .slice pb lsB.length cb) rfl (by kernel_rfl) (by kernel_rfl) (by kernel_rfl) (fun _ _ _ h => h) (Or.inl ⟨by kernel_rfl, by intro W hW; go_simp⟩) hHeld ?_
        refine wpAnyH_done (by kernel_rfl) ?_ _
        simp only [Act.put, List.setIfInBounds_toArray, List.set_cons_zero, List.set_cons_succ]
        clear hHeld HMA HMB hkc hck hlm hkq hkl hlc hkm HT4 HB4 hl2
        have hmk : (Instr.makeSlice 30 (.int .i64 0) (.int .i64 ((lsA.length : Int) + (lsB.length : Int)))).run Try.prog w5 = .ok (.slice (some ⟨w5.heap.size, 0, none⟩) 0 (lsA.length + lsB.length)) (w5.alloc (.cells (madeCells #[.string ⟨#[]⟩] (lsA.length + lsB.length)) 9)) := by
          have := run_make9 (lsA.length + lsB.length) (by have := HRA.out; have := HRB.out; omega) w5
          rwa [Int.natCast_add] at this
        have hra := HRA.out
        have hrb := HRB.out
        go_wp2_with (go_at_call 28; refine (merged_any _ _ _ _ _ _ _).mono ?_; rintro e w7 ⟨rfl, rfl⟩)
        rename_i Kx hKx
        refine (wpIn_wide (n := 0)).1 ?_
        have hM9 := made9 w5 (lsA.length + lsB.length) (by omega)
        have HLM : Hid ((mrg lsA lsB).length ≤ 200000) := hid (by rw [mrg_len]; omega)
        have HXM : Hid (∀ x ∈ mrg lsA lsB, x.length ≤ 512) := hid (fun x hm => (mrg_mem.1 hm).elim (HX.out.1 x) (HX.out.2 x))
        generalize hnn : lsA.length + lsB.length = nn at *
        obtain ⟨W0, hW0⟩ : ∃ W0, (((w5.alloc (.cells (madeCells #[.string ⟨#[]⟩] nn) 9)).alloc (.cells #[.slice (some ⟨w5.heap.size, 0, none⟩) 0 nn] 30)).alloc (.cells #[.slice pa lsA.length ca] 30)).alloc (.cells #[.slice pb lsB.length cb] 30) = W0 := ⟨_, rfl⟩
        have hb0 : Below w5.heap.size w5 W0 := by
          rw [← hW0]
          exact ((((Below.refl w5.heap.size w5).alloc (Nat.le_refl _) _).alloc (by simp only [size_al]; omega) _).alloc (by simp only [size_al]; omega) _).alloc (by simp only [size_al]; omega) _
        have x1 : CAt W0 (w5.heap.size + 1) #[.slice (some ⟨w5.heap.size, 0, none⟩) 0 nn] 30 := by
          rw [← hW0]
          have := ((CAt.made (w5.alloc (.cells (madeCells #[.string ⟨#[]⟩] nn) 9)) #[.slice (some ⟨w5.heap.size, 0, none⟩) 0 nn] 30).old (.cells #[.slice pa lsA.length ca] 30)).old (.cells #[.slice pb lsB.length cb] 30)
          simpa only [World.size_alloc] using this
        have xa : CAt W0 (w5.heap.size + 1 + 1) #[.slice pa lsA.length ca] 30 := by
          rw [← hW0]
          have := (CAt.made ((w5.alloc (.cells (madeCells #[.string ⟨#[]⟩] nn) 9)).alloc (.cells #[.slice (some ⟨w5.heap.size, 0, none⟩) 0 nn] 30)) #[.slice pa lsA.length ca] 30).old (.cells #[.slice pb lsB.length cb] 30)
          simpa only [World.size_alloc] using this
        have xb : CAt W0 (w5.heap.size + 1 + 1 + 1) #[.slice pb lsB.length cb] 30 := by
          rw [← hW0]
          have := CAt.made (((w5.alloc (.cells (madeCells #[.string ⟨#[]⟩] nn) 9)).alloc (.cells #[.slice (some ⟨w5.heap.size, 0, none⟩) 0 nn] 30)).alloc (.cells #[.slice pa lsA.length ca] 30)) #[.slice pb lsB.length cb] 30
          simpa only [World.size_alloc] using this
        have hsz : W0.heap.size = w5.heap.size + 4 := by rw [← hW0]; simp
        have hM0 : TxtS w5.heap.size W0 (.slice (some ⟨w5.heap.size, 0, none⟩) 0 nn) [] := hM9.keep fun b hb => by
          cases hb
          rw [← hW0]
          exact (Below.heap_alloc _ _ _ (by simp only [size_al]; omega)).trans ((Below.heap_alloc _ _ _ (by simp only [size_al]; omega)).trans (Below.heap_alloc _ _ _ (by simp only [size_al]; omega)))
        rw [hW0]
        have I0 : Hid (MgI w5 W0 (w5.heap.size + 1) (w5.heap.size + 1 + 1) (w5.heap.size + 1 + 1 + 1) (.slice pa lsA.length ca) (.slice pb lsB.length cb) ((mrg lsA lsB).take 0) W0) := hid ⟨⟨hb0, by omega, _, x1, hM0⟩, xa, xb, Nat.le_refl _⟩
        have HTA : Hid (∀ W, Below w5.heap.size w5 W → TxO W pa lsA ∧ TxO W pb lsB) := hid (fun W hb => ⟨(tx_of HT45.out.t).below hb, (tx_of HT5.out.t).below hb⟩)
        have HSZ := hid hsz
        have hln : lsA.length + lsB.length ≤ 1000000 := by omega
        have hmr : lsA.length + lsB.length = (mrg lsA lsB).length := (mrg_len lsA lsB).symm
        clear hW0 x1 xa xb hb0 hM0 hM9 hmk HT5 HT45 hHeld HX
        refine range_plainM (gf := 41) (lb := #[ptr (w5.heap.size + 1 + 1), ptr (w5.heap.size + 1 + 1 + 1)]) rfl (enters_of Try.func41 (by kernel_rfl) rfl) (lsA.length + lsB.length) (mEnc lsA lsB) (fun _ => rfl) (fun _ _ => True)
          (fun i W => MgI w5 W0 (w5.heap.size + 1) (w5.heap.size + 1 + 1) (w5.heap.size + 1 + 1 + 1) (.slice pa lsA.length ca) (.slice pb lsB.length cb) ((mrg lsA lsB).take i) W)
          (fun _ _ => False) (fun _ _ _ h _ => h) ?hI ?hIx ?h0 ?hseq ?asg ?assign ?body ?done ?stop
        case hI => intro i A C hi ht; exact hi.tn ht (by omega)
        case hIx => intro c A C hi ht; exact hi
        case h0 => exact I0.out
        case hseq => exact merged_itM _ _ _ pa ca lsA pb cb lsB _ hln fun i W hi => ⟨⟨hi.xa, (HTA.out W hi.ap.be).1⟩, hi.xb, (HTA.out W hi.ap.be).2⟩
        case assign =>
          intro l i W K hik hK
          unfold mEnc tEnc
          refine round_list (fun _ _ h => h) (by kernel_rfl) ?_
          go_wp2
          exact hK
        case stop =>
          intro D c W hD hi hd
          exact hi.elim
        case body =>
          intro l i W hik hi _
          rw [hmr] at hik
          have hx5 : ((mrg lsA lsB).getD i []).length ≤ 512 := HXM.out _ (by rw [getD_in _ _ _ hik]; exact List.getElem_mem hik)
          obtain ⟨vp, vc, vp', vc', w6, c1, hr, ⟨u, c6⟩, y6, hn, ho, hbk, hg⟩ := hi.ap.next ((mrg lsA lsB).getD i []) hx5 (by rw [List.length_take]; have := HLM.out; omega)
          rw [← take_next _ i hik] at hn
          have keep : ∀ {q : Nat} {v : Value}, q ≠ w5.heap.size + 1 → CAt W q #[v] 30 → CAt (w6.setCell ⟨w5.heap.size + 1, 0, none⟩ (.slice vp' (((mrg lsA lsB).take i).length + 1) vc')) q #[v] 30 := fun {q v} hq hc => hc.keep (ho.block q hc.lt (fun e => by
            rcases e with e | e
            · exact hq e
            · obtain ⟨cur, hcur⟩ := hbk q e
              have h3 : W.heap[q]? = _ := hc
              rw [hcur] at h3
              simp only [Option.some.injEq, Obj.cells.injEq] at h3
              exact absurd h3.2.1 (by decide)))
          have hmg : MgI w5 W0 (w5.heap.size + 1) (w5.heap.size + 1 + 1) (w5.heap.size + 1 + 1 + 1) (.slice pa lsA.length ca) (.slice pb lsB.length cb) ((mrg lsA lsB).take (i + 1)) (w6.setCell ⟨w5.heap.size + 1, 0, none⟩ (.slice vp' (((mrg lsA lsB).take i).length + 1) vc')) :=
            ⟨hn, keep (by omega) hi.xa, keep (by omega) hi.xb, Nat.le_trans hi.sz ho.size⟩
          have hkp : KpM W0.heap.size W (w6.setCell ⟨w5.heap.size + 1, 0, none⟩ (.slice vp' (((mrg lsA lsB).take i).length + 1) vc')) := KpM.only ho fun b hb _ => by
            rcases hb with rfl | hb
            · exact ⟨_, _, _, hg⟩
            · obtain ⟨cur, hc⟩ := hbk b hb; exact ⟨_, _, _, hc⟩
          have HN := hid hmg
          have HR := hid hr
          have HKP := hid hkp
          clear hn hr hkp ho hbk hg hi hx5 hmg keep
          rw [show (mrg lsA lsB).getD i [] = atT (mrg lsA lsB) i from rfl] at HR
          generalize ((mrg lsA lsB).take i).length = k at *
          generalize hk1 : k + 1 = k1 at *
          generalize atT (mrg lsA lsB) i = x at *
          refine wpIn_block ?_
          refine round_list (fun _ _ h => h) (by kernel_rfl) ?_
          go_wp2_with (at_builtin; refine wpList_append_run _ _ 30 rfl rfl _ _ (.slice vp' k1 vc') rfl rfl HR.out ?_)
          exact ⟨HKP.out, HN.out⟩
        case done =>
          intro D W hD hi hd
          rw [hmr, List.take_length] at hi
          obtain ⟨v, a1, t1⟩ := hi.ap.ex
          obtain ⟨vp, vc, rfl⟩ := own_form t1.t
          have c0 : W.cell? ⟨w5.heap.size + 1, 0, none⟩ = some (.slice vp (mrg lsA lsB).length vc) := a1.cell 0
          have hz5 := HB5.out.size
          have hbw : Below w.heap.size w W := below_on _ _ HB5.out hi.ap.be
          have HCO : Hid (Calls Try.prog 29 #[.slice vp (mrg lsA lsB).length vc] W fun e w8 => ∃ up uc, e = .returned (.slice up (cmpL (mrg lsA lsB)).length uc) ∧ w8.heap[D]? = some (.deferred (some [])) ∧ TxtS w.heap.size w8 (.slice up (cmpL (mrg lsA lsB)).length uc) (cmpL (mrg lsA lsB)) ∧ Below w.heap.size w w8) := hid ((compactS_any t1 (by have := HLM.out; omega)).mono (by
            rintro e w8 ⟨up, uc, rfl, t8, o8⟩
            have own : ∀ q, (Value.slice vp (mrg lsA lsB).length vc).ownBlock = some q → w5.heap.size ≤ q ∧ ∃ cur, W.heap[q]? = some (.cells cur 9) := fun q hq => ⟨(own_ge t1.t q hq).1, t1.t.blk hq⟩
            refine ⟨up, uc, rfl, (o8.block D (Array.getElem?_eq_some_iff.1 hd).1 (fun e => ?_)).trans hd, t8.base hz5, ?_⟩
            · obtain ⟨_, cur, hc⟩ := own D e
              rw [hd] at hc; cases hc
            · exact ⟨o8.os.trans hbw.os, o8.tape.trans hbw.tape, o8.output.trans hbw.output, Nat.le_trans hbw.size o8.size, fun q hq => (o8.block q (Nat.lt_of_lt_of_le hq hbw.size) (fun e => by have := (own q e).1; omega)).trans (hbw.block q hq)⟩))
          refine hKx _ _ ?_
          dsimp only [endAct]
          clear hKx hi a1 t1 I0 HTA hbw hd
          generalize (mrg lsA lsB).length = mm at *
          generalize cmpL (mrg lsA lsB) = cl at *
          have HZ5 := hid hz5
          generalize hcl : cl.length = cn at *
          go_wp2_with (go_at_call 29; refine HCO.out.mono ?_; rintro e w8 ⟨up, uc, rfl, hd8, t8, b8⟩; have HD8 := hid hd8; have HT8 := hid t8; have HB8 := hid b8; clear hd8 t8 b8)
          have ht : Tn W0.heap.size w8 (w8.putObj D (.deferred none)) := Tn.put _ hD HD8.out rfl
          refine ⟨by simp, .inl ⟨_, _, rfl, run_takeDeferred HD8.out, ?_⟩⟩
          refine ⟨.slice up cn uc, ?_, ?_⟩
          · simp [results, Try.f20, go_sem]
          · exact HEND.out up uc _ (HT8.out.tn ht) (below_tn HB8.out ht (by have := HSZ.out; have := HZ5.out; omega))
end Go.Proofs.Ytkiojnledimihaa

/- Package place keeps what was asked of it. -/
namespace Go.Proofs.Ytkiojnledimihaa
open Go Go.RowKit Go.Shelf

theorem plc : PlC where
  hash := fun s w hs => phash_any s hs w
  set := fun s n w hs hn => pset_any s hs n hn w
  parts := fun c n h _ _ hls _ => pparts_any h c hls n
  merge := fun c h hr ht hl hf hx => pmerge_any _ c rfl h hr ht hl hf hx
end Go.Proofs.Ytkiojnledimihaa

/- PlaceParts, over the contracts of package place. -/
namespace Go.Proofs.Ytkiojnledimihaa
open Go Go.RowKit Go.Shelf

/-- While the sets are gone through: those below i are written over. -/
structure PpI (w : World) (g0 ga gb n i B2 : Nat) (va vb : Nat → Value) (ns : List Nm) (W : World) : Prop where
  be : Below w.heap.size w W
  ln : LnT W g0 ns
  ra : ∀ j, j < n → W.cell? ⟨ga, j, none⟩ = some (va j)
  rb : ∀ j, j < n → W.cell? ⟨gb, j, none⟩ = some (vb j)
  ta : ∀ j, i ≤ j → j < n → TxtS w.heap.size W (va j) (ptS ns n j)
  tb : ∀ j, j < n → TxtS B2 W (vb j) (ptS ns n j)
  na : ∀ j, j < n → ∀ b, (va j).ownBlock = some b → w.heap.size ≤ b ∧ b < B2 ∧ b ≠ ga ∧ b ≠ g0
  da : ∀ j k, j < n → k < n → j ≠ k → ∀ b, (va j).ownBlock = some b → (va k).ownBlock ≠ some b
  gB : B2 ≤ gb
section
variable {w W W' : World} {g0 ga gb n i B2 : Nat} {va vb : Nat → Value} {ns : List Nm}
theorem PpI.below (h : PpI w g0 ga gb n i B2 va vb ns W) (hb : Below W.heap.size W W') : PpI w g0 ga gb n i B2 va vb ns W' :=
  ⟨below_on _ _ h.be hb, h.ln.below hb, fun j hj => (World.cell?_of_block (a := ⟨ga, j, none⟩) (hb.block ga (cell_lt2 (h.ra j hj)))).trans (h.ra j hj), fun j hj => (World.cell?_of_block (a := ⟨gb, j, none⟩) (hb.block gb (cell_lt2 (h.rb j hj)))).trans (h.rb j hj), fun j h1 h2 => (h.ta j h1 h2).below hb, fun j hj => (h.tb j hj).below hb, h.na, h.da, h.gB⟩
theorem PpI.over (h : PpI w g0 ga gb n i B2 va vb ns W) (hi : i < n) (ho : Only (fun b => (va i).ownBlock = some b) W W') : PpI w g0 ga gb n (i + 1) B2 va vb ns W' := by
  have hz := h.be.size
  have nb : ∀ b, b < W.heap.size → (va i).ownBlock ≠ some b → W'.heap[b]? = W.heap[b]? := fun b hb hn => ho.block b hb hn
  refine ⟨⟨ho.os.trans h.be.os, ho.tape.trans h.be.tape, ho.output.trans h.be.output, Nat.le_trans hz ho.size, fun b hb => (nb b (by omega) (fun e => by have := (h.na i hi b e).1; omega)).trans (h.be.block b hb)⟩, ?_, fun j hj => ?_, fun j hj => ?_, fun j h1 h2 => ?_, fun j hj => ?_, h.na, h.da, h.gB⟩
  · have hk := nb g0 h.ln.lt (fun e => (h.na i hi g0 e).2.2.2 rfl)
    rcases h.ln with e | ⟨b, o, e, h1⟩
    · omega
    · cases e; exact .inr ⟨_, _, rfl, fun j hj => (World.cell?_of_block (a := ⟨g0, 0 + j, none⟩) hk).trans (h1 j hj)⟩
  · exact (World.cell?_of_block (a := ⟨ga, j, none⟩) (nb ga (cell_lt2 (h.ra j hj)) (fun e => (h.na i hi ga e).2.2.1 rfl))).trans (h.ra j hj)
  · exact (World.cell?_of_block (a := ⟨gb, j, none⟩) (nb gb (cell_lt2 (h.rb j hj)) (fun e => by have := (h.na i hi gb e).2.1; have := h.gB; omega))).trans (h.rb j hj)
  · exact (h.ta j (by omega) h2).keep fun b hb => nb b (own_ge (h.ta j (by omega) h2).t b hb).2 (fun e => h.da i j hi h2 (by omega) b e hb)
  · exact (h.tb j hj).keep fun b hb => nb b (own_ge (h.tb j hj).t b hb).2 (fun e => by have := (h.na i hi b e).2.1; have := (own_ge (h.tb j hj).t b hb).1; omega)
end
theorem lg_le {ns : List Nm} {n : Nat} (h : lgB ns (n : Int) = false) : ns.length ≤ n ∧ ∀ x ∈ ns, x.length ≤ 500 := by
  unfold lgB at h
  rw [Bool.or_eq_false_iff] at h
  refine ⟨by have := h.2; simp at this; omega, fun x hx => ?_⟩
  have := List.any_eq_false.1 h.1 x hx
  simpa using this
end Go.Proofs.Ytkiojnledimihaa

/- Lent lists in a list; PlaceMerges, over the contracts of package place. -/
namespace Go.Proofs.Ytkiojnledimihaa
open Go Go.RowKit Go.Shelf

/-- append(v, x), x a list of texts. -/
theorem run_pushTs {B : Nat} {w : World} {v : Value} {n : Nat} {xs : List Value} (h : w.ownsRow B 30 1 v n xs) (po : Option Addr) (m c : Nat) (hn : n ≤ 1000000) (hB : B ≤ w.heap.size) :
    ∃ v' w', (Builtin.append_ #[33, 33] 33 #[v, .slice (some ⟨w.heap.size, 0, none⟩) 1 1]).run Try.prog (w.alloc (.cells #[.slice po m c] 30)) = .ok v' w' ∧ w'.ownsRow B 30 1 v' (n + 1) (xs ++ [.slice po m c]) ∧
      (w.alloc (.cells #[.slice po m c] 30)).grownBy w' v.ownBlock ∧ (v'.ownBlock = v.ownBlock ∨ v'.ownBlock = some (w.heap.size + 1)) := by
  obtain ⟨i0, hi0, hz0, hz1, hz2⟩ := info_parts infoTs
  have h2 : (w.alloc (.cells #[.slice po m c] 30)).ownsRow B 30 1 v n xs := h.kept (World.grownBy_alloc w _ none) (by
    cases hv : v.ownBlock
    · exact Or.inl rfl
    · exact Or.inr (by simp))
  have hc : CAt (w.alloc (.cells #[.slice po m c] 30)) w.heap.size #[.slice po m c] 30 := CAt.made w _ _
  obtain ⟨v', w', hr, h3, h4, _, h5⟩ := run_append_own_at (P := Try.prog) (w.alloc (.cells #[.slice po m c] 30)) B 33 33 30 i0 (.slice none 0 0) 1 24 Try.underlying33 hi0 hz0 hz1 hz2 rfl (by decide) v n xs h2 ⟨w.heap.size, 0, none⟩ 1 1 [.slice po m c] rfl (fun j u hj => by
      have : j = 0 := by rcases j with _ | j <;> simp at hj ⊢
      subst this
      simp at hj; subst hj
      have hadd : (⟨w.heap.size, 0, none⟩ : Addr).add 0 = ⟨w.heap.size, 0, none⟩ := by unfold Addr.add; split <;> simp_all
      rw [hadd, hc.cell]; rfl) (by intro u hu; simp at hu; subst hu; rfl) (by unfold maxLen; omega) (by omega) (by rw [size_al]; omega)
  exact ⟨v', w', hr, h3, h4, by rw [size_al] at h5; exact h5⟩
/-- Lists that were lent so far. -/
structure LtQ (w : World) (l : List TV) (i : Nat) (v : Value) (gs : Nat → Nat) (W : World) : Prop where
  be : Below w.heap.size w W
  ow : W.ownsRow w.heap.size 30 1 v i ((List.range i).map fun j => .slice (some ⟨gs j, 0, none⟩) (l.getD j default).ns.length ((l.getD j default).ns.length + 3))
  ln : ∀ j, j < i → LnT W (gs j) (l.getD j default).ns
  na : ∀ j, j < i → ∀ b, v.ownBlock = some b → b ≠ gs j
  gg : ∀ j, j < i → w.heap.size ≤ gs j
section
variable {w W W' : World} {l : List TV} {i : Nat} {v : Value} {gs : Nat → Nat}
theorem LtQ.below (h : LtQ w l i v gs W) (hb : Below W.heap.size W W') : LtQ w l i v gs W' :=
  ⟨below_on _ _ h.be hb, ownsRow_keep h.ow fun b hb' => hb.block b (own_ge h.ow b hb').2, fun j hj => (h.ln j hj).below hb, h.na, h.gg⟩
/-- What lies apart from all of it may be turned. -/
theorem LtQ.only (h : LtQ w l i v gs W) {S : Nat → Prop} (ho : Only S W W') (hS : ∀ b, S b → b < W.heap.size → w.heap.size ≤ b ∧ v.ownBlock ≠ some b ∧ ∀ j, j < i → b ≠ gs j) : LtQ w l i v gs W' := by
  have hz := h.be.size
  refine ⟨⟨ho.os.trans h.be.os, ho.tape.trans h.be.tape, ho.output.trans h.be.output, Nat.le_trans hz ho.size, fun b hb => (ho.block b (by omega) (fun e => by have := (hS b e (by omega)).1; omega)).trans (h.be.block b hb)⟩, ownsRow_keep h.ow fun b hb' => ho.block b (own_ge h.ow b hb').2 (fun e => (hS b e (own_ge h.ow b hb').2).2.1 hb'), fun j hj => ?_, h.na, h.gg⟩
  have hk := ho.block (gs j) (h.ln j hj).lt (fun e => (hS _ e (h.ln j hj).lt).2.2 j hj rfl)
  rcases h.ln j hj with e | ⟨b, o, e, h1⟩
  · omega
  · cases e; exact .inr ⟨_, _, rfl, fun q hq => (World.cell?_of_block (a := ⟨gs j, 0 + q, none⟩) hk).trans (h1 q hq)⟩
/-- One list more: W1 behind LentTexts. -/
theorem LtQ.next (h : LtQ w l i v gs W) {W1 : World} (hl : LnT W1 W.heap.size (l.getD i default).ns) (hbl : Below W.heap.size W W1) (hi : i ≤ 1000) :
    ∃ vp vc w', (Builtin.append_ #[33, 33] 33 #[v, .slice (some ⟨W1.heap.size, 0, none⟩) 1 1]).run Try.prog (W1.alloc (.cells #[.slice (some ⟨W.heap.size, 0, none⟩) (l.getD i default).ns.length ((l.getD i default).ns.length + 3)] 30)) = .ok (.slice vp (i + 1) vc) w' ∧ LtQ w l (i + 1) (.slice vp (i + 1) vc) (upd gs i W.heap.size) w' := by
  have h1 := h.below hbl
  obtain ⟨v', w', hr, ho, hg, hw⟩ := run_pushTs h1.ow (some ⟨W.heap.size, 0, none⟩) (l.getD i default).ns.length ((l.getD i default).ns.length + 3) (by omega) h1.be.size
  obtain ⟨vp, vc, rfl⟩ := own_form ho
  have hba : Below W1.heap.size W1 (W1.alloc (.cells #[.slice (some ⟨W.heap.size, 0, none⟩) (l.getD i default).ns.length ((l.getD i default).ns.length + 3)] 30)) := (Below.refl _ _).alloc (Nat.le_refl _) _
  have hsa : (W1.alloc (.cells #[.slice (some ⟨W.heap.size, 0, none⟩) (l.getD i default).ns.length ((l.getD i default).ns.length + 3)] 30)).heap.size = W1.heap.size + 1 := by simp
  have old : ∀ b, b < W1.heap.size → v.ownBlock ≠ some b → w'.heap[b]? = W1.heap[b]? := fun b hb hn => (hg.block b (by rw [hsa]; omega) (fun e => hn e.symm)).trans (hba.block b hb)
  have hlk : ∀ {g : Nat} {ns : List Nm}, LnT W1 g ns → v.ownBlock ≠ some g → LnT w' g ns := fun {g ns} hl hn => by
    have hk := old g hl.lt hn
    rcases hl with e | ⟨b, o, e, h1⟩
    · omega
    · cases e; exact .inr ⟨_, _, rfl, fun q hq => (World.cell?_of_block (a := ⟨g, 0 + q, none⟩) hk).trans (h1 q hq)⟩
  have hvl : ∀ b, v.ownBlock = some b → b < W.heap.size := fun b hb => (own_ge h.ow b hb).2
  refine ⟨vp, vc, w', hr, below_on_grown (below_on _ _ h1.be hba) hg (fun b hb => (own_ge h1.ow b hb).1), ?_, fun j hj => ?_, fun j hj b hb => ?_, fun j hj => ?_⟩
  · have e : (List.range (i + 1)).map (fun j => Value.slice (some ⟨upd gs i W.heap.size j, 0, none⟩) (l.getD j default).ns.length ((l.getD j default).ns.length + 3)) = (List.range i).map (fun j => Value.slice (some ⟨gs j, 0, none⟩) (l.getD j default).ns.length ((l.getD j default).ns.length + 3)) ++ [.slice (some ⟨W.heap.size, 0, none⟩) (l.getD i default).ns.length ((l.getD i default).ns.length + 3)] := by
      rw [List.range_succ, List.map_append]
      congr 1
      · refine List.map_congr_left fun j hj => ?_
        rw [upd_ne _ _ (by have := List.mem_range.1 hj; omega)]
      · simp [upd_same]
    rw [e]; exact ho
  · by_cases e : j = i
    · subst e; rw [upd_same]; exact hlk hl (fun e => by have := hvl _ e; omega)
    · rw [upd_ne _ _ e]; exact hlk ((h.ln j (by omega)).below hbl) (fun e2 => h.na j (by omega) _ e2 rfl)
  · by_cases e : j = i
    · subst e; rw [upd_same]; intro e2
      rcases hw with e3 | e3
      · have := hvl b (e3 ▸ hb); omega
      · rw [e3] at hb; cases hb; have := hbl.size; omega
    · rw [upd_ne _ _ e]
      rcases hw with e3 | e3
      · exact h.na j (by omega) b (e3 ▸ hb)
      · rw [e3] at hb; cases hb
        have := (h.ln j (by omega)).lt; have := hbl.size; omega
  · by_cases e : j = i
    · subst e; rw [upd_same]; exact h.be.size
    · rw [upd_ne _ _ e]; exact h.gg j (by omega)
/-- The lent lists, as lists that lie anywhere. -/
def ltV (l : List TV) (gs : Nat → Nat) (n : Nat) : List TV := (List.range n).map fun j => ⟨some ⟨gs j, 0, none⟩, (l.getD j default).ns.length + 3, (l.getD j default).ns⟩
theorem ltV_len (l : List TV) (gs : Nat → Nat) (n : Nat) : (ltV l gs n).length = n := by simp [ltV]
theorem ltV_fl (l : List TV) (gs : Nat → Nat) : flT (ltV l gs l.length) = flT l := by
  unfold flT ltV
  rw [List.flatMap_def, List.flatMap_def, List.map_map]
  congr 1
  apply List.ext_getElem
  · simp
  · intro j h1 h2
    have hj : j < l.length := by simpa using h2
    simp only [List.getElem_map, List.getElem_range, Function.comp_apply]
    rw [getD_in _ _ _ hj]
theorem LtQ.cell {vp : Option Addr} {vc : Nat} (h : LtQ w l i (.slice vp i vc) gs W) {j : Nat} (hj : j < i) : ∃ g, vp = some ⟨g, 0, none⟩ ∧ W.cell? ⟨g, j, none⟩ = some (.slice (some ⟨gs j, 0, none⟩) (l.getD j default).ns.length ((l.getD j default).ns.length + 3)) := by
  obtain ⟨g, c, e, _, _, hc⟩ := own_get h.ow (by omega)
  cases e
  exact ⟨g, rfl, by rw [hc j hj]; simp [hj]⟩
theorem LtQ.ts {vp : Option Addr} {vc : Nat} (h : LtQ w l i (.slice vp i vc) gs W) : TsO W vp (ltV l gs i) := by
  refine ⟨?_, fun t ht => ?_⟩
  · rcases Nat.eq_zero_or_pos i with e | h0
    · subst e; exact .inl rfl
    · obtain ⟨g, e, _⟩ := h.cell h0
      subst e
      refine .inr ⟨g, 0, rfl, fun j hj => ?_⟩
      rw [ltV_len] at hj
      obtain ⟨g', e', hc⟩ := h.cell hj
      cases e'
      rw [Nat.zero_add, hc, getD_in (ltV l gs i) _ _ (by rw [ltV_len]; exact hj)]
      simp [ltV]
  · obtain ⟨j, hj, rfl⟩ := List.mem_map.1 ht
    exact (h.ln j (List.mem_range.1 hj)).tx
theorem LtQ.rm {vp : Option Addr} {vc : Nat} (h : LtQ w l i (.slice vp i vc) gs W) : Rm vp i vc := by
  rcases h.ow.2 with ⟨e, h0⟩ | ⟨g, cap, cur, e, _, _, h1, _, _, _⟩
  · cases e; exact ⟨Nat.le_refl _, fun _ => rfl⟩
  · cases e; exact ⟨h1, fun e => by cases e⟩
end
theorem merge_lent (hP : PlC) {w W : World} {l : List TV} {vp : Option Addr} {vc : Nat} {gs : Nat → Nat} (h : LtQ w l l.length (.slice vp l.length vc) gs W) (hl : l.length ≤ 20) (hs : ∀ j, j < l.length → lgB (l.getD j default).ns 60 = false) :
    Calls Try.prog 20 #[.slice vp l.length vc] W (MgP W (ltV l gs l.length)) := by
  have hlen : ∀ t ∈ ltV l gs l.length, Rm t.po t.ns.length t.c ∧ t.ns.length ≤ 10000 := fun t ht => by
    obtain ⟨j, hj, rfl⟩ := List.mem_map.1 ht
    have := (lg_le (n := 60) (hs j (List.mem_range.1 hj))).1
    exact ⟨⟨by dsimp only; omega, fun e => by cases e⟩, by dsimp only; omega⟩
  have hfl : (flT l).length ≤ 100000 := by
    have key : ∀ (m : List TV), (∀ t ∈ m, t.ns.length ≤ 60) → (flT m).length ≤ 60 * m.length := fun m => by
      induction m with
      | nil => intro _; simp [flT]
      | cons t r ih =>
        intro hm
        have h1 := ih fun t ht => hm t (List.mem_cons_of_mem _ ht)
        have h2 := hm t List.mem_cons_self
        unfold flT at *
        rw [List.flatMap_cons, List.length_append, List.length_cons]
        omega
    have := key l fun t ht => by
      obtain ⟨j, hj, rfl⟩ := List.mem_iff_getElem.1 ht
      have := (lg_le (n := 60) (hs j hj)).1
      rwa [getD_in _ _ _ hj] at this
    omega
  have hx : ∀ x ∈ flT l, x.length ≤ 512 := fun x hx => by
    obtain ⟨t, ht, hxt⟩ := mem_flT.1 hx
    obtain ⟨j, hj, rfl⟩ := List.mem_iff_getElem.1 ht
    have := (lg_le (n := 60) (hs j hj)).2 x (by rw [getD_in _ _ _ hj]; exact hxt)
    omega
  have hm := hP.merge (l := ltV l gs l.length) vc h.ts (by rw [ltV_len]; exact h.rm) hlen (by rw [ltV_len]; omega) (by rw [ltV_fl]; exact hfl) (by rw [ltV_fl]; exact hx)
  rw [ltV_len] at hm
  exact hm
end Go.Proofs.Ytkiojnledimihaa
