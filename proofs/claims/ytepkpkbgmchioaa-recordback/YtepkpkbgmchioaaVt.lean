/- Contract of Check of package record. -/
import Derived.Test.YtepkpkbgmchioaaVs
import Derived.Test.YtepkpkbgmchioaaVne
namespace Go.Proofs.Ytepkpkbgmchioaa
open Go Go.RowKit

theorem isEmpty_lst (u : ByteArray) : u.toList.isEmpty = (lst u).isEmpty := by
  unfold lst; rw [ByteArray.toList_eq]; cases u.data.toList <;> simp
theorem km_eq (k m : Int) : (inR k 1 16 && inR m 1 (16 - k)) = (inR k 1 15 && inR m 1 15 && decide (k + m ≤ 16)) := by
  unfold inR; rw [Bool.eq_iff_iff]; simp; omega
theorem okRc_vers (r : Rv) (ps : Ps) (hm : r.mark = false) (hl : r.sum.length = 32) : okRc (r.rc ps) = (okId (lst r.id) && inR r.time 0 1048576 && versOk r ps) := by
  unfold okRc Rv.rc versOk upOk
  simp only [hm, Bool.false_eq_true, if_false, hl, decide_true, Bool.and_true, isEmpty_lst]
  congr 1
  have := km_eq r.k r.m
  generalize inR r.size 0 65536 = a at *
  generalize okTag (lst r.etag) = b at *
  generalize okData (lst r.data) = c at *
  generalize okParts ps r.size = d at *
  generalize ((lst r.up).isEmpty || okId (lst r.up)) = e at *
  cases a <;> cases b <;> simp_all [← Bool.and_assoc]
def mkR (id : ByteArray) (time : Int) : Rv := ⟨id, time, true, 0, ⟨#[]⟩, 0, 0, ⟨#[]⟩, zeroD, .slice none 0 0, ⟨#[]⟩⟩
theorem mkR_ok {id : ByteArray} {time : Int} (h : id.size ≤ 100000) : (mkR id time).ok := ⟨rfl, by simp [mkR, zeroD], h, by simp [mkR, ByteArray.size], by simp [mkR, ByteArray.size], by simp [mkR, ByteArray.size]⟩
theorem okRc_mark (r : Rv) (ps : Ps) (hm : r.mark = true) : okRc (r.rc ps) = (okId (lst r.id) && inR r.time 0 1048576 && decide (r.rc ps = (mkR r.id r.time).rc [])) := by
  unfold okRc Rv.rc mkR
  simp only [hm, if_true]
  congr 1
  rw [Bool.eq_iff_iff]
  simp [lst_nil]
  constructor
  · rintro ⟨⟨⟨⟨⟨⟨⟨h1, h2⟩, h3⟩, h4⟩, h5⟩, h6⟩, h7⟩, h8⟩; exact ⟨h1, h2, h3, h4, h5, h6, h7, h8⟩
  · rintro ⟨h1, h2, h3, h4, h5, h6, h7, h8⟩; exact ⟨⟨⟨⟨⟨⟨⟨h1, h2⟩, h3⟩, h4⟩, h5⟩, h6⟩, h7⟩, h8⟩
theorem built_mark (id : ByteArray) (time : Int) : Try.prog.built 45 [(0, .string id), (1, i64 time), (2, .bool true)] = some (mkR id time).cs := by kernel_rfl
theorem PL.nil (w : World) : PL w (.slice none 0 0) [] := ⟨none, 0, rfl, Nat.le_refl _, by simp, Or.inl rfl⟩
theorem underRec : Try.prog.underlying 45 = some (.struct (Try.prog.fieldsOf 45)) := by kernel_rfl
theorem RBox.whole {w : World} {g : Nat} {r : Rv} (h : RBox w g r) : ∀ j v, r.cs[j]? = some v → w.cell? ⟨g, 0 + j, none⟩ = some v := fun j v hv => by rw [Nat.zero_add, h.at_.cell, hv]
theorem wpList_build_want {ops : Array Oper} {rest : List Oper} {o : Oper} {a : Act} {w : World} {Q : Exit → Act → World → Prop} (t : TypeId) (parts : Array (Nat × Operand)) (ho : o.op = .build t parts) (hw : Region.wanted o (yielded ops a.tmps) = true) (cs : Array Value)
    (hf : Try.prog.built t (parts.toList.map fun (i, x) => (i, a.eval x)) = some cs) (h : wpList Try.prog ops Q rest (a.put o.dst (.agg cs)) w) : wpList Try.prog ops Q (o :: rest) a w := by
  rw [← Array.toList_map] at hf
  exact BigFrame.wpList_want hw fun _ hK => wp_build t parts ho (by rw [hf]; rfl) (hK _ _ (by rw [hf]; exact h))
set_option maxRecDepth 100000 in
set_option maxHeartbeats 1000000 in
theorem check_0 (r : Rv) (hr : r.ok) (ps : Ps) (w : World) (hp : PL w r.pv ps) (h0 : okId (lst r.id) = false) : Calls Try.prog 23 #[.agg r.cs] w fun e w' => e = .returned (i64 2) ∧ Below w.heap.size w w' := by
  have HR := hid hr
  have HP := hid hp
  have H0 := hid h0
  clear hr hp h0
  go_enter Try.func23, Try.ntmps23
  go_wp2_with (first
    | ((with_reducible refine wpList_boxR rfl _ rfl r.cs ?_ ?_); exact rfl; intro w1 g1 hc1 hb1 hg1; have HA := hid (RBox.mk' HR.out hc1); have HB := hid hb1; have HP1 := hid (HP.out.below hb1); have c0 := HA.out.c0; have c1 := HA.out.c1; have c2 := HA.out.c2; clear hc1 hb1)
    | (go_at_call 44; refine (isID_any _ _ (by have := HR.out.i; omega)).mono ?_; rintro e w2 ⟨rfl, hb2⟩; rw [H0.out]; replace HA := hid (HA.out.below HR.out hb2); replace HP1 := hid (HP1.out.below hb2); replace HB := hid (below_on HB.out hb2); clear c0 c1 c2; have c0 := HA.out.c0; have c1 := HA.out.c1; have c2 := HA.out.c2; clear hb2))
  go_ret
  exact ⟨rfl, HB.out⟩
set_option maxRecDepth 100000 in
set_option maxHeartbeats 1000000 in
theorem check_1 (r : Rv) (hr : r.ok) (ps : Ps) (w : World) (hp : PL w r.pv ps) (h0 : okId (lst r.id) = true) (h1 : inR r.time 0 1048576 = false) : Calls Try.prog 23 #[.agg r.cs] w fun e w' => e = .returned (i64 2) ∧ Below w.heap.size w w' := by
  have HR := hid hr
  have HP := hid hp
  have H0 := hid h0
  have H1 := hid h1
  clear hr hp h0 h1
  go_enter Try.func23, Try.ntmps23
  go_wp2_with (first
    | ((with_reducible refine wpList_boxR rfl _ rfl r.cs ?_ ?_); exact rfl; intro w1 g1 hc1 hb1 hg1; have HA := hid (RBox.mk' HR.out hc1); have HB := hid hb1; have HP1 := hid (HP.out.below hb1); have c0 := HA.out.c0; have c1 := HA.out.c1; have c2 := HA.out.c2; clear hc1 hb1)
    | (go_at_call 44; refine (isID_any _ _ (by have := HR.out.i; omega)).mono ?_; rintro e w2 ⟨rfl, hb2⟩; rw [H0.out]; replace HA := hid (HA.out.below HR.out hb2); replace HP1 := hid (HP1.out.below hb2); replace HB := hid (below_on HB.out hb2); clear c0 c1 c2; have c0 := HA.out.c0; have c1 := HA.out.c1; have c2 := HA.out.c2; clear hb2)
    | (go_at_call 35; refine (between_any _ _ _ _).mono ?_; rintro e w' ⟨rfl, hw'⟩; rw [H1.out]; have hw2 := hw'.symm; subst hw2))
  go_ret
  exact ⟨rfl, HB.out⟩
set_option maxRecDepth 100000 in
set_option maxHeartbeats 1000000 in
theorem check_mt (r : Rv) (hr : r.ok) (ps : Ps) (w : World) (hp : PL w r.pv ps) (h0 : okId (lst r.id) = true) (h1 : inR r.time 0 1048576 = true) (hm : r.mark = true) (h3 : decide (r.rc ps = (mkR r.id r.time).rc []) = true) : Calls Try.prog 23 #[.agg r.cs] w fun e w' => e = .returned (i64 0) ∧ Below w.heap.size w w' := by
  have HR := hid hr
  have HP := hid hp
  have H0 := hid h0
  have H1 := hid h1
  have H3 := hid h3
  clear hr hp h0 h1 h3
  go_enter Try.func23, Try.ntmps23
  go_wp2_with (first
    | ((with_reducible refine wpList_boxR rfl _ rfl r.cs ?_ ?_); exact rfl; intro w1 g1 hc1 hb1 hg1; have HA := hid (RBox.mk' HR.out hc1); have HB := hid hb1; have HP1 := hid (HP.out.below hb1); have c0 := HA.out.c0; have c1 := HA.out.c1; have c2 := HA.out.c2; rw [hm] at c2; clear hc1 hb1)
    | (go_at_call 44; refine (isID_any _ _ (by have := HR.out.i; omega)).mono ?_; rintro e w2 ⟨rfl, hb2⟩; rw [H0.out]; replace HA := hid (HA.out.below HR.out hb2); replace HP1 := hid (HP1.out.below hb2); replace HB := hid (below_on HB.out hb2); clear c0 c1 c2; have c0 := HA.out.c0; have c1 := HA.out.c1; have c2 := HA.out.c2; rw [hm] at c2; clear hb2)
    | (go_at_call 35; refine (between_any _ _ _ _).mono ?_; rintro e w' ⟨rfl, hw'⟩; rw [H1.out]; have hw2 := hw'.symm; subst hw2)
    | ((with_reducible refine wpList_load_at 45 _ rfl ?_ g1 0 ?_ r.cs (.struct (Try.prog.fieldsOf 45)) ?_ underRec rfl ?_ ?_); exact rfl; exact rfl; exact HA.out.whole; (rw [HR.out.size]; exact sizeR))
    | ((with_reducible refine wpList_build_want 45 _ rfl ?_ (mkR r.id r.time).cs ?_ ?_); exact rfl; exact built_mark r.id r.time)
    | (go_at_call 26; refine (same_any r (mkR r.id r.time) HR.out (mkR_ok HR.out.i) ps [] _ HP1.out (PL.nil _)).mono ?_; rintro e w3 ⟨rfl, hb3⟩; rw [H3.out]; replace HA := hid (HA.out.below HR.out hb3); replace HB := hid (below_on HB.out hb3); clear c0 c1 c2; have c0 := HA.out.c0; have c1 := HA.out.c1; have c2 := HA.out.c2; rw [hm] at c2; clear hb3))
  go_ret
  exact ⟨rfl, HB.out⟩
set_option maxRecDepth 100000 in
set_option maxHeartbeats 1000000 in
theorem check_vt (r : Rv) (hr : r.ok) (ps : Ps) (w : World) (hp : PL w r.pv ps) (h0 : okId (lst r.id) = true) (h1 : inR r.time 0 1048576 = true) (hm : r.mark = false) (h3 : versOk r ps = true) : Calls Try.prog 23 #[.agg r.cs] w fun e w' => e = .returned (i64 0) ∧ Below w.heap.size w w' := by
  have HR := hid hr
  have HP := hid hp
  have H0 := hid h0
  have H1 := hid h1
  have H3 := hid h3
  clear hr hp h0 h1 h3
  go_enter Try.func23, Try.ntmps23
  go_wp2_with (first
    | ((with_reducible refine wpList_boxR rfl _ rfl r.cs ?_ ?_); exact rfl; intro w1 g1 hc1 hb1 hg1; have HA := hid (RBox.mk' HR.out hc1); have HB := hid hb1; have HP1 := hid (HP.out.below hb1); have c0 := HA.out.c0; have c1 := HA.out.c1; have c2 := HA.out.c2; rw [hm] at c2; clear hc1 hb1)
    | (go_at_call 44; refine (isID_any _ _ (by have := HR.out.i; omega)).mono ?_; rintro e w2 ⟨rfl, hb2⟩; rw [H0.out]; replace HA := hid (HA.out.below HR.out hb2); replace HP1 := hid (HP1.out.below hb2); replace HB := hid (below_on HB.out hb2); clear c0 c1 c2; have c0 := HA.out.c0; have c1 := HA.out.c1; have c2 := HA.out.c2; rw [hm] at c2; clear hb2)
    | (go_at_call 35; refine (between_any _ _ _ _).mono ?_; rintro e w' ⟨rfl, hw'⟩; rw [H1.out]; have hw2 := hw'.symm; subst hw2)
    | ((with_reducible refine wpList_load_at 45 _ rfl ?_ g1 0 ?_ r.cs (.struct (Try.prog.fieldsOf 45)) ?_ underRec rfl ?_ ?_); exact rfl; exact rfl; exact HA.out.whole; (rw [HR.out.size]; exact sizeR))
    | (go_at_call 45; refine (isVersion_any r HR.out ps _ HP1.out).mono ?_; rintro e w4 ⟨rfl, hb4⟩; rw [H3.out]; replace HB := hid (below_on HB.out hb4); clear hb4))
  go_ret
  exact ⟨rfl, HB.out⟩
set_option maxRecDepth 100000 in
set_option maxHeartbeats 1000000 in
theorem check_mf (r : Rv) (hr : r.ok) (ps : Ps) (w : World) (hp : PL w r.pv ps) (h0 : okId (lst r.id) = true) (h1 : inR r.time 0 1048576 = true) (hm : r.mark = true) (h3 : decide (r.rc ps = (mkR r.id r.time).rc []) = false) : Calls Try.prog 23 #[.agg r.cs] w fun e w' => e = .returned (i64 2) ∧ Below w.heap.size w w' := by
  have HR := hid hr
  have HP := hid hp
  have H0 := hid h0
  have H1 := hid h1
  have H3 := hid h3
  clear hr hp h0 h1 h3
  go_enter Try.func23, Try.ntmps23
  go_wp2_with (first
    | ((with_reducible refine wpList_boxR rfl _ rfl r.cs ?_ ?_); exact rfl; intro w1 g1 hc1 hb1 hg1; have HA := hid (RBox.mk' HR.out hc1); have HB := hid hb1; have HP1 := hid (HP.out.below hb1); have c0 := HA.out.c0; have c1 := HA.out.c1; have c2 := HA.out.c2; rw [hm] at c2; clear hc1 hb1)
    | (go_at_call 44; refine (isID_any _ _ (by have := HR.out.i; omega)).mono ?_; rintro e w2 ⟨rfl, hb2⟩; rw [H0.out]; replace HA := hid (HA.out.below HR.out hb2); replace HP1 := hid (HP1.out.below hb2); replace HB := hid (below_on HB.out hb2); clear c0 c1 c2; have c0 := HA.out.c0; have c1 := HA.out.c1; have c2 := HA.out.c2; rw [hm] at c2; clear hb2)
    | (go_at_call 35; refine (between_any _ _ _ _).mono ?_; rintro e w' ⟨rfl, hw'⟩; rw [H1.out]; have hw2 := hw'.symm; subst hw2)
    | ((with_reducible refine wpList_load_at 45 _ rfl ?_ g1 0 ?_ r.cs (.struct (Try.prog.fieldsOf 45)) ?_ underRec rfl ?_ ?_); exact rfl; exact rfl; exact HA.out.whole; (rw [HR.out.size]; exact sizeR))
    | ((with_reducible refine wpList_build_want 45 _ rfl ?_ (mkR r.id r.time).cs ?_ ?_); exact rfl; exact built_mark r.id r.time)
    | (go_at_call 26; refine (same_any r (mkR r.id r.time) HR.out (mkR_ok HR.out.i) ps [] _ HP1.out (PL.nil _)).mono ?_; rintro e w3 ⟨rfl, hb3⟩; rw [H3.out]; replace HA := hid (HA.out.below HR.out hb3); replace HB := hid (below_on HB.out hb3); clear c0 c1 c2; have c0 := HA.out.c0; have c1 := HA.out.c1; have c2 := HA.out.c2; rw [hm] at c2; clear hb3))
  go_ret
  exact ⟨rfl, HB.out⟩
set_option maxRecDepth 100000 in
set_option maxHeartbeats 1000000 in
theorem check_vf (r : Rv) (hr : r.ok) (ps : Ps) (w : World) (hp : PL w r.pv ps) (h0 : okId (lst r.id) = true) (h1 : inR r.time 0 1048576 = true) (hm : r.mark = false) (h3 : versOk r ps = false) : Calls Try.prog 23 #[.agg r.cs] w fun e w' => e = .returned (i64 2) ∧ Below w.heap.size w w' := by
  have HR := hid hr
  have HP := hid hp
  have H0 := hid h0
  have H1 := hid h1
  have H3 := hid h3
  clear hr hp h0 h1 h3
  go_enter Try.func23, Try.ntmps23
  go_wp2_with (first
    | ((with_reducible refine wpList_boxR rfl _ rfl r.cs ?_ ?_); exact rfl; intro w1 g1 hc1 hb1 hg1; have HA := hid (RBox.mk' HR.out hc1); have HB := hid hb1; have HP1 := hid (HP.out.below hb1); have c0 := HA.out.c0; have c1 := HA.out.c1; have c2 := HA.out.c2; rw [hm] at c2; clear hc1 hb1)
    | (go_at_call 44; refine (isID_any _ _ (by have := HR.out.i; omega)).mono ?_; rintro e w2 ⟨rfl, hb2⟩; rw [H0.out]; replace HA := hid (HA.out.below HR.out hb2); replace HP1 := hid (HP1.out.below hb2); replace HB := hid (below_on HB.out hb2); clear c0 c1 c2; have c0 := HA.out.c0; have c1 := HA.out.c1; have c2 := HA.out.c2; rw [hm] at c2; clear hb2)
    | (go_at_call 35; refine (between_any _ _ _ _).mono ?_; rintro e w' ⟨rfl, hw'⟩; rw [H1.out]; have hw2 := hw'.symm; subst hw2)
    | ((with_reducible refine wpList_load_at 45 _ rfl ?_ g1 0 ?_ r.cs (.struct (Try.prog.fieldsOf 45)) ?_ underRec rfl ?_ ?_); exact rfl; exact rfl; exact HA.out.whole; (rw [HR.out.size]; exact sizeR))
    | (go_at_call 45; refine (isVersion_any r HR.out ps _ HP1.out).mono ?_; rintro e w4 ⟨rfl, hb4⟩; rw [H3.out]; replace HB := hid (below_on HB.out hb4); clear hb4))
  go_ret
  exact ⟨rfl, HB.out⟩
theorem check_any (r : Rv) (hr : r.ok) (ps : Ps) (w : World) (hp : PL w r.pv ps) : Calls Try.prog 23 #[.agg r.cs] w fun e w' => e = .returned (i64 (if okRc (r.rc ps) = true then 0 else 2)) ∧ Below w.heap.size w w' := by
  cases hm : r.mark
  · rw [okRc_vers r ps hm hr.sl]
    cases h0 : okId (lst r.id)
    · exact check_0 r hr ps w hp h0
    cases h1 : inR r.time 0 1048576
    · exact check_1 r hr ps w hp h0 h1
    cases h3 : versOk r ps
    · exact check_vf r hr ps w hp h0 h1 hm h3
    · exact check_vt r hr ps w hp h0 h1 hm h3
  · rw [okRc_mark r ps hm]
    cases h0 : okId (lst r.id)
    · exact check_0 r hr ps w hp h0
    cases h1 : inR r.time 0 1048576
    · exact check_1 r hr ps w hp h0 h1
    cases h3 : decide (r.rc ps = (mkR r.id r.time).rc [])
    · exact check_mf r hr ps w hp h0 h1 hm h3
    · exact check_mt r hr ps w hp h0 h1 hm h3
#print axioms check_any
end Go.Proofs.Ytepkpkbgmchioaa
