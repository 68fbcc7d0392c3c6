/- Contract of record of the reader of package record: the walks. -/
import Derived.Test.YtepkpkbgmchioaaWe
namespace Go.Proofs.Ytepkpkbgmchioaa
open Go Go.RowKit

theorem any_mark {s : Option (List Nat)} (h : oneV (st1 (stT s)) = 1) : ∃ x r n r2, s.bind rdT = some (x, r) ∧ (stT s).bind rdU = some (n, r2) ∧ oneR (st1 (stT s)) = (s.bind rdAny).map (·.2) ∧ ∀ rc c, s.bind rdAny = some (rc, c) → rc = ⟨x, n, true, 0, [], 0, 0, [], zeroD, [], []⟩ := by
  rw [rdAny_eq]
  cases h1 : s.bind rdT with
  | none => unfold stT at h; rw [h1] at h; cases h
  | some q =>
  obtain ⟨x, r⟩ := q
  cases h2 : (stT s).bind rdU with
  | none => unfold st1 at h; rw [h2] at h; cases h
  | some q2 =>
  obtain ⟨n, r2⟩ := q2
  have e : st1 (stT s) = some r2 := by unfold st1; rw [h2]; rfl
  rw [e] at h ⊢
  refine ⟨x, r, n, r2, rfl, rfl, ?_, ?_⟩
  · match r2, h with
    | c :: b, h => have h' : c = 1 := h; subst h'; rfl
  · match r2, h with
    | c :: b, h =>
      have h' : c = 1 := h
      subst h'
      intro rc c h
      simp at h
      exact h.1.symm
theorem any_vers {s : Option (List Nat)} (h : oneV (st1 (stT s)) = 0) : ((oneR (st1 (stT s))).bind (rdD [] 0)).map (·.2) = (s.bind rdAny).map (·.2) ∧ ∀ rc c, s.bind rdAny = some (rc, c) → ∃ x r n r2, s.bind rdT = some (x, r) ∧ (stT s).bind rdU = some (n, r2) ∧ (oneR (st1 (stT s))).bind (rdD x n) = some (rc, c) := by
  rw [rdAny_eq]
  cases h1 : s.bind rdT with
  | none =>
    have e : stT s = none := by unfold stT; rw [h1]; rfl
    rw [e]
    exact ⟨rfl, fun rc c h => by cases h⟩
  | some q =>
  obtain ⟨x, r⟩ := q
  cases h2 : (stT s).bind rdU with
  | none =>
    have e : st1 (stT s) = none := by unfold st1; rw [h2]; rfl
    rw [e]
    exact ⟨rfl, fun rc c h => by cases h⟩
  | some q2 =>
  obtain ⟨n, r2⟩ := q2
  have e : st1 (stT s) = some r2 := by unfold st1; rw [h2]; rfl
  rw [e] at h ⊢
  match r2, h with
  | [], _ => exact ⟨rfl, fun rc c h => by cases h⟩
  | c :: b, h =>
    have h' : c = 0 := h
    subst h'
    refine ⟨?_, fun rc c h => ⟨x, r, n, _, rfl, rfl, by simpa [oneR] using h⟩⟩
    have e1 := rdD_end (some b) [] 0
    have e2 := rdD_end (some b) x n
    simp only [Option.bind_some] at e1 e2 ⊢
    simp only [oneR, Option.bind_some]
    rw [e1, ← e2]; rfl
theorem any_none {s : Option (List Nat)} {c : Nat} (h : oneV (st1 (stT s)) = c) (hc : 1 < c) : s.bind rdAny = none := by
  rw [rdAny_eq]
  cases h1 : s.bind rdT with
  | none => rfl
  | some q =>
  cases h2 : (stT s).bind rdU with
  | none => rfl
  | some q2 =>
  obtain ⟨n, r2⟩ := q2
  have e : st1 (stT s) = some r2 := by unfold st1; rw [h2]; rfl
  rw [e] at h ⊢
  match r2, h with
  | [], _ => rfl
  | d :: b, h => have h' : d = c := h; subst h'; simp [hc]
theorem fin_rec {s s7 : Option (List Nat)} {R : Rc} {n : Int} (hv : ∀ rc c, s.bind rdAny = some (rc, c) → R = rc) (hs : s7 = (s.bind rdAny).map (·.2)) (hn : n = if okRc R = true then 0 else 2) : (if (n == 0) then s7 else none) = (s.bind rdR).map (·.2) ∧ ∀ rc c, s.bind rdR = some (rc, c) → R = rc := by
  rw [rdR_eq]
  cases h : s.bind rdAny with
  | none => rw [h] at hs; rw [hs]; exact ⟨by cases (n == 0) <;> rfl, fun rc c h => by cases h⟩
  | some q =>
    obtain ⟨rc, c⟩ := q
    have e := hv rc c h
    subst e
    rw [h] at hs
    rw [hs]
    cases ho : okRc R
    · rw [ho] at hn
      have : n = 2 := by simpa using hn
      subst this
      exact ⟨by simp [ho], fun rc c h => by simp [ho] at h⟩
    · rw [ho] at hn
      have : n = 0 := by simpa using hn
      subst this
      exact ⟨by simp [ho], fun rc c h => by simp [ho] at h; exact h.1⟩
theorem markR_any (B : Nat) {w W : World} {p g2 g : Nat} {s : Option (List Nat)} {t : ByteArray} {v : Int} (h : RR w p g2 g { zR with id := t, time := v, mark := true } s W) : ∃ (R : Rv) (ps : Ps), R.rc ps = ⟨lst t, v, true, 0, [], 0, 0, [], zeroD, [], []⟩ ∧ RR w p g2 g R s W ∧ R.pv.oneCell' = true ∧ PLF B W R.pv ps :=
  ⟨_, [], rfl, h, rfl, PLF.nil _ _⟩
set_option maxRecDepth 100000 in
set_option maxHeartbeats 1000000 in
theorem record_mark (w : World) (p : Nat) (s : Option (List Nat)) (h : Rd w p s) (hc : oneV (st1 (stT s)) = 1) : Calls Try.prog 55 #[ptr p] w (RecS w p s) := by
  have H := hid h
  have HC := hid hc
  have hp := h.lt
  clear h hc
  go_enter Try.func55, Try.ntmps55
  go_wp2_with (first
    | ((with_reducible refine wpList_allocR rfl rfl ?_); intro w1 g2 hz1 hb1 hg2; have HZ1 := hid hz1; have HB1 := hid hb1; have HG2 := hid hg2; have H1 := hid (H.out.below hb1); clear hz1 hb1 hg2 H)
    | (go_at_call 43; refine (text_any _ p s H1.out).mono ?_; rintro e w2 ⟨t, rfl, hr2, ho2, l2, f2⟩; have HR2 : Hid (Rd w2 p (stT s)) := hid hr2; have HO2 := hid ho2; have F2 := hid f2; clear hr2 ho2 f2)
    | (go_at_call 41; refine (number_any _ p _ HR2.out).mono ?_; rintro e w3 ⟨v, rfl, hr3, ho3, f3⟩; have HR3 : Hid (Rd w3 p (st1 (stT s))) := hid hr3; have HO3 := hid (HO2.out.trans ho3); have F3 := hid f3; clear hr3 ho3 f3 HR2 HO2)
    | ((with_reducible refine wpList_build_want 45 _ rfl ?_ ({ zR with id := t, time := v } : Rv).cs ?_ ?_); exact rfl; exact built_head t v)
    | ((with_reducible refine wpList_allocR rfl rfl ?_); intro w4 g hz4 hb4 hg4; have HZ4 := hid hz4; have HB4 := hid hb4; have HG4 := hid hg4; clear hz4 hb4 hg4)
    | ((with_reducible refine wpList_storeR rfl rfl _ _ rfl g ?_ (r := { zR with id := t, time := v }) ?_ zR_ok (headR_ok l2) rfl HZ4.out ?_); exact rfl; exact rfl; intro w5 h5 o5; have HRR := hid (RR.mk1 hp HZ1.out HB1.out HG2.out HR3.out HO3.out HB4.out HG4.out h5 (headR_ok l2) o5); clear h5 o5 HZ1 HB1 HG2 HR3 HO3 HB4 HG4 HZ4 H1)
    | (go_at_call 58; refine (one_any _ p _ HRR.out.rd).mono ?_; rintro e w6 ⟨rfl, hr6, ho6⟩; rw [HC.out, show u8 1 = Value.int .u8 1 from rfl]; have HR6 := hid (HRR.out.pp hr6 ho6); have c2 := HR6.out.rb.c2; have z2 := HR6.out.rb.free; have hr7 := HR6.out.set2 true; have d2 := hr7.rb.c2; obtain ⟨R, ps, hR, hr8, hone, hpl⟩ := markR_any (w6.heap.size) hr7; have HR7 := hid hr8; have HRE := hid hR; have HW : Hid (p < w.heap.size ∧ g2 < w6.heap.size ∧ w.heap.size ≤ w6.heap.size) := hid ⟨hp, HR6.out.zb.at_.lt, HR6.out.only.size⟩; have HPL := hid hpl; clear hr6 ho6 HRR HR6 hr7 hR hr8 hpl)
    | (go_at_call 59; (with_reducible refine (need_true _ p).mono ?_); rintro e w7 ⟨rfl, hw7⟩; have hw8 := hw7.symm; subst hw8; clear hw7)
    | ((with_reducible refine wpList_load_at 45 _ rfl ?_ g 0 ?_ R.cs (.struct (Try.prog.fieldsOf 45)) ?_ underRec rfl ?_ ?_); exact rfl; exact rfl; exact HR9.out.rb.whole; (rw [HR9.out.ok.size]; exact sizeR))
    | ((with_reducible refine wpList_load_at 45 _ rfl ?_ g 0 ?_ R.cs (.struct (Try.prog.fieldsOf 45)) ?_ underRec rfl ?_ ?_); exact rfl; exact rfl; exact HR7.out.rb.whole; (rw [HR7.out.ok.size]; exact sizeR))
    | (go_at_call 23; refine (check_any R HR7.out.ok ps _ HPL.out.1).mono ?_; rintro e w8 ⟨rfl, hb8⟩; generalize hn : (if okRc (Rv.rc R ps) = true then (0 : Int) else 2) = n; have HN := hid hn; have HR8 := hid (HR7.out.below hb8); replace HPL := hid (HPL.out.only (Only.of_below (S := fun _ => False) hb8) (fun _ h => h.elim)); clear hn hb8 HR7)
    | (go_at_call 59; refine (need_any _ p _ _ HR8.out.rd).mono ?_; rintro e w9 ⟨rfl, hr9, ho9⟩; have HR9 := hid (HR8.out.pp hr9 ho9); replace HPL := hid (HPL.out.only ho9 (fun i e => by have := HW.out; omega)); clear hr9 ho9 HR8)
    | ((with_reducible refine wpList_storeR rfl rfl _ _ rfl g2 ?_ (r := R) ?_ zR_ok HR9.out.ok ?_ HR9.out.zb ?_); exact rfl; exact rfl; exact hone; intro w10 h10 o10; have H10 := hid h10; have O10 := hid o10; replace HPL := hid (HPL.out.only o10 (fun i e => by have := HW.out; omega)); clear h10 o10))
  refine ret_rowR rfl g2 rfl rfl H10.out HR9.out.ok ?_
  obtain ⟨x, r, n1, r2, e1, e2, e3, e4⟩ := any_mark HC.out
  obtain ⟨k1, k2⟩ := fin_rec (s := s) (R := R.rc ps) (n := n) (fun rc c h => by rw [e4 rc c h, HRE.out, F2.out _ _ e1, F3.out _ _ e2]) e3 HN.out.symm
  exact ⟨R, ps, rfl, HR9.out.ok, PLF.base HPL.out HW.out.2.2, k1 ▸ (HR9.out.rd.only O10.out (fun i e => by have := HR9.out.h1; have := HR9.out.h2; omega)), HR9.out.only.then O10.out (fun i hi e => by have := HR9.out.h1; have := HR9.out.h2; omega), k2⟩
set_option maxRecDepth 100000 in
set_option maxHeartbeats 1000000 in
theorem record_vers (w : World) (p : Nat) (s : Option (List Nat)) (h : Rd w p s) (hc : oneV (st1 (stT s)) = 0) : Calls Try.prog 55 #[ptr p] w (RecS w p s) := by
  have H := hid h
  have HC := hid hc
  have hp := h.lt
  clear h hc
  go_enter Try.func55, Try.ntmps55
  go_wp2_with (first
    | ((with_reducible refine wpList_allocR rfl rfl ?_); intro w1 g2 hz1 hb1 hg2; have HZ1 := hid hz1; have HB1 := hid hb1; have HG2 := hid hg2; have H1 := hid (H.out.below hb1); clear hz1 hb1 hg2 H)
    | (go_at_call 43; refine (text_any _ p s H1.out).mono ?_; rintro e w2 ⟨t, rfl, hr2, ho2, l2, f2⟩; have HR2 : Hid (Rd w2 p (stT s)) := hid hr2; have HO2 := hid ho2; have F2 := hid f2; clear hr2 ho2 f2)
    | (go_at_call 41; refine (number_any _ p _ HR2.out).mono ?_; rintro e w3 ⟨v, rfl, hr3, ho3, f3⟩; have HR3 : Hid (Rd w3 p (st1 (stT s))) := hid hr3; have HO3 := hid (HO2.out.trans ho3); have F3 := hid f3; clear hr3 ho3 f3 HR2 HO2)
    | ((with_reducible refine wpList_build_want 45 _ rfl ?_ ({ zR with id := t, time := v } : Rv).cs ?_ ?_); exact rfl; exact built_head t v)
    | ((with_reducible refine wpList_allocR rfl rfl ?_); intro w4 g hz4 hb4 hg4; have HZ4 := hid hz4; have HB4 := hid hb4; have HG4 := hid hg4; clear hz4 hb4 hg4)
    | ((with_reducible refine wpList_storeR rfl rfl _ _ rfl g ?_ (r := { zR with id := t, time := v }) ?_ zR_ok (headR_ok l2) rfl HZ4.out ?_); exact rfl; exact rfl; intro w5 h5 o5; have HRR := hid (RR.mk1 hp HZ1.out HB1.out HG2.out HR3.out HO3.out HB4.out HG4.out h5 (headR_ok l2) o5); clear h5 o5 HZ1 HB1 HG2 HR3 HO3 HB4 HG4 HZ4 H1)
    | (go_at_call 58; refine (one_any _ p _ HRR.out.rd).mono ?_; rintro e w6 ⟨rfl, hr6, ho6⟩; rw [HC.out, show u8 0 = Value.int .u8 0 from rfl]; have HR6 := hid (HRR.out.pp hr6 ho6); clear hr6 ho6 HRR; have c2 := HR6.out.rb.c2; have z2 := HR6.out.rb.free; have hr7 := HR6.out.set2 false; have d2 := hr7.rb.c2; have HRV := hid hr7; have HW := hid (show p < w.heap.size ∧ _ ∧ _ from ⟨hp, HRV.out.zb.at_.lt, HRV.out.only.size⟩); clear hr7 HR6)
    | (go_at_call 59; (with_reducible refine (need_true _ p).mono ?_); rintro e w7 ⟨rfl, hw7⟩; have hw8 := hw7.symm; subst hw8; clear hw7)
    | (go_at_call 67; refine (version_any _ p g _ _ HRV.out.v2).mono ?_; rintro e w7 ⟨R, ps, rfl, q1, q2, q3, k7, hpl, hval⟩; have hone : R.pv.oneCell' = true := (by obtain ⟨_, _, _, e⟩ := hpl.form; rw [e]; rfl); have HR7 := hid (HRV.out.ver k7); have HPL := hid hpl; have HVAL := hid hval; clear q1 q2 q3 k7 hpl hval HRV c2 z2 d2)
    | ((with_reducible refine wpList_load_at 45 _ rfl ?_ g 0 ?_ R.cs (.struct (Try.prog.fieldsOf 45)) ?_ underRec rfl ?_ ?_); exact rfl; exact rfl; exact HR9.out.rb.whole; (rw [HR9.out.ok.size]; exact sizeR))
    | ((with_reducible refine wpList_load_at 45 _ rfl ?_ g 0 ?_ R.cs (.struct (Try.prog.fieldsOf 45)) ?_ underRec rfl ?_ ?_); exact rfl; exact rfl; exact HR7.out.rb.whole; (rw [HR7.out.ok.size]; exact sizeR))
    | (go_at_call 23; refine (check_any R HR7.out.ok ps _ HPL.out.1).mono ?_; rintro e w8 ⟨rfl, hb8⟩; generalize hn : (if okRc (Rv.rc R ps) = true then (0 : Int) else 2) = n; have HN := hid hn; have HR8 := hid (HR7.out.below hb8); replace HPL := hid (HPL.out.only (Only.of_below (S := fun _ => False) hb8) (fun _ h => h.elim)); clear hn hb8 HR7)
    | (go_at_call 59; refine (need_any _ p _ _ HR8.out.rd).mono ?_; rintro e w9 ⟨rfl, hr9, ho9⟩; have HR9 := hid (HR8.out.pp hr9 ho9); replace HPL := hid (HPL.out.only ho9 (fun i e => by have := HW.out; omega)); clear hr9 ho9 HR8)
    | ((with_reducible refine wpList_storeR rfl rfl _ _ rfl g2 ?_ (r := R) ?_ zR_ok HR9.out.ok ?_ HR9.out.zb ?_); exact rfl; exact rfl; exact hone; intro w10 h10 o10; have H10 := hid h10; have O10 := hid o10; replace HPL := hid (HPL.out.only o10 (fun i e => by have := HW.out; omega)); clear h10 o10))
  refine ret_rowR rfl g2 rfl rfl H10.out HR9.out.ok ?_
  obtain ⟨a1, a2⟩ := any_vers HC.out
  obtain ⟨k1, k2⟩ := fin_rec (s := s) (R := R.rc ps) (n := n) (fun rc c h => by
    obtain ⟨x, r, n1, r2, e1, e2, e3⟩ := a2 rc c h
    have b := HVAL.out n1 rc c (by show (oneR (st1 (stT s))).bind (rdD (lst t) n1) = _; rw [F2.out _ _ e1]; exact e3)
    obtain ⟨_, _, _, _, _, _, _, _, _, _, _, _, _, _, _, _, _, rfl⟩ := rdD_val e3
    rw [b]
    simp only [F3.out _ _ e2]) (s7 := stT (stP ((stT (st1 (st1 (stT (st1 (oneR (st1 (stT s)))))))).bind tk32))) (by rw [← a1]; exact (rdD_end _ _ _).symm) HN.out.symm
  exact ⟨R, ps, rfl, HR9.out.ok, PLF.base HPL.out HW.out.2.2, k1 ▸ (HR9.out.rd.only O10.out (fun i e => by have := HR9.out.h1; have := HR9.out.h2; omega)), HR9.out.only.then O10.out (fun i hi e => by have := HR9.out.h1; have := HR9.out.h2; omega), k2⟩
set_option maxRecDepth 100000 in
set_option maxHeartbeats 1000000 in
theorem record_bad (w : World) (p : Nat) (s : Option (List Nat)) (h : Rd w p s) (c : Nat) (hc : oneV (st1 (stT s)) = c) (hc2 : 1 < c) : Calls Try.prog 55 #[ptr p] w (RecS w p s) := by
  have H := hid h
  have HC := hid hc
  have hp := h.lt
  have hc0 : ((c : Int) == 0) = false := by simp; omega
  have hc1 : ((c : Int) == 1) = false := by simp; omega
  clear h hc
  go_enter Try.func55, Try.ntmps55
  go_wp2_with (first
    | ((with_reducible refine wpList_allocR rfl rfl ?_); intro w1 g2 hz1 hb1 hg2; have HZ1 := hid hz1; have HB1 := hid hb1; have HG2 := hid hg2; have H1 := hid (H.out.below hb1); clear hz1 hb1 hg2 H)
    | (go_at_call 43; refine (text_any _ p s H1.out).mono ?_; rintro e w2 ⟨t, rfl, hr2, ho2, l2, f2⟩; have HR2 : Hid (Rd w2 p (stT s)) := hid hr2; have HO2 := hid ho2; have F2 := hid f2; clear hr2 ho2 f2)
    | (go_at_call 41; refine (number_any _ p _ HR2.out).mono ?_; rintro e w3 ⟨v, rfl, hr3, ho3, f3⟩; have HR3 : Hid (Rd w3 p (st1 (stT s))) := hid hr3; have HO3 := hid (HO2.out.trans ho3); have F3 := hid f3; clear hr3 ho3 f3 HR2 HO2)
    | ((with_reducible refine wpList_build_want 45 _ rfl ?_ ({ zR with id := t, time := v } : Rv).cs ?_ ?_); exact rfl; exact built_head t v)
    | ((with_reducible refine wpList_allocR rfl rfl ?_); intro w4 g hz4 hb4 hg4; have HZ4 := hid hz4; have HB4 := hid hb4; have HG4 := hid hg4; clear hz4 hb4 hg4)
    | ((with_reducible refine wpList_storeR rfl rfl _ _ rfl g ?_ (r := { zR with id := t, time := v }) ?_ zR_ok (headR_ok l2) rfl HZ4.out ?_); exact rfl; exact rfl; intro w5 h5 o5; have HRR := hid (RR.mk1 hp HZ1.out HB1.out HG2.out HR3.out HO3.out HB4.out HG4.out h5 (headR_ok l2) o5); clear h5 o5 HZ1 HB1 HG2 HR3 HO3 HB4 HG4 HZ4 H1)
    | (go_at_call 58; refine (one_any _ p _ HRR.out.rd).mono ?_; rintro e w6 ⟨rfl, hr6, ho6⟩; rw [HC.out, show u8 c = Value.int .u8 (c : Int) from rfl]; have HR6 := hid (HRR.out.pp hr6 ho6); clear hr6 ho6 HRR)
    | (go_at_call 59; (with_reducible refine (need_any _ p _ false HR6.out.rd).mono ?_); rintro e w61 ⟨rfl, hr61, ho61⟩; replace HR6 := hid (HR6.out.pp hr61 ho61); clear hr61 ho61; have c2 := HR6.out.rb.c2; have z2 := HR6.out.rb.free; have hr7 := HR6.out.set2 false; have d2 := hr7.rb.c2; have HRV := hid hr7; have HW := hid (show p < w.heap.size ∧ _ ∧ _ from ⟨hp, HRV.out.zb.at_.lt, HRV.out.only.size⟩); clear hr7 HR6)
    | (go_at_call 67; refine (version_any _ p g _ _ HRV.out.v2).mono ?_; rintro e w7 ⟨R, ps, rfl, q1, q2, q3, k7, hpl, hval⟩; have hone : R.pv.oneCell' = true := (by obtain ⟨_, _, _, e⟩ := hpl.form; rw [e]; rfl); have HR7 := hid (HRV.out.ver k7); have HPL := hid hpl; have HVAL := hid hval; clear q1 q2 q3 k7 hpl hval HRV c2 z2 d2)
    | ((with_reducible refine wpList_load_at 45 _ rfl ?_ g 0 ?_ R.cs (.struct (Try.prog.fieldsOf 45)) ?_ underRec rfl ?_ ?_); exact rfl; exact rfl; exact HR9.out.rb.whole; (rw [HR9.out.ok.size]; exact sizeR))
    | ((with_reducible refine wpList_load_at 45 _ rfl ?_ g 0 ?_ R.cs (.struct (Try.prog.fieldsOf 45)) ?_ underRec rfl ?_ ?_); exact rfl; exact rfl; exact HR7.out.rb.whole; (rw [HR7.out.ok.size]; exact sizeR))
    | (go_at_call 23; refine (check_any R HR7.out.ok ps _ HPL.out.1).mono ?_; rintro e w8 ⟨rfl, hb8⟩; generalize hn : (if okRc (Rv.rc R ps) = true then (0 : Int) else 2) = n; have HN := hid hn; have HR8 := hid (HR7.out.below hb8); replace HPL := hid (HPL.out.only (Only.of_below (S := fun _ => False) hb8) (fun _ h => h.elim)); clear hn hb8 HR7)
    | (go_at_call 59; refine (need_any _ p _ _ HR8.out.rd).mono ?_; rintro e w9 ⟨rfl, hr9, ho9⟩; have HR9 := hid (HR8.out.pp hr9 ho9); replace HPL := hid (HPL.out.only ho9 (fun i e => by have := HW.out; omega)); clear hr9 ho9 HR8)
    | ((with_reducible refine wpList_storeR rfl rfl _ _ rfl g2 ?_ (r := R) ?_ zR_ok HR9.out.ok ?_ HR9.out.zb ?_); exact rfl; exact rfl; exact hone; intro w10 h10 o10; have H10 := hid h10; have O10 := hid o10; replace HPL := hid (HPL.out.only o10 (fun i e => by have := HW.out; omega)); clear h10 o10))
  refine ret_rowR rfl g2 rfl rfl H10.out HR9.out.ok ?_
  have a1 := any_none HC.out hc2
  obtain ⟨k1, k2⟩ := fin_rec (s := s) (R := R.rc ps) (n := n) (fun rc c h => by rw [a1] at h; cases h) (by rw [a1]) HN.out.symm
  exact ⟨R, ps, rfl, HR9.out.ok, PLF.base HPL.out HW.out.2.2, k1 ▸ (HR9.out.rd.only O10.out (fun i e => by have := HR9.out.h1; have := HR9.out.h2; omega)), HR9.out.only.then O10.out (fun i hi e => by have := HR9.out.h1; have := HR9.out.h2; omega), k2⟩
theorem record_any (w : World) (p : Nat) (s : Option (List Nat)) (h : Rd w p s) : Calls Try.prog 55 #[ptr p] w (RecS w p s) := by
  by_cases h0 : oneV (st1 (stT s)) = 0
  · exact record_vers w p s h h0
  by_cases h1 : oneV (st1 (stT s)) = 1
  · exact record_mark w p s h h1
  · exact record_bad w p s h _ rfl (by omega)
#print axioms record_any
end Go.Proofs.Ytepkpkbgmchioaa
