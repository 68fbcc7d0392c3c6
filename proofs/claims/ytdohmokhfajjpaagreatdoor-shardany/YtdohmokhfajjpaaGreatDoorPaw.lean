/- Texts laid into one, cut to what is needed: the remark ahead of each part says what is proved there. -/
import Derived.Test.YtdohmokhfajjpaaGreatDoorPav
import Derived.Test.YtdohmokhfajjpaaGreatDoorPaq
import Derived.ChangeArms
import Derived.ChangeSlices
import Derived.OpenShut
import Derived.Lib.SlBytesConst
import Derived.Deep.Cut
import Derived.Laws.OwnMore
/- Contract of record of the reader of package record: the walks. -/
namespace Go.Proofs.YtdohmokhfajjpaaGreatDoor
open Go Go.RowKit

theorem any_mark {s : Option (List Nat)} (h : oneV (st1 (stT s)) = 1) : ∃ x r n r2, s.bind rdT = some (x, r) ∧ (stT s).bind rdU = some (n, r2) ∧ oneR (st1 (stT s)) = (s.bind rdAny).map (·.2) ∧ ∀ rc c, s.bind rdAny = some (rc, c) → rc = ⟨x, n, true, 0, [], 0, 0, [], zeroD, [], []⟩ := by
 rw [rdAny_eq]
 cases h1 : s.bind rdT with
 | none => unfold stT at h; rw [h1] at h; cases h
 | some q =>
 obtain ⟨x, r⟩ := q
 cases h2 : (stT s).bind rdU with
 | none => unfold st1 at h; rw [h2] at h; cases h
 | some q2 =>
 obtain ⟨n, r2⟩ := q2
 have e : st1 (stT s) = some r2 := by unfold st1; rw [h2]; rfl
 rw [e] at h ⊢
 refine ⟨x, r, n, r2, rfl, rfl, ?_, ?_⟩
 ·match r2, h with
  | c :: b, h => have h' : c = 1 := h; subst h'; rfl
 ·match r2, h with
  | c :: b, h =>
   have h' : c = 1 := h
   subst h'
   intro rc c h
   simp at h
   exact h.1.symm
theorem any_vers {s : Option (List Nat)} (h : oneV (st1 (stT s)) = 0) : ((oneR (st1 (stT s))).bind (rdD [] 0)).map (·.2) = (s.bind rdAny).map (·.2) ∧ ∀ rc c, s.bind rdAny = some (rc, c) → ∃ x r n r2, s.bind rdT = some (x, r) ∧ (stT s).bind rdU = some (n, r2) ∧ (oneR (st1 (stT s))).bind (rdD x n) = some (rc, c) := by
 rw [rdAny_eq]
 cases h1 : s.bind rdT with
 | none =>
  have e : stT s = none := by unfold stT; rw [h1]; rfl
  rw [e]
  exact ⟨rfl, fun rc c h => by cases h⟩
 | some q =>
 obtain ⟨x, r⟩ := q
 cases h2 : (stT s).bind rdU with
 | none =>
  have e : st1 (stT s) = none := by unfold st1; rw [h2]; rfl
  rw [e]
  exact ⟨rfl, fun rc c h => by cases h⟩
 | some q2 =>
 obtain ⟨n, r2⟩ := q2
 have e : st1 (stT s) = some r2 := by unfold st1; rw [h2]; rfl
 rw [e] at h ⊢
 match r2, h with
 | [], _ => exact ⟨rfl, fun rc c h => by cases h⟩
 | c :: b, h =>
  have h' : c = 0 := h
  subst h'
  refine ⟨?_, fun rc c h => ⟨x, r, n, _, rfl, rfl, by simpa [oneR] using h⟩⟩
  have e1 := rdD_end (some b) [] 0
  have e2 := rdD_end (some b) x n
  simp only [Option.bind_some] at e1 e2 ⊢
  simp only [oneR, Option.bind_some]
  rw [e1, ← e2]; rfl
theorem any_none {s : Option (List Nat)} {c : Nat} (h : oneV (st1 (stT s)) = c) (hc : 1 < c) : s.bind rdAny = none := by
 rw [rdAny_eq]
 cases h1 : s.bind rdT with
 | none => rfl
 | some q =>
 cases h2 : (stT s).bind rdU with
 | none => rfl
 | some q2 =>
 obtain ⟨n, r2⟩ := q2
 have e : st1 (stT s) = some r2 := by unfold st1; rw [h2]; rfl
 rw [e] at h ⊢
 match r2, h with
 | [], _ => rfl
 | d :: b, h => have h' : d = c := h; subst h'; simp [hc]
theorem fin_rec {s s7 : Option (List Nat)} {R : Rc} {n : Int} (hv : ∀ rc c, s.bind rdAny = some (rc, c) → R = rc) (hs : s7 = (s.bind rdAny).map (·.2)) (hn : n = if okRc R = true then 0 else 2) : (if (n == 0) then s7 else none) = (s.bind rdR).map (·.2) ∧ ∀ rc c, s.bind rdR = some (rc, c) → R = rc := by
 rw [rdR_eq]
 cases h : s.bind rdAny with
 | none => rw [h] at hs; rw [hs]; exact ⟨by cases (n == 0) <;> rfl, fun rc c h => by cases h⟩
 | some q =>
  obtain ⟨rc, c⟩ := q
  have e := hv rc c h
  subst e
  rw [h] at hs
  rw [hs]
  cases ho : okRc R
  ·rw [ho] at hn
   have : n = 2 := by simpa using hn
   subst this
   exact ⟨by simp [ho], fun rc c h => by simp [ho] at h⟩
  ·rw [ho] at hn
   have : n = 0 := by simpa using hn
   subst this
   exact ⟨by simp [ho], fun rc c h => by simp [ho] at h; exact h.1⟩
theorem markR_any (B : Nat) {w W : World} {p g2 g : Nat} {s : Option (List Nat)} {t : ByteArray} {v : Int} (h : RR w p g2 g { zR with id := t, time := v, mark := true } s W) : ∃ (R : Rv) (ps : Ps), R.rc ps = ⟨lst t, v, true, 0, [], 0, 0, [], zeroD, [], []⟩ ∧ RR w p g2 g R s W ∧ R.pv.oneCell' = true ∧ PLF B W R.pv ps :=
 ⟨_, [], rfl, h, rfl, PLF.nil _ _⟩
set_option maxRecDepth 100000 in
set_option maxHeartbeats 1000000 in
theorem record_mark (w : World) (p : Nat) (s : Option (List Nat)) (h : Rd w p s) (hc : oneV (st1 (stT s)) = 1) : Calls Tryz.prog 101 #[ptr p] w (RecS w p s) := by
 have H := hid h
 have HC := hid hc
 have hp := h.lt
 clear h hc
 go_enter Tryz.func101, Tryz.ntmps101
 go_wp2_with (first
  | ((with_reducible refine wpList_allocR rfl rfl ?_); intro w1 g2 hz1 hb1 hg2; have HZ1 := hid hz1; have HB1 := hid hb1; have HG2 := hid hg2; have H1 := hid (H.out.below hb1); clear hz1 hb1 hg2 H)
  | (go_at_call 115; refine (text_any _ p s H1.out).mono ?_; rintro e w2 ⟨t, rfl, hr2, ho2, l2, f2⟩; have HR2 : Hid (Rd w2 p (stT s)) := hid hr2; have HO2 := hid ho2; have F2 := hid f2; clear hr2 ho2 f2)
  | (go_at_call 112; refine (number_any _ p _ HR2.out).mono ?_; rintro e w3 ⟨v, rfl, hr3, ho3, f3⟩; have HR3 : Hid (Rd w3 p (st1 (stT s))) := hid hr3; have HO3 := hid (HO2.out.trans ho3); have F3 := hid f3; clear hr3 ho3 f3 HR2 HO2)
  | ((with_reducible refine wpList_build_want 44 _ rfl ?_ ({ zR with id := t, time := v } : Rv).cs ?_ ?_); exact rfl; exact built_head t v)
  | ((with_reducible refine wpList_allocR rfl rfl ?_); intro w4 g hz4 hb4 hg4; have HZ4 := hid hz4; have HB4 := hid hb4; have HG4 := hid hg4; clear hz4 hb4 hg4)
  | ((with_reducible refine wpList_storeR rfl rfl _ _ rfl g ?_ (r := { zR with id := t, time := v }) ?_ zR_ok (headR_ok l2) rfl HZ4.out ?_); exact rfl; exact rfl; intro w5 h5 o5; have HRR := hid (RR.mk1 hp HZ1.out HB1.out HG2.out HR3.out HO3.out HB4.out HG4.out h5 (headR_ok l2) o5); clear h5 o5 HZ1 HB1 HG2 HR3 HO3 HB4 HG4 HZ4 H1)
  | (go_at_call 116; refine (one_any _ p _ HRR.out.rd).mono ?_; rintro e w6 ⟨rfl, hr6, ho6⟩; rw [HC.out, show u8 1 = Value.int .u8 1 from rfl]; have HR6 := hid (HRR.out.pp hr6 ho6); have c2 := HR6.out.rb.c2; have z2 := HR6.out.rb.free; have hr7 := HR6.out.set2 true; have d2 := hr7.rb.c2; obtain ⟨R, ps, hR, hr8, hone, hpl⟩ := markR_any (w6.heap.size) hr7; have HR7 := hid hr8; have HRE := hid hR; have HW : Hid (p < w.heap.size ∧ g2 < w6.heap.size ∧ w.heap.size ≤ w6.heap.size) := hid ⟨hp, HR6.out.zb.at_.lt, HR6.out.only.size⟩; have HPL := hid hpl; clear hr6 ho6 HRR HR6 hr7 hR hr8 hpl)
  | (go_at_call 117; (with_reducible refine (need_true _ p).mono ?_); rintro e w7 ⟨rfl, hw7⟩; have hw8 := hw7.symm; subst hw8; clear hw7)
  | ((with_reducible refine wpList_load_at 44 _ rfl ?_ g 0 ?_ R.cs (.struct (Tryz.prog.fieldsOf 44)) ?_ underRec rfl ?_ ?_); exact rfl; exact rfl; exact HR9.out.rb.whole; (rw [HR9.out.ok.size]; exact sizeR))
  | ((with_reducible refine wpList_load_at 44 _ rfl ?_ g 0 ?_ R.cs (.struct (Tryz.prog.fieldsOf 44)) ?_ underRec rfl ?_ ?_); exact rfl; exact rfl; exact HR7.out.rb.whole; (rw [HR7.out.ok.size]; exact sizeR))
  | (go_at_call 33; refine (check_any R HR7.out.ok ps _ HPL.out.1).mono ?_; rintro e w8 ⟨rfl, hb8⟩; generalize hn : (if okRc (Rv.rc R ps) = true then (0 : Int) else 2) = n; have HN := hid hn; have HR8 := hid (HR7.out.below hb8); replace HPL := hid (HPL.out.only (Only.of_below (S := fun _ => False) hb8) (fun _ h => h.elim)); clear hn hb8 HR7)
  | (go_at_call 117; refine (need_any _ p _ _ HR8.out.rd).mono ?_; rintro e w9 ⟨rfl, hr9, ho9⟩; have HR9 := hid (HR8.out.pp hr9 ho9); replace HPL := hid (HPL.out.only ho9 (fun i e => by have := HW.out; omega)); clear hr9 ho9 HR8)
  | ((with_reducible refine wpList_storeR rfl rfl _ _ rfl g2 ?_ (r := R) ?_ zR_ok HR9.out.ok ?_ HR9.out.zb ?_); exact rfl; exact rfl; exact hone; intro w10 h10 o10; have H10 := hid h10; have O10 := hid o10; replace HPL := hid (HPL.out.only o10 (fun i e => by have := HW.out; omega)); clear h10 o10))
 refine ret_rowR rfl g2 rfl rfl H10.out HR9.out.ok ?_
 obtain ⟨x, r, n1, r2, e1, e2, e3, e4⟩ := any_mark HC.out
 obtain ⟨k1, k2⟩ := fin_rec (s := s) (R := R.rc ps) (n := n) (fun rc c h => by rw [e4 rc c h, HRE.out, F2.out _ _ e1, F3.out _ _ e2]) e3 HN.out.symm
 exact ⟨R, ps, rfl, HR9.out.ok, PLF.base HPL.out HW.out.2.2, k1 ▸ (HR9.out.rd.only O10.out (fun i e => by have := HR9.out.h1; have := HR9.out.h2; omega)), HR9.out.only.then O10.out (fun i hi e => by have := HR9.out.h1; have := HR9.out.h2; omega), k2⟩
set_option maxRecDepth 100000 in
set_option maxHeartbeats 1000000 in
theorem record_vers (w : World) (p : Nat) (s : Option (List Nat)) (h : Rd w p s) (hc : oneV (st1 (stT s)) = 0) : Calls Tryz.prog 101 #[ptr p] w (RecS w p s) := by
 have H := hid h
 have HC := hid hc
 have hp := h.lt
 clear h hc
 go_enter Tryz.func101, Tryz.ntmps101
 go_wp2_with (first
  | ((with_reducible refine wpList_allocR rfl rfl ?_); intro w1 g2 hz1 hb1 hg2; have HZ1 := hid hz1; have HB1 := hid hb1; have HG2 := hid hg2; have H1 := hid (H.out.below hb1); clear hz1 hb1 hg2 H)
  | (go_at_call 115; refine (text_any _ p s H1.out).mono ?_; rintro e w2 ⟨t, rfl, hr2, ho2, l2, f2⟩; have HR2 : Hid (Rd w2 p (stT s)) := hid hr2; have HO2 := hid ho2; have F2 := hid f2; clear hr2 ho2 f2)
  | (go_at_call 112; refine (number_any _ p _ HR2.out).mono ?_; rintro e w3 ⟨v, rfl, hr3, ho3, f3⟩; have HR3 : Hid (Rd w3 p (st1 (stT s))) := hid hr3; have HO3 := hid (HO2.out.trans ho3); have F3 := hid f3; clear hr3 ho3 f3 HR2 HO2)
  | ((with_reducible refine wpList_build_want 44 _ rfl ?_ ({ zR with id := t, time := v } : Rv).cs ?_ ?_); exact rfl; exact built_head t v)
  | ((with_reducible refine wpList_allocR rfl rfl ?_); intro w4 g hz4 hb4 hg4; have HZ4 := hid hz4; have HB4 := hid hb4; have HG4 := hid hg4; clear hz4 hb4 hg4)
  | ((with_reducible refine wpList_storeR rfl rfl _ _ rfl g ?_ (r := { zR with id := t, time := v }) ?_ zR_ok (headR_ok l2) rfl HZ4.out ?_); exact rfl; exact rfl; intro w5 h5 o5; have HRR := hid (RR.mk1 hp HZ1.out HB1.out HG2.out HR3.out HO3.out HB4.out HG4.out h5 (headR_ok l2) o5); clear h5 o5 HZ1 HB1 HG2 HR3 HO3 HB4 HG4 HZ4 H1)
  | (go_at_call 116; refine (one_any _ p _ HRR.out.rd).mono ?_; rintro e w6 ⟨rfl, hr6, ho6⟩; rw [HC.out, show u8 0 = Value.int .u8 0 from rfl]; have HR6 := hid (HRR.out.pp hr6 ho6); clear hr6 ho6 HRR; have c2 := HR6.out.rb.c2; have z2 := HR6.out.rb.free; have hr7 := HR6.out.set2 false; have d2 := hr7.rb.c2; have HRV := hid hr7; have HW := hid (show p < w.heap.size ∧ _ ∧ _ from ⟨hp, HRV.out.zb.at_.lt, HRV.out.only.size⟩); clear hr7 HR6)
  | (go_at_call 117; (with_reducible refine (need_true _ p).mono ?_); rintro e w7 ⟨rfl, hw7⟩; have hw8 := hw7.symm; subst hw8; clear hw7)
  | (go_at_call 118; refine (version_any _ p g _ _ HRV.out.v2).mono ?_; rintro e w7 ⟨R, ps, rfl, q1, q2, q3, k7, hpl, hval⟩; have hone : R.pv.oneCell' = true := (by obtain ⟨_, _, _, e⟩ := hpl.form; rw [e]; rfl); have HR7 := hid (HRV.out.ver k7); have HPL := hid hpl; have HVAL := hid hval; clear q1 q2 q3 k7 hpl hval HRV c2 z2 d2)
  | ((with_reducible refine wpList_load_at 44 _ rfl ?_ g 0 ?_ R.cs (.struct (Tryz.prog.fieldsOf 44)) ?_ underRec rfl ?_ ?_); exact rfl; exact rfl; exact HR9.out.rb.whole; (rw [HR9.out.ok.size]; exact sizeR))
  | ((with_reducible refine wpList_load_at 44 _ rfl ?_ g 0 ?_ R.cs (.struct (Tryz.prog.fieldsOf 44)) ?_ underRec rfl ?_ ?_); exact rfl; exact rfl; exact HR7.out.rb.whole; (rw [HR7.out.ok.size]; exact sizeR))
  | (go_at_call 33; refine (check_any R HR7.out.ok ps _ HPL.out.1).mono ?_; rintro e w8 ⟨rfl, hb8⟩; generalize hn : (if okRc (Rv.rc R ps) = true then (0 : Int) else 2) = n; have HN := hid hn; have HR8 := hid (HR7.out.below hb8); replace HPL := hid (HPL.out.only (Only.of_below (S := fun _ => False) hb8) (fun _ h => h.elim)); clear hn hb8 HR7)
  | (go_at_call 117; refine (need_any _ p _ _ HR8.out.rd).mono ?_; rintro e w9 ⟨rfl, hr9, ho9⟩; have HR9 := hid (HR8.out.pp hr9 ho9); replace HPL := hid (HPL.out.only ho9 (fun i e => by have := HW.out; omega)); clear hr9 ho9 HR8)
  | ((with_reducible refine wpList_storeR rfl rfl _ _ rfl g2 ?_ (r := R) ?_ zR_ok HR9.out.ok ?_ HR9.out.zb ?_); exact rfl; exact rfl; exact hone; intro w10 h10 o10; have H10 := hid h10; have O10 := hid o10; replace HPL := hid (HPL.out.only o10 (fun i e => by have := HW.out; omega)); clear h10 o10))
 refine ret_rowR rfl g2 rfl rfl H10.out HR9.out.ok ?_
 obtain ⟨a1, a2⟩ := any_vers HC.out
 obtain ⟨k1, k2⟩ := fin_rec (s := s) (R := R.rc ps) (n := n) (fun rc c h => by
  obtain ⟨x, r, n1, r2, e1, e2, e3⟩ := a2 rc c h
  have b := HVAL.out n1 rc c (by show (oneR (st1 (stT s))).bind (rdD (lst t) n1) = _; rw [F2.out _ _ e1]; exact e3)
  obtain ⟨_, _, _, _, _, _, _, _, _, _, _, _, _, _, _, _, _, rfl⟩ := rdD_val e3
  rw [b]
  simp only [F3.out _ _ e2]) (s7 := stT (stP ((stT (st1 (st1 (stT (st1 (oneR (st1 (stT s)))))))).bind tk32))) (by rw [← a1]; exact (rdD_end _ _ _).symm) HN.out.symm
 exact ⟨R, ps, rfl, HR9.out.ok, PLF.base HPL.out HW.out.2.2, k1 ▸ (HR9.out.rd.only O10.out (fun i e => by have := HR9.out.h1; have := HR9.out.h2; omega)), HR9.out.only.then O10.out (fun i hi e => by have := HR9.out.h1; have := HR9.out.h2; omega), k2⟩
set_option maxRecDepth 100000 in
set_option maxHeartbeats 1000000 in
theorem record_bad (w : World) (p : Nat) (s : Option (List Nat)) (h : Rd w p s) (c : Nat) (hc : oneV (st1 (stT s)) = c) (hc2 : 1 < c) : Calls Tryz.prog 101 #[ptr p] w (RecS w p s) := by
 have H := hid h
 have HC := hid hc
 have hp := h.lt
 have hc0 : ((c : Int) == 0) = false := by simp; omega
 have hc1 : ((c : Int) == 1) = false := by simp; omega
 clear h hc
 go_enter Tryz.func101, Tryz.ntmps101
 go_wp2_with (first
  | ((with_reducible refine wpList_allocR rfl rfl ?_); intro w1 g2 hz1 hb1 hg2; have HZ1 := hid hz1; have HB1 := hid hb1; have HG2 := hid hg2; have H1 := hid (H.out.below hb1); clear hz1 hb1 hg2 H)
  | (go_at_call 115; refine (text_any _ p s H1.out).mono ?_; rintro e w2 ⟨t, rfl, hr2, ho2, l2, f2⟩; have HR2 : Hid (Rd w2 p (stT s)) := hid hr2; have HO2 := hid ho2; have F2 := hid f2; clear hr2 ho2 f2)
  | (go_at_call 112; refine (number_any _ p _ HR2.out).mono ?_; rintro e w3 ⟨v, rfl, hr3, ho3, f3⟩; have HR3 : Hid (Rd w3 p (st1 (stT s))) := hid hr3; have HO3 := hid (HO2.out.trans ho3); have F3 := hid f3; clear hr3 ho3 f3 HR2 HO2)
  | ((with_reducible refine wpList_build_want 44 _ rfl ?_ ({ zR with id := t, time := v } : Rv).cs ?_ ?_); exact rfl; exact built_head t v)
  | ((with_reducible refine wpList_allocR rfl rfl ?_); intro w4 g hz4 hb4 hg4; have HZ4 := hid hz4; have HB4 := hid hb4; have HG4 := hid hg4; clear hz4 hb4 hg4)
  | ((with_reducible refine wpList_storeR rfl rfl _ _ rfl g ?_ (r := { zR with id := t, time := v }) ?_ zR_ok (headR_ok l2) rfl HZ4.out ?_); exact rfl; exact rfl; intro w5 h5 o5; have HRR := hid (RR.mk1 hp HZ1.out HB1.out HG2.out HR3.out HO3.out HB4.out HG4.out h5 (headR_ok l2) o5); clear h5 o5 HZ1 HB1 HG2 HR3 HO3 HB4 HG4 HZ4 H1)
  | (go_at_call 116; refine (one_any _ p _ HRR.out.rd).mono ?_; rintro e w6 ⟨rfl, hr6, ho6⟩; rw [HC.out, show u8 c = Value.int .u8 (c : Int) from rfl]; have HR6 := hid (HRR.out.pp hr6 ho6); clear hr6 ho6 HRR)
  | (go_at_call 117; (with_reducible refine (need_any _ p _ false HR6.out.rd).mono ?_); rintro e w61 ⟨rfl, hr61, ho61⟩; replace HR6 := hid (HR6.out.pp hr61 ho61); clear hr61 ho61; have c2 := HR6.out.rb.c2; have z2 := HR6.out.rb.free; have hr7 := HR6.out.set2 false; have d2 := hr7.rb.c2; have HRV := hid hr7; have HW := hid (show p < w.heap.size ∧ _ ∧ _ from ⟨hp, HRV.out.zb.at_.lt, HRV.out.only.size⟩); clear hr7 HR6)
  | (go_at_call 118; refine (version_any _ p g _ _ HRV.out.v2).mono ?_; rintro e w7 ⟨R, ps, rfl, q1, q2, q3, k7, hpl, hval⟩; have hone : R.pv.oneCell' = true := (by obtain ⟨_, _, _, e⟩ := hpl.form; rw [e]; rfl); have HR7 := hid (HRV.out.ver k7); have HPL := hid hpl; have HVAL := hid hval; clear q1 q2 q3 k7 hpl hval HRV c2 z2 d2)
  | ((with_reducible refine wpList_load_at 44 _ rfl ?_ g 0 ?_ R.cs (.struct (Tryz.prog.fieldsOf 44)) ?_ underRec rfl ?_ ?_); exact rfl; exact rfl; exact HR9.out.rb.whole; (rw [HR9.out.ok.size]; exact sizeR))
  | ((with_reducible refine wpList_load_at 44 _ rfl ?_ g 0 ?_ R.cs (.struct (Tryz.prog.fieldsOf 44)) ?_ underRec rfl ?_ ?_); exact rfl; exact rfl; exact HR7.out.rb.whole; (rw [HR7.out.ok.size]; exact sizeR))
  | (go_at_call 33; refine (check_any R HR7.out.ok ps _ HPL.out.1).mono ?_; rintro e w8 ⟨rfl, hb8⟩; generalize hn : (if okRc (Rv.rc R ps) = true then (0 : Int) else 2) = n; have HN := hid hn; have HR8 := hid (HR7.out.below hb8); replace HPL := hid (HPL.out.only (Only.of_below (S := fun _ => False) hb8) (fun _ h => h.elim)); clear hn hb8 HR7)
  | (go_at_call 117; refine (need_any _ p _ _ HR8.out.rd).mono ?_; rintro e w9 ⟨rfl, hr9, ho9⟩; have HR9 := hid (HR8.out.pp hr9 ho9); replace HPL := hid (HPL.out.only ho9 (fun i e => by have := HW.out; omega)); clear hr9 ho9 HR8)
  | ((with_reducible refine wpList_storeR rfl rfl _ _ rfl g2 ?_ (r := R) ?_ zR_ok HR9.out.ok ?_ HR9.out.zb ?_); exact rfl; exact rfl; exact hone; intro w10 h10 o10; have H10 := hid h10; have O10 := hid o10; replace HPL := hid (HPL.out.only o10 (fun i e => by have := HW.out; omega)); clear h10 o10))
 refine ret_rowR rfl g2 rfl rfl H10.out HR9.out.ok ?_
 have a1 := any_none HC.out hc2
 obtain ⟨k1, k2⟩ := fin_rec (s := s) (R := R.rc ps) (n := n) (fun rc c h => by rw [a1] at h; cases h) (by rw [a1]) HN.out.symm
 exact ⟨R, ps, rfl, HR9.out.ok, PLF.base HPL.out HW.out.2.2, k1 ▸ (HR9.out.rd.only O10.out (fun i e => by have := HR9.out.h1; have := HR9.out.h2; omega)), HR9.out.only.then O10.out (fun i hi e => by have := HR9.out.h1; have := HR9.out.h2; omega), k2⟩
theorem record_any (w : World) (p : Nat) (s : Option (List Nat)) (h : Rd w p s) : Calls Tryz.prog 101 #[ptr p] w (RecS w p s) := by
 by_cases h0 : oneV (st1 (stT s)) = 0
 ·exact record_vers w p s h h0
 by_cases h1 : oneV (st1 (stT s)) = 1
 ·exact record_mark w p s h h1
 ·exact record_bad w p s h _ rfl (by omega)
end Go.Proofs.YtdohmokhfajjpaaGreatDoor

/- Contract of told of package record, for records. -/
namespace Go.Proofs.YtdohmokhfajjpaaGreatDoor
open Go Go.RowKit

theorem step_storeR {w : World} {ops : Array Oper} {o : Oper} {a : Act} {K : Act → World → Prop} {Q : Exit → Act → World → Prop} {E : Prop} (hgd : o.guard = none) (hdst : o.dst = none) (x y : Operand) (ho : o.op = .store 44 x y) (g : Nat) (hx : a.eval x = ptr g) {r0 r : Rv} (hy : a.eval y = .agg r.cs) (h0 : r0.ok) (hr : r.ok) (hpv : r.pv.oneCell' = true) (hb : RBox w g r0)
  (h : ∀ w1, RBox w1 g r → Only (fun b => b = g) w w1 → K a w1) : if Region.wanted o (yielded ops a.tmps) = true then Oper.wp Tryz.prog o a w K Q else E := by
 have hw : Region.wanted o (yielded ops a.tmps) = true := by simp [Region.wanted, hgd]
 rw [if_pos hw]
 obtain ⟨e1, e2⟩ := run_storeR h0 hr hpv hb
 unfold Oper.wp execOp
 simp only [ho, hx, hy, ptr, Sem.run_bind, e1, Result.andThen_ok, Sem.run_pure]
 show K (a.put o.dst undef) _
 rw [hdst]
 exact h _ e2 (only_setRow _ _ _ rfl)
theorem ret_row3 {fn : Func} {q u t : Tmp} (h : fn.results = #[.cell q 44, .tmp u, .tmp t]) {R : Ending → World → Prop} {a : Act} {w : World} (g : Nat) {r : Rv} {v x : Value}
  (hd0 : a.defers = []) (hp : a.tmps.getD q undef = .pointer (some ⟨g, 0, none⟩)) (hv : a.tmps.getD u undef = v) (hx : a.tmps.getD t undef = x) (hb : RBox w g r) (hr : r.ok) (hR : R (.returned (.tuple #[.agg r.cs, v, x])) w) : bodyPost Tryz.prog fn R .ret a w := by
 refine ⟨hd0, .tuple #[.agg r.cs, v, x], ?_, hR⟩
 have hl := run_loadVar_row (P := Tryz.prog) w g 44 44 r.cs (0, 0) _ hb.at_ underRec rfl (by rw [hr.size]; exact sizeR)
 simp only [results, h]
 simp only [Array.getD_eq_getD_getElem?] at hp hv hx
 simp [Result.andThen, hp, hv, hx, asAddr, hl]
set_option maxRecDepth 100000 in
set_option maxHeartbeats 300000 in
theorem toldR_bad (w : World) (p : Nat) (r : Rv) (hr : r.ok) (h : Rd w p none) : Calls Tryz.prog 100 #[ptr p, .agg r.cs] w fun e w' => e = .returned (.tuple #[.agg zR.cs, .slice none 0 0, i64 4]) ∧ Below w.heap.size w w' := by
 have hp := h.lt
 obtain ⟨po, L, h1, hrest⟩ := h
 clear hrest
 have H1 := hid h1
 obtain ⟨Z, hZ⟩ : ∃ Z, zR = Z := ⟨_, rfl⟩
 have zok : Z.ok := hZ ▸ zR_ok
 have zone : Z.pv.oneCell' = true := hZ ▸ rfl
 have HZZ := hid hZ
 have HR := hid hr
 clear h1 hr hZ
 go_enter Tryz.func100, Tryz.ntmps100
 go_wp2_with (first
  | ((with_reducible refine wpList_boxR rfl _ rfl r.cs ?_ ?_); exact rfl; intro w1 g1 hc1 hb1 hg1; have HB1 := hid hb1; clear hc1 hb1)
  | ((with_reducible refine wpList_allocR rfl rfl ?_); intro w2 g2 hz2 hb2 hg2; rw [HZZ.out] at hz2; have HZ2 := hid hz2; have HB2 := hid (below_on HB1.out hb2); have HG2 := hid (show w.heap.size ≤ g2 by have := HB1.out.size; omega); clear hz2 hb2 hg2 HB1; have c1 := (H1.out.below HB2.out).cell 1; simp at c1)
  | ((with_reducible refine wpList_allocR rfl rfl ?_); intro w3 g3 hz3 hb3 hg3; rw [HZZ.out] at hz3; have HZ3 := hid hz3; have HG3 := hid (show g2 < g3 by have := HZ2.out.at_.lt; omega); have HB3 := hid (below_on HB2.out hb3); have HZ4 := hid (HZ2.out.below zok hb3); clear hz3 hb3 hg3 HZ2 HB2 c1))
 have HSF : Hid (∀ W, Only (fun b => b = g2) w3 W → (Instr.loadAt 44 (.pointer (some ⟨g3, 0, none⟩))).run Tryz.prog W = .ok (.agg Z.cs) W ∧ W.cell? ⟨p, 1, none⟩ = some (i64 4)) := fun W ho =>
  ⟨run_loadR zok (HZ3.out.only zok ho (by have := HG3.out; omega)), by
   have := ((H1.out.below HB3.out).keep (ho.block p (by have := HB3.out.size; omega) (by have := HG2.out; omega))).cell 1
   simpa using this⟩
 refine wp_region_held_drew (S := fun W => (Instr.loadAt 44 (.pointer (some ⟨g3, 0, none⟩))).run Tryz.prog W = .ok (.agg Z.cs) W ∧ W.cell? ⟨p, 1, none⟩ = some (i64 4)) (by kernel_rfl) (HSF.out _ (Only.of_below (below_drew _))) (fun hHeld => ?_)
 refine wpAnyH_take (i := 0) (oi := ⟨some 13, .load 44 (.tmp 7), 44, _, _, none⟩) (v := .agg Z.cs) rfl (by kernel_rfl) (by kernel_rfl) (by kernel_rfl) (fun _ _ _ h => h) (Or.inl ⟨by rfl, fun W hW => exec_load rfl rfl hW.1⟩) hHeld ?_
 refine wpAnyH_take (i := 1) (oi := ⟨some 14, .move (.tmp 0), _, _, _, none⟩) (v := ptr p) rfl (by kernel_rfl) (by kernel_rfl) (by kernel_rfl) (fun _ _ _ h => h) (Or.inl ⟨by rfl, by intro W hW; go_simp⟩) hHeld ?_
 refine wpAnyH_take (i := 2) (oi := ⟨some 15, .nilCheck (.tmp 14), _, _, _, none⟩) (v := ptr p) rfl (by kernel_rfl) (by kernel_rfl) (by kernel_rfl) (fun _ _ _ h => h) (Or.inl ⟨by rfl, by intro W hW; go_simp⟩) hHeld ?_
 refine wpAnyH_take (i := 3) (oi := ⟨some 16, .fieldAddr 180 (.tmp 15) 1, _, _, _, none⟩) (v := .pointer (some ⟨p, 1, none⟩)) rfl (by kernel_rfl) (by kernel_rfl) (by kernel_rfl) (fun _ _ _ h => h) (Or.inl ⟨by rfl, by intro W hW; go_simp⟩) hHeld ?_
 refine wpAnyH_take (i := 4) (oi := ⟨some 17, .load 26 (.tmp 16), 26, _, _, none⟩) (v := i64 4) rfl (by kernel_rfl) (by kernel_rfl) (by kernel_rfl) (fun _ _ _ h => h) (Or.inl ⟨by rfl, by intro W hW; have c1 := hW.2; go_simp⟩) hHeld ?_
 refine wpAnyH_ready (rs := [5]) (by kernel_rfl) (by simp) ?_
 refine AllReadyH.cons (o := ⟨none, .store 44 (.tmp 4) (.tmp 13), _, _, _, none⟩) rfl (fun K hK => ?_) AllReadyH.nil
 with_reducible refine step_storeR ?_ ?_ (.tmp 4) (.tmp 13) ?_ g2 ?_ (r := Z) ?_ zok zok zone (HZ4.out.below zok (below_drew _)) ?_
 ·exact rfl
 ·exact rfl
 ·exact rfl
 ·kernel_rfl
 ·kernel_rfl
 intro w5 h5 o5
 have H5 := hid h5
 have O5 := hid ((Only.of_below (below_drew w3)).trans o5)
 clear h5 o5
 refine hK.out _ _ (HSF.out _ O5.out) (fun hHeld => ?_)
 clear hK K
 refine wpAnyH_take (i := 6) (oi := ⟨some 5, .assign (.const (.slice none 0 0)), 22, _, _, none⟩) (v := .slice none 0 0) rfl (by kernel_rfl) (by kernel_rfl) (by kernel_rfl) (fun _ _ _ h => h) (Or.inl ⟨by rfl, by intro W hW; go_simp⟩) hHeld ?_
 refine wpAnyH_take (i := 7) (oi := ⟨some 6, .assign (.tmp 17), 26, _, _, none⟩) (v := i64 4) rfl (by kernel_rfl) (by kernel_rfl) (by kernel_rfl) (fun _ _ _ h => h) (Or.inl ⟨by rfl, by intro W hW; go_simp⟩) hHeld ?_
 refine wpAnyH_done (by kernel_rfl) ?_ _
 simp only [Act.put, List.setIfInBounds_toArray, List.set_cons_zero, List.set_cons_succ]
 go_wp2
 refine ret_row3 rfl g2 (v := .slice none 0 0) (x := i64 4) rfl rfl rfl rfl H5.out zok ⟨by rw [HZZ.out], ?_⟩
 exact below_tr HB3.out (O5.out.below HB3.out.size (fun i e => by have := HG2.out; omega))
def TolR (w : World) (L : List Nat) (r : Rv) (e : Ending) (w' : World) : Prop := ∃ out, e = .returned (.tuple #[.agg r.cs, out, i64 0]) ∧ OutB w.heap.size w' out L ∧ Below w.heap.size w w'
set_option maxRecDepth 100000 in
set_option maxHeartbeats 300000 in
theorem toldR_ok (w : World) (p : Nat) (r : Rv) (hr : r.ok) (hone : r.pv.oneCell' = true) (M : List Nat) (h : Rd w p (some M)) : Calls Tryz.prog 100 #[ptr p, .agg r.cs] w (TolR w M r) := by
 have hp := h.lt
 obtain ⟨po, L, h1, h2, h3, h4, h5, h6, h7⟩ := h
 have e : M = L := by rcases h5 with h | h <;> cases h; rfl
 subst e
 have H1 := hid h1
 have H2 := hid h2
 have H4 := hid h4
 obtain ⟨Z, hZ⟩ : ∃ Z, zR = Z := ⟨_, rfl⟩
 have zok : Z.ok := hZ ▸ zR_ok
 have HZZ := hid hZ
 have HR := hid hr
 clear h1 hr hZ h2 h3 h4 h5 h7
 go_enter Tryz.func100, Tryz.ntmps100
 go_wp2_with (first
  | ((with_reducible refine wpList_boxR rfl _ rfl r.cs ?_ ?_); exact rfl; intro w1 g1 hc1 hb1 hg1; have HA1 := hid (RBox.mk' HR.out hc1); have HB1 := hid hb1; clear hc1 hb1)
  | ((with_reducible refine wpList_allocR rfl rfl ?_); intro w2 g2 hz2 hb2 hg2; rw [HZZ.out] at hz2; have HZ2 := hid hz2; have HA2 := hid (HA1.out.below HR.out hb2); have HB2 := hid (below_on HB1.out hb2); have HG2 := hid (show w.heap.size ≤ g2 ∧ g1 < g2 by have := HB1.out.size; have := HA1.out.at_.lt; omega); clear hz2 hb2 hg2 HB1 HA1; have c1 := (H1.out.below HB2.out).cell 1; simp at c1))
 clear c1
 have HSF : Hid (∀ W, Only (fun b => b = g2) w2 W → (Instr.loadAt 44 (.pointer (some ⟨g1, 0, none⟩))).run Tryz.prog W = .ok (.agg r.cs) W ∧ W.cell? ⟨p, 0, none⟩ = some (.slice po M.length M.length)) := fun W ho =>
  ⟨run_loadR HR.out (HA2.out.only HR.out ho (by have := HG2.out; omega)), by
   have := ((H1.out.below HB2.out).keep (ho.block p (by have := HB2.out.size; omega) (by have := HG2.out; omega))).cell 0
   simpa using this⟩
 refine wp_region_held_drew (S := fun W => (Instr.loadAt 44 (.pointer (some ⟨g1, 0, none⟩))).run Tryz.prog W = .ok (.agg r.cs) W ∧ W.cell? ⟨p, 0, none⟩ = some (.slice po M.length M.length)) (by kernel_rfl) (HSF.out _ (Only.of_below (below_drew _))) (fun hHeld => ?_)
 refine wpAnyH_take (i := 0) (oi := ⟨some 18, .load 44 (.tmp 3), 44, _, _, none⟩) (v := .agg r.cs) rfl (by kernel_rfl) (by kernel_rfl) (by kernel_rfl) (fun _ _ _ h => h) (Or.inl ⟨by rfl, fun W hW => exec_load rfl rfl hW.1⟩) hHeld ?_
 refine wpAnyH_take (i := 1) (oi := ⟨some 19, .move (.tmp 0), _, _, _, none⟩) (v := ptr p) rfl (by kernel_rfl) (by kernel_rfl) (by kernel_rfl) (fun _ _ _ h => h) (Or.inl ⟨by rfl, by intro W hW; go_simp⟩) hHeld ?_
 refine wpAnyH_take (i := 2) (oi := ⟨some 20, .nilCheck (.tmp 19), _, _, _, none⟩) (v := ptr p) rfl (by kernel_rfl) (by kernel_rfl) (by kernel_rfl) (fun _ _ _ h => h) (Or.inl ⟨by rfl, by intro W hW; go_simp⟩) hHeld ?_
 refine wpAnyH_take (i := 3) (oi := ⟨some 21, .fieldAddr 180 (.tmp 20) 0, _, _, _, none⟩) (v := .pointer (some ⟨p, 0, none⟩)) rfl (by kernel_rfl) (by kernel_rfl) (by kernel_rfl) (fun _ _ _ h => h) (Or.inl ⟨by rfl, by intro W hW; go_simp⟩) hHeld ?_
 refine wpAnyH_take (i := 4) (oi := ⟨some 22, .load 22 (.tmp 21), 22, _, _, none⟩) (v := .slice po M.length M.length) rfl (by kernel_rfl) (by kernel_rfl) (by kernel_rfl) (fun _ _ _ h => h) (Or.inl ⟨by rfl, by intro W hW; have c1 := hW.2; go_simp⟩) hHeld ?_
 refine wpAnyH_ready (rs := [5]) (by kernel_rfl) (by simp) ?_
 refine AllReadyH.cons rfl (fun K hK => ?_) AllReadyH.nil
 go_simp
 refine (fresh_any po M.length M _ (H2.out.below (below_on HB2.out (below_drew _))) (fun e => by rw [H4.out e]; rfl) (by omega)).mono ?_
 rintro e w3 ⟨v3, rfl, ho3, hb3⟩
 have HO3 := hid ho3
 have HB3 := hid (below_on (below_drew w2) hb3)
 clear ho3 hb3
 go_wp2_with fail
 refine hK.out _ _ (HSF.out _ (Only.of_below HB3.out)) (fun hHeld => ?_)
 clear hK K
 refine wpAnyH_ready (rs := [6]) (by kernel_rfl) (by simp) ?_
 refine AllReadyH.cons (o := ⟨none, .store 44 (.tmp 4) (.tmp 18), _, _, _, none⟩) rfl (fun K hK => ?_) AllReadyH.nil
 with_reducible refine step_storeR ?_ ?_ (.tmp 4) (.tmp 18) ?_ g2 ?_ (r := r) ?_ zok HR.out hone (HZ2.out.below zok HB3.out) ?_
 ·exact rfl
 ·exact rfl
 ·exact rfl
 ·kernel_rfl
 ·kernel_rfl
 intro w5 h5 o5
 have H5 := hid h5
 have O5 := hid ((Only.of_below HB3.out).trans o5)
 have HO5 := hid (HO3.out.only o5 (fun i e => by have h1 := (HO3.out.blk i e).1; have h2 : w2.heap.size ≤ i := h1; have := HZ2.out.at_.lt; omega))
 clear h5 o5
 refine hK.out _ _ (HSF.out _ O5.out) (fun hHeld => ?_)
 clear hK K
 refine wpAnyH_take (i := 7) (oi := ⟨some 5, .assign (.tmp 23), 22, _, _, none⟩) (v := v3) rfl (by kernel_rfl) (by kernel_rfl) (by kernel_rfl) (fun _ _ _ h => h) (Or.inl ⟨by rfl, by intro W hW; go_simp⟩) hHeld ?_
 refine wpAnyH_take (i := 8) (oi := ⟨some 6, .assign (.const (.int .i64 0)), 26, _, _, none⟩) (v := i64 0) rfl (by kernel_rfl) (by kernel_rfl) (by kernel_rfl) (fun _ _ _ h => h) (Or.inl ⟨by rfl, by intro W hW; go_simp⟩) hHeld ?_
 refine wpAnyH_done (by kernel_rfl) ?_ _
 simp only [Act.put, List.setIfInBounds_toArray, List.set_cons_zero, List.set_cons_succ]
 go_wp2
 refine ret_row3 rfl g2 (v := v3) (x := i64 0) rfl rfl rfl rfl H5.out HR.out ⟨v3, rfl, HO5.out.base HB2.out.size, ?_⟩
 exact below_tr HB2.out (O5.out.below HB2.out.size (fun i e => by have := HG2.out; omega))
end Go.Proofs.YtdohmokhfajjpaaGreatDoor

/- Contract of Read of package record. -/
namespace Go.Proofs.YtdohmokhfajjpaaGreatDoor
open Go Go.RowKit

def ReadOk (w : World) (rc : Rc) (L : List Nat) (e : Ending) (w' : World) : Prop := ∃ (r : Rv) (ps : Ps) (out : Value), e = .returned (.tuple #[.agg r.cs, out, i64 0]) ∧ r.ok ∧ r.rc ps = rc ∧ PLF w.heap.size w' r.pv ps ∧ OutB w.heap.size w' out L ∧ Below w.heap.size w w'
set_option maxRecDepth 100000 in
set_option maxHeartbeats 400000 in
theorem read_bad (po : Option Addr) (c : Nat) (bs : List Nat) (w : World) (h : BL w po bs) (hc : bs.length ≤ c) (hn : bs.length ≤ 100000) (h8 : ∀ x ∈ bs, x < 256) (hq : rdR bs = none) :
  Calls Tryz.prog 87 #[.slice po bs.length c] w fun e w' => e = .returned (.tuple #[.agg zR.cs, .slice none 0 0, i64 4]) ∧ Below w.heap.size w w' := by
 have hro := fun w1 (hb : Below w.heap.size w w1) => readerOf_any po c bs w1 (h.below hb) hc hn h8
 have HRO := hid hro
 have HQ : Hid ((some bs).bind rdR = none) := hid hq
 clear h h8 hq hro
 go_enter Tryz.func87, Tryz.ntmps87
 go_wp2_with (first
  | ((with_reducible refine wpList_allocR rfl rfl ?_); intro w1 g1 hz1 hb1 hg1; have HZ1 := hid hz1; have HB1 := hid hb1; clear hz1 hb1)
  | (go_at_call 99; refine (HRO.out _ HB1.out).mono ?_; rintro e w2 ⟨rfl, hr2, hb2⟩; have HZ2 := hid (And.intro HZ1.out.at_.lt (HZ1.out.below zR_ok hb2)); have HB2 := hid (below_on HB1.out hb2); have HR2 := hid hr2; clear hr2 hb2 HZ1)
  | (go_at_call 101; refine (record_any _ _ _ HR2.out).mono ?_; rintro e w3 ⟨r, ps, rfl, hok, hpl, hr3, ho3, hval⟩; have HB3 := hid (below_tr HB2.out (ho3.below HB2.out.size (fun i e => by have := HB1.out.size; omega))); have HZ3 := hid (HZ2.out.2.only zR_ok ho3 (by have := HZ2.out.1; omega)); have HK := hid hok; rw [HQ.out] at hr3; have HR3 := hid hr3; clear hr3 ho3 hpl hok hval HR2)
  | (go_at_call 100; refine (toldR_bad _ _ r HK.out HR3.out).mono ?_; rintro e w4 ⟨rfl, hb4⟩; have HZ4 := hid (HZ3.out.below zR_ok hb4); have HB4 := hid (below_on HB3.out hb4); clear hb4)
  | ((with_reducible refine wpList_storeR rfl rfl _ _ rfl g1 ?_ (r := zR) ?_ zR_ok zR_ok rfl HZ4.out ?_); exact rfl; exact rfl; intro w5 h5 o5; have H5 := hid h5; have O5 := hid o5; clear h5 o5))
 refine ret_row3 rfl g1 (v := .slice none 0 0) (x := i64 4) rfl rfl rfl rfl H5.out zR_ok ⟨rfl, ?_⟩
 exact below_tr HB4.out (O5.out.below HB4.out.size (fun i e => by omega))
set_option maxRecDepth 100000 in
set_option maxHeartbeats 400000 in
theorem read_ok (po : Option Addr) (c : Nat) (bs : List Nat) (w : World) (h : BL w po bs) (hc : bs.length ≤ c) (hn : bs.length ≤ 100000) (h8 : ∀ x ∈ bs, x < 256) {rc : Rc} {L : List Nat} (hq : rdR bs = some (rc, L)) :
  Calls Tryz.prog 87 #[.slice po bs.length c] w (ReadOk w rc L) := by
 have hro := fun w1 (hb : Below w.heap.size w w1) => readerOf_any po c bs w1 (h.below hb) hc hn h8
 have HRO := hid hro
 have HQ : Hid ((some bs).bind rdR = some (rc, L)) := hid hq
 clear h h8 hq hro
 go_enter Tryz.func87, Tryz.ntmps87
 go_wp2_with (first
  | ((with_reducible refine wpList_allocR rfl rfl ?_); intro w1 g1 hz1 hb1 hg1; have HZ1 := hid hz1; have HB1 := hid hb1; clear hz1 hb1)
  | (go_at_call 99; refine (HRO.out _ HB1.out).mono ?_; rintro e w2 ⟨rfl, hr2, hb2⟩; have HZ2 := hid (And.intro HZ1.out.at_.lt (HZ1.out.below zR_ok hb2)); have HB2 := hid (below_on HB1.out hb2); have HR2 := hid hr2; clear hr2 hb2 HZ1)
  | (go_at_call 101; refine (record_any _ _ _ HR2.out).mono ?_; rintro e w3 ⟨r, ps, rfl, hok, hpl, hr3, ho3, hval⟩; have HB3 := hid (below_tr HB2.out (ho3.below HB2.out.size (fun i e => by have := HB1.out.size; omega))); have HZ3 := hid (HZ2.out.2.only zR_ok ho3 (by have := HZ2.out.1; omega)); have HK := hid hok; rw [HQ.out] at hr3; have HR3 := hid hr3; have HVAL := hid (hval _ _ HQ.out); have hone : r.pv.oneCell' = true := (by obtain ⟨_, _, _, e⟩ := hpl.form; rw [e]; rfl); have HPL := hid hpl; clear hr3 ho3 hpl hok hval HR2)
  | (go_at_call 100; refine (toldR_ok _ _ r HK.out hone L HR3.out).mono ?_; rintro e w4 ⟨out, rfl, hout, hb4⟩; have HOUT := hid hout; have HZ4 := hid (HZ3.out.below zR_ok hb4); have HB4 := hid (below_on HB3.out hb4); have HPL4 := hid (HPL.out.only (Only.of_below (S := fun _ => False) hb4) (fun _ h => h.elim)); clear hb4 hout)
  | ((with_reducible refine wpList_storeR rfl rfl _ _ rfl g1 ?_ (r := r) ?_ zR_ok HK.out hone HZ4.out ?_); exact rfl; exact rfl; intro w5 h5 o5; have H5 := hid h5; have O5 := hid o5; clear h5 o5))
 refine ret_row3 rfl g1 (v := out) (x := i64 0) rfl rfl rfl rfl H5.out HK.out ?_
 have l1 := HZ2.out.1
 have l2 := HB2.out.size
 have l3 := HB3.out.size
 have l4 := HB1.out.size
 have l5 := HZ3.out.at_.lt
 have l6 := HZ2.out.2.at_.lt
 refine ⟨r, ps, out, rfl, HK.out, HVAL.out, PLF.base (HPL4.out.only O5.out (fun i e => by omega)) l2, OutB.base (HOUT.out.only O5.out (fun i e => by have := (HOUT.out.blk i e).1; omega)) l3, ?_⟩
 exact below_tr HB4.out (O5.out.below HB4.out.size (fun i e => by omega))
end Go.Proofs.YtdohmokhfajjpaaGreatDoor

/- Bytes that came in. -/
namespace Go.Proofs.YtdohmokhfajjpaaGreatDoor
open Go Go.RowKit

theorem plain_at (a : Addr) (w : World) (h : w.cell? a ≠ none) : ∃ b o, a = ⟨b, o, none⟩ := by
 obtain ⟨b, o, sp⟩ := a
 cases sp with
 | none => exact ⟨b, o, rfl⟩
 | some s =>
  exfalso; apply h
  unfold World.cell?
  split <;> simp
theorem bounds8 {k : Int} (h : (Lit.int .u8 k).wf = true) : 0 ≤ k ∧ k ≤ 255 := by
 simp [Lit.wf, IntKind.min, IntKind.max, IntKind.signed, IntKind.bits] at h; omega
theorem wf64 {k : Int} (h : (Lit.int .i64 k).wf = true) : -9223372036854775808 ≤ k ∧ k ≤ 9223372036854775807 := by
 simp [Lit.wf, IntKind.min, IntKind.max, IntKind.signed, IntKind.bits] at h; omega
/-- What is told of bytes that came in. -/
def IsB (w : World) (a : Option Addr) (len cap : Nat) : Prop := ∃ bs : List Nat, bs.length = len ∧ len ≤ cap ∧ BL w a bs ∧ (∀ x ∈ bs, x < 256) ∧ (a = none → cap = 0)
theorem bytes_open {H : Type} {enc : TypeId × Value → H} {w : World} {held : Bool} {fuel : Nat} {a : Option Addr} {len cap : Nat} {x : DataW H × List MemPlace}
  (h : DataW.trod enc Tryz.prog w 0 (fun _ => true) held fuel 22 (Value.slice a len cap).cells.toList = some x) : IsB w a len cap := by
 rcases Go.ChangeShapes.open_ints Tryz.underlying22 Tryz.underlying5 (by kernel_rfl) h with ⟨hcs, _⟩ | ⟨ad, l, c, zs, hcs, _, hl, hm, hz, _, hcell, hwz⟩
 ·simp [Value.cells] at hcs
  obtain ⟨rfl, rfl, rfl⟩ := hcs
  exact ⟨[], rfl, Nat.le_refl _, Or.inl rfl, by simp, fun _ => rfl⟩
 ·simp [Value.cells] at hcs
  obtain ⟨rfl, rfl, rfl⟩ := hcs
  have hz' : zs.length = cap := by simpa using hz
  have hbd : ∀ i, i < len → 0 ≤ zs.getD i 0 ∧ zs.getD i 0 ≤ 255 := fun i hi => by
   have hlt : i < zs.length := by omega
   have e : zs.getD i 0 = zs[i] := by simp [List.getD, hlt]
   rw [e]; exact bounds8 (hwz _ (List.getElem_mem hlt))
  refine ⟨(List.range len).map fun i => (zs.getD i 0).toNat, by simp, hl, ?_, fun y hy => ?_, fun e => by cases e⟩
  ·by_cases h0 : len = 0
   ·subst h0; exact Or.inl rfl
   ·obtain ⟨b, o, rfl⟩ := plain_at ad w (by have := hcell 0 (by omega); rw [add_zero'] at this; rw [this]; simp)
    refine Or.inr ⟨b, o, rfl, fun i hi => ?_⟩
    have hi' : i < len := by simpa using hi
    have hc := hcell i (by omega)
    rw [add_none] at hc
    rw [hc]
    have e1 : ((List.range len).map fun i => (zs.getD i 0).toNat).getD i 0 = (zs.getD i 0).toNat := by simp [List.getD, hi']
    rw [e1]; unfold u8; rw [Int.toNat_of_nonneg (hbd i hi').1]
  ·obtain ⟨i, hi, rfl⟩ := List.mem_map.1 hy
   have := hbd i (by simpa using hi)
   omega
end Go.Proofs.YtdohmokhfajjpaaGreatDoor

/- Contract of awake, the examples. -/
namespace Go.Proofs.YtdohmokhfajjpaaGreatDoor
open Go Go.RowKit

abbrev c7 : Array Value := #[.int .u8 4, .int .u8 110, .int .u8 117, .int .u8 108, .int .u8 108, .int .u8 5, .int .u8 1]
end Go.Proofs.YtdohmokhfajjpaaGreatDoor

/- RecordBack: the walks. -/
namespace Go.Proofs.YtdohmokhfajjpaaGreatDoor
open Go Go.RowKit

theorem CAt.whole {w : World} {g : Nat} {cs : Array Value} {t : TypeId} (h : CAt w g cs t) : ∀ j v, cs[j]? = some v → w.cell? ⟨g, 0 + j, none⟩ = some v := fun j v hv => by rw [Nat.zero_add, h.cell, hv]
/-- Two records in boxes. -/
structure Two (w W : World) (ga gb : Nat) (ra rb : Rv) : Prop where
 below : Below w.heap.size w W
 ca : CAt W ga ra.cs 44
 cb : CAt W gb rb.cs 44
theorem Two.on {w W W' : World} {ga gb : Nat} {ra rb : Rv} (h : Two w W ga gb ra rb) (hb : Below W.heap.size W W') : Two w W' ga gb ra rb := ⟨below_on h.below hb, h.ca.below hb, h.cb.below hb⟩
end Go.Proofs.YtdohmokhfajjpaaGreatDoor

/- Parts appended to parts; fresh for parts. -/
namespace Go.Proofs.YtdohmokhfajjpaaGreatDoor
open Go Go.RowKit

theorem flatP_app (ps qs : Ps) : flatP (ps ++ qs) = flatP ps ++ flatP qs := by simp [flatP]
theorem PBuf.app {B : Nat} {w : World} {v : Value} {ps : Ps} (hv : PBuf B w v ps) (po : Option Addr) (c : Nat) (qs : Ps) (hq : PL w (.slice po qs.length c) qs) (hc : po = none → c = 0) (hn : ps.length + qs.length ≤ 1000000) (hB : B ≤ w.heap.size) :
  ∃ v' w', (Builtin.append_ #[42, 42] 42 #[v, .slice po qs.length c]).run Tryz.prog w = .ok v' w' ∧ PBuf B w' v' (ps ++ qs) ∧ w.grownBy w' v.ownBlock := by
 obtain ⟨i0, hi0, hz0, hz1, hz2⟩ := info_parts Tryz.infoP
 obtain ⟨po', c', he, _, _, h⟩ := hq
 cases he
 cases po with
 | none =>
  have : qs = [] := by
   rcases h with h | ⟨b, o, h, _⟩
   ·exact h
   ·cases h
  subst this
  obtain rfl := hc rfl
  refine ⟨v, w, run_append_owned_none (P := Tryz.prog) (w := w) B 42 42 129 i0 2 Tryz.underlying42 hi0 v _ _ hv, by simpa using hv, ⟨rfl, rfl, rfl, Nat.le_refl _, fun _ _ _ => rfl⟩⟩
 | some a =>
  obtain ⟨v', w', hr, h3, h4, _, _⟩ := run_append_own_at (P := Tryz.prog) w B 42 42 129 i0 _ 2 16 Tryz.underlying42 hi0 hz0 hz1 hz2 rfl (by decide) v ps.length (flatP ps) hv a qs.length c (flatP qs) (flatP_len qs) (fun j u hj => by
   rcases h with h | ⟨b, o, e2, h⟩
   ·subst h; simp [flatP] at hj
   ·cases e2
    have hjl : j < qs.length * 2 := by
     rcases Nat.lt_or_ge j (qs.length * 2) with q | q
     ·exact q
     ·rw [List.getElem?_eq_none (by rw [flatP_len]; exact q)] at hj; cases hj
    have hi : j / 2 < qs.length := by omega
    obtain ⟨a1, a2⟩ := flatP_get qs (j / 2) hi
    obtain ⟨c1, c2⟩ := h (j / 2) hi
    rw [add_none]
    rcases Nat.mod_two_eq_zero_or_one j with hm | hm
    ·have ej : j = j / 2 * 2 := by omega
     rw [ej] at hj ⊢
     rw [a1] at hj; rw [c1]; exact hj
    ·have ej : j = j / 2 * 2 + 1 := by omega
     rw [ej] at hj ⊢
     rw [a2] at hj
     rw [show o + (j / 2 * 2 + 1) = o + j / 2 * 2 + 1 by omega, c2]; exact hj) (by
   intro u hu
   unfold flatP at hu
   simp at hu
   obtain ⟨_, _, _, h⟩ := hu
   rcases h with rfl | rfl <;> rfl) (by unfold maxLen; omega) (by omega) hB
  refine ⟨v', w', hr, ?_, h4⟩
  unfold PBuf
  rw [List.length_append, flatP_app]; exact h3
end Go.Proofs.YtdohmokhfajjpaaGreatDoor
