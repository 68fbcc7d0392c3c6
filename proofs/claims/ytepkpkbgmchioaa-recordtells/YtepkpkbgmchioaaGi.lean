/- Texts laid into one: the remark ahead of each part says what is proved there. -/
import Derived.Test.YtepkpkbgmchioaaGh
import Derived.Deep.Cut
/- RecordBack: the walks. -/
namespace Go.Proofs.Ytepkpkbgmchioaa
open Go Go.RowKit

theorem CAt.whole {w : World} {g : Nat} {cs : Array Value} {t : TypeId} (h : CAt w g cs t) : ∀ j v, cs[j]? = some v → w.cell? ⟨g, 0 + j, none⟩ = some v := fun j v hv => by rw [Nat.zero_add, h.cell, hv]
theorem Rv.size_of {r : Rv} (h : r.sum.length = 32) : r.cs.size = 42 := by simp [Rv.cs, sumC_size, h]
/-- Two records in boxes. -/
structure Two (w W : World) (ga gb : Nat) (ra rb : Rv) : Prop where
  below : Below w.heap.size w W
  ca : CAt W ga ra.cs 45
  cb : CAt W gb rb.cs 45
theorem Two.on {w W W' : World} {ga gb : Nat} {ra rb : Rv} (h : Two w W ga gb ra rb) (hb : Below W.heap.size W W') : Two w W' ga gb ra rb := ⟨below_on h.below hb, h.ca.below hb, h.cb.below hb⟩
set_option maxRecDepth 100000 in
set_option maxHeartbeats 400000 in
theorem back_big0 (ra rb : Rv) (sa : ra.sum.length = 32) (sb : rb.sum.length = 32) (pa pb : Option Addr) (na ca nb_ cb : Nat) (ea : ra.pv = .slice pa na ca) (eb : rb.pv = .slice pb nb_ cb) (b : Option Addr) (len cap : Nat) (w : World) (hA : bigR ra na = true) : Calls Try.prog 5 #[.agg ra.cs, .agg rb.cs, .slice b len cap] w fun e w' => e = .returned (.bool true) ∧ Below w.heap.size w w' := by
  have HSra := hid sa
  have HSrb := hid sb
  have HLa := hid (fun W => large_any ra sa pa na ca ea W)
  have HLb := hid (fun W => large_any rb sb pb nb_ cb eb W)
  rw [hA] at HLa
  have T1 : Hid True := hid trivial
  have T2 : Hid True := hid trivial
  clear sa sb ea eb
  go_enter Try.func5, Try.ntmps5
  go_wp2_with (first
    | (clear T1; (with_reducible refine wpList_boxR rfl _ rfl ra.cs ?_ ?_); exact rfl; intro w1 ga hc1 hb1 hg1; have HC1 := hid hc1; have HB1 := hid hb1; clear hc1 hb1)
    | (clear T2; (with_reducible refine wpList_boxR rfl _ rfl rb.cs ?_ ?_); exact rfl; intro w2 gb hc2 hb2 hg2; have HT : Hid (Two w w2 ga gb ra rb) := hid ⟨below_on HB1.out hb2, HC1.out.below hb2, hc2⟩; clear hc2 hb2 HC1 HB1)
    | (go_at_call 32; (with_reducible refine (awake_any _).mono ?_); rintro e w3 ⟨rfl, hb3⟩; replace HT := hid (HT.out.on hb3); clear hb3)
    | ((with_reducible refine wpList_load_at 45 _ rfl ?_ ga 0 ?_ ra.cs (.struct (Try.prog.fieldsOf 45)) ?_ underRec rfl ?_ ?_); exact rfl; exact rfl; exact HT.out.ca.whole; (rw [Rv.size_of HSra.out]; exact sizeR))
    | ((with_reducible refine wpList_load_at 45 _ rfl ?_ gb 0 ?_ rb.cs (.struct (Try.prog.fieldsOf 45)) ?_ underRec rfl ?_ ?_); exact rfl; exact rfl; exact HT.out.cb.whole; (rw [Rv.size_of HSrb.out]; exact sizeR))
    | (go_at_call 21; (with_reducible refine (HLa.out _).mono ?_); rintro e w4 ⟨rfl, hb4⟩; replace HT := hid (HT.out.on hb4); clear hb4 HLa)
    | (go_at_call 21; (with_reducible refine (HLb.out _).mono ?_); rintro e w5 ⟨rfl, hb5⟩; replace HT := hid (HT.out.on hb5); clear hb5 HLb))
  go_ret
  exact ⟨rfl, HT.out.below⟩
set_option maxRecDepth 100000 in
set_option maxHeartbeats 400000 in
theorem back_big1 (ra rb : Rv) (sa : ra.sum.length = 32) (sb : rb.sum.length = 32) (pa pb : Option Addr) (na ca nb_ cb : Nat) (ea : ra.pv = .slice pa na ca) (eb : rb.pv = .slice pb nb_ cb) (b : Option Addr) (len cap : Nat) (w : World) (hA : bigR ra na = false) (hB : bigR rb nb_ = true) : Calls Try.prog 5 #[.agg ra.cs, .agg rb.cs, .slice b len cap] w fun e w' => e = .returned (.bool true) ∧ Below w.heap.size w w' := by
  have HSra := hid sa
  have HSrb := hid sb
  have HLa := hid (fun W => large_any ra sa pa na ca ea W)
  have HLb := hid (fun W => large_any rb sb pb nb_ cb eb W)
  rw [hA] at HLa
  rw [hB] at HLb
  have T1 : Hid True := hid trivial
  have T2 : Hid True := hid trivial
  clear sa sb ea eb
  go_enter Try.func5, Try.ntmps5
  go_wp2_with (first
    | (clear T1; (with_reducible refine wpList_boxR rfl _ rfl ra.cs ?_ ?_); exact rfl; intro w1 ga hc1 hb1 hg1; have HC1 := hid hc1; have HB1 := hid hb1; clear hc1 hb1)
    | (clear T2; (with_reducible refine wpList_boxR rfl _ rfl rb.cs ?_ ?_); exact rfl; intro w2 gb hc2 hb2 hg2; have HT : Hid (Two w w2 ga gb ra rb) := hid ⟨below_on HB1.out hb2, HC1.out.below hb2, hc2⟩; clear hc2 hb2 HC1 HB1)
    | (go_at_call 32; (with_reducible refine (awake_any _).mono ?_); rintro e w3 ⟨rfl, hb3⟩; replace HT := hid (HT.out.on hb3); clear hb3)
    | ((with_reducible refine wpList_load_at 45 _ rfl ?_ ga 0 ?_ ra.cs (.struct (Try.prog.fieldsOf 45)) ?_ underRec rfl ?_ ?_); exact rfl; exact rfl; exact HT.out.ca.whole; (rw [Rv.size_of HSra.out]; exact sizeR))
    | ((with_reducible refine wpList_load_at 45 _ rfl ?_ gb 0 ?_ rb.cs (.struct (Try.prog.fieldsOf 45)) ?_ underRec rfl ?_ ?_); exact rfl; exact rfl; exact HT.out.cb.whole; (rw [Rv.size_of HSrb.out]; exact sizeR))
    | (go_at_call 21; (with_reducible refine (HLa.out _).mono ?_); rintro e w4 ⟨rfl, hb4⟩; replace HT := hid (HT.out.on hb4); clear hb4 HLa)
    | (go_at_call 21; (with_reducible refine (HLb.out _).mono ?_); rintro e w5 ⟨rfl, hb5⟩; replace HT := hid (HT.out.on hb5); clear hb5 HLb))
  go_ret
  exact ⟨rfl, HT.out.below⟩
set_option maxRecDepth 100000 in
set_option maxHeartbeats 400000 in
theorem back_big2 (ra rb : Rv) (sa : ra.sum.length = 32) (sb : rb.sum.length = 32) (pa pb : Option Addr) (na ca nb_ cb : Nat) (ea : ra.pv = .slice pa na ca) (eb : rb.pv = .slice pb nb_ cb) (b : Option Addr) (len cap : Nat) (w : World) (hA : bigR ra na = false) (hB : bigR rb nb_ = false) (hl : 200 < len) : Calls Try.prog 5 #[.agg ra.cs, .agg rb.cs, .slice b len cap] w fun e w' => e = .returned (.bool true) ∧ Below w.heap.size w w' := by
  have HSra := hid sa
  have HSrb := hid sb
  have HLa := hid (fun W => large_any ra sa pa na ca ea W)
  have HLb := hid (fun W => large_any rb sb pb nb_ cb eb W)
  rw [hA] at HLa
  rw [hB] at HLb
  have hl' : 200 < (len : Int) := by omega
  have T1 : Hid True := hid trivial
  have T2 : Hid True := hid trivial
  clear sa sb ea eb
  go_enter Try.func5, Try.ntmps5
  go_wp2_with (first
    | (clear T1; (with_reducible refine wpList_boxR rfl _ rfl ra.cs ?_ ?_); exact rfl; intro w1 ga hc1 hb1 hg1; have HC1 := hid hc1; have HB1 := hid hb1; clear hc1 hb1)
    | (clear T2; (with_reducible refine wpList_boxR rfl _ rfl rb.cs ?_ ?_); exact rfl; intro w2 gb hc2 hb2 hg2; have HT : Hid (Two w w2 ga gb ra rb) := hid ⟨below_on HB1.out hb2, HC1.out.below hb2, hc2⟩; clear hc2 hb2 HC1 HB1)
    | (go_at_call 32; (with_reducible refine (awake_any _).mono ?_); rintro e w3 ⟨rfl, hb3⟩; replace HT := hid (HT.out.on hb3); clear hb3)
    | ((with_reducible refine wpList_load_at 45 _ rfl ?_ ga 0 ?_ ra.cs (.struct (Try.prog.fieldsOf 45)) ?_ underRec rfl ?_ ?_); exact rfl; exact rfl; exact HT.out.ca.whole; (rw [Rv.size_of HSra.out]; exact sizeR))
    | ((with_reducible refine wpList_load_at 45 _ rfl ?_ gb 0 ?_ rb.cs (.struct (Try.prog.fieldsOf 45)) ?_ underRec rfl ?_ ?_); exact rfl; exact rfl; exact HT.out.cb.whole; (rw [Rv.size_of HSrb.out]; exact sizeR))
    | (go_at_call 21; (with_reducible refine (HLa.out _).mono ?_); rintro e w4 ⟨rfl, hb4⟩; replace HT := hid (HT.out.on hb4); clear hb4 HLa)
    | (go_at_call 21; (with_reducible refine (HLb.out _).mono ?_); rintro e w5 ⟨rfl, hb5⟩; replace HT := hid (HT.out.on hb5); clear hb5 HLb))
  go_ret
  exact ⟨rfl, HT.out.below⟩
set_option maxRecDepth 100000 in
set_option maxHeartbeats 400000 in
theorem back_abad (ra rb : Rv) (ka : ra.ok) (kb : rb.ok) (ps qs : Ps) (b : Option Addr) (cap : Nat) (bs : List Nat) (w : World) (pla : PL w ra.pv ps) (plb : PL w rb.pv qs) (bA : bigR ra ps.length = false) (bB : bigR rb qs.length = false) (hl : bs.length ≤ 200) (oA : okRc (ra.rc ps) = false) : Calls Try.prog 5 #[.agg ra.cs, .agg rb.cs, .slice b bs.length cap] w fun e w' => e = .returned (.bool true) ∧ Below w.heap.size w w' := by
  have hl' : ¬ 200 < (bs.length : Int) := by omega
  have HSra := hid ka.sl
  have HSrb := hid kb.sl
  have HLa : Hid (∀ W, Calls Try.prog 21 #[.agg ra.cs] W fun e w' => e = .returned (.bool false) ∧ Below W.heap.size W w') := hid (fun W => by obtain ⟨p, c, e, _⟩ := pla; have := large_any ra ka.sl p ps.length c e W; rw [bA] at this; exact this)
  have HLb : Hid (∀ W, Calls Try.prog 21 #[.agg rb.cs] W fun e w' => e = .returned (.bool false) ∧ Below W.heap.size W w') := hid (fun W => by obtain ⟨p, c, e, _⟩ := plb; have := large_any rb kb.sl p qs.length c e W; rw [bB] at this; exact this)
  have T1 : Hid True := hid trivial
  have T2 : Hid True := hid trivial
  have HBA := hid (fun W (hb : Below w.heap.size w W) => bytes_bad ra ka ps W (pla.below hb) oA)
  clear ka kb pla plb bA bB oA
  go_enter Try.func5, Try.ntmps5
  go_wp2_with (first
    | (clear T1; (with_reducible refine wpList_boxR rfl _ rfl ra.cs ?_ ?_); exact rfl; intro w1 ga hc1 hb1 hg1; have HC1 := hid hc1; have HB1 := hid hb1; clear hc1 hb1)
    | (clear T2; (with_reducible refine wpList_boxR rfl _ rfl rb.cs ?_ ?_); exact rfl; intro w2 gb hc2 hb2 hg2; have HT : Hid (Two w w2 ga gb ra rb) := hid ⟨below_on HB1.out hb2, HC1.out.below hb2, hc2⟩; clear hc2 hb2 HC1 HB1)
    | (go_at_call 32; (with_reducible refine (awake_any _).mono ?_); rintro e w3 ⟨rfl, hb3⟩; replace HT := hid (HT.out.on hb3); clear hb3)
    | ((with_reducible refine wpList_load_at 45 _ rfl ?_ ga 0 ?_ ra.cs (.struct (Try.prog.fieldsOf 45)) ?_ underRec rfl ?_ ?_); exact rfl; exact rfl; exact HT.out.ca.whole; (rw [Rv.size_of HSra.out]; exact sizeR))
    | ((with_reducible refine wpList_load_at 45 _ rfl ?_ gb 0 ?_ rb.cs (.struct (Try.prog.fieldsOf 45)) ?_ underRec rfl ?_ ?_); exact rfl; exact rfl; exact HT.out.cb.whole; (rw [Rv.size_of HSrb.out]; exact sizeR))
    | (go_at_call 21; (with_reducible refine (HLa.out _).mono ?_); rintro e w4 ⟨rfl, hb4⟩; replace HT := hid (HT.out.on hb4); clear hb4 HLa)
    | (go_at_call 21; (with_reducible refine (HLb.out _).mono ?_); rintro e w5 ⟨rfl, hb5⟩; replace HT := hid (HT.out.on hb5); clear hb5 HLb)
    | (go_at_call 24; (with_reducible refine (HBA.out _ HT.out.below).mono ?_); rintro e w6 ⟨rfl, hb6⟩; replace HT := hid (HT.out.on hb6); clear hb6))
  go_ret
  exact ⟨rfl, HT.out.below⟩
set_option maxRecDepth 100000 in
set_option maxHeartbeats 1000000 in
theorem back_cbad (ra rb : Rv) (ka : ra.ok) (kb : rb.ok) (ps qs : Ps) (b : Option Addr) (cap : Nat) (bs : List Nat) (w : World) (pla : PL w ra.pv ps) (plb : PL w rb.pv qs) (bA : bigR ra ps.length = false) (bB : bigR rb qs.length = false) (hl : bs.length ≤ 200) (h : BL w b bs) (hc : bs.length ≤ cap) (hn0 : b = none → cap = 0) (h8 : ∀ x ∈ bs, x < 256) (oA : okRc (ra.rc ps) = true) (oC : okRc (rb.rc qs) = false) : Calls Try.prog 5 #[.agg ra.cs, .agg rb.cs, .slice b bs.length cap] w fun e w' => e = .returned (.bool true) ∧ Below w.heap.size w w' := by
  have hl' : ¬ 200 < (bs.length : Int) := by omega
  have HSra := hid ka.sl
  have HSrb := hid kb.sl
  have HLa : Hid (∀ W, Calls Try.prog 21 #[.agg ra.cs] W fun e w' => e = .returned (.bool false) ∧ Below W.heap.size W w') := hid (fun W => by obtain ⟨p, c, e, _⟩ := pla; have := large_any ra ka.sl p ps.length c e W; rw [bA] at this; exact this)
  have HLb : Hid (∀ W, Calls Try.prog 21 #[.agg rb.cs] W fun e w' => e = .returned (.bool false) ∧ Below W.heap.size W w') := hid (fun W => by obtain ⟨p, c, e, _⟩ := plb; have := large_any rb kb.sl p qs.length c e W; rw [bB] at this; exact this)
  have T1 : Hid True := hid trivial
  have T2 : Hid True := hid trivial
  obtain ⟨X, hX⟩ : ∃ X, rcB (ra.rc ps) = X := ⟨_, rfl⟩
  obtain ⟨M, hM⟩ : ∃ M, X ++ bs = M := ⟨_, rfl⟩
  have hX8 : ∀ z ∈ X, z < 256 := hX ▸ rcB_byte ra ka ps
  have hXl : X.length ≤ 5000 := hX ▸ rcB_len ra ka ps oA
  have HX8 := hid hX8
  have HBA : Hid (∀ W, Below w.heap.size w W → Calls Try.prog 24 #[.agg ra.cs] W (OutE W X 0)) := hid (fun W hb => by have := bytes_ok ra ka ps W (pla.below hb) oA; rw [hX] at this; exact this)
  have HRM : Hid (rdR M = some (ra.rc ps, bs)) := hid (by rw [← hM, ← hX]; exact rdR_rcB bs oA)
  have HM8 : Hid (∀ z ∈ M, z < 256) := hid (hM ▸ all256 hX8 h8)
  have HML : Hid (M.length ≤ 100000) := hid (by rw [← hM, List.length_append]; omega)
  have HM := hid hM
  have HLESS : Hid (∀ i, i < X.length → rdR (X.take i) = none) := hid (fun i hi => by subst hX; exact rdR_less oA hX8 hi)
  have HBL := hid h
  have HSL : Hid (SL w (.slice b bs.length cap) bs) := hid ⟨b, cap, rfl, h, hc⟩
  have H8 := hid h8
  have HN0 := hid hn0
  have HPA := hid pla
  have HPB := hid plb
  have HKA := hid ka
  have HKB := hid kb
  obtain ⟨Z, hZ⟩ : ∃ Z, zR = Z := ⟨_, rfl⟩
  have zok : Z.ok := hZ ▸ zR_ok
  have zone : Z.pv.oneCell' = true := hZ ▸ rfl
  have HZZ := hid hZ
  have HBC := hid (fun W (hb : Below w.heap.size w W) => bytes_bad rb kb qs W (plb.below hb) oC)
  clear ka kb pla plb bA bB h h8 hn0 oA oC hX hM hX8 hZ
  go_enter Try.func5, Try.ntmps5
  go_upto_region 10 with (first
    | (clear T1; (with_reducible refine wpList_boxR rfl _ rfl ra.cs ?_ ?_); exact rfl; intro w1 ga hc1 hb1 hg1; have HC1 := hid hc1; have HB1 := hid hb1; clear hc1 hb1)
    | (clear T2; (with_reducible refine wpList_boxR rfl _ rfl rb.cs ?_ ?_); exact rfl; intro w2 gb hc2 hb2 hg2; have HT : Hid (Two w w2 ga gb ra rb) := hid ⟨below_on HB1.out hb2, HC1.out.below hb2, hc2⟩; clear hc2 hb2 HC1 HB1)
    | (go_at_call 32; (with_reducible refine (awake_any _).mono ?_); rintro e w3 ⟨rfl, hb3⟩; replace HT := hid (HT.out.on hb3); clear hb3)
    | ((with_reducible refine wpList_load_at 45 _ rfl ?_ ga 0 ?_ ra.cs (.struct (Try.prog.fieldsOf 45)) ?_ underRec rfl ?_ ?_); exact rfl; exact rfl; exact HT.out.ca.whole; (rw [Rv.size_of HSra.out]; exact sizeR))
    | ((with_reducible refine wpList_load_at 45 _ rfl ?_ gb 0 ?_ rb.cs (.struct (Try.prog.fieldsOf 45)) ?_ underRec rfl ?_ ?_); exact rfl; exact rfl; exact HT.out.cb.whole; (rw [Rv.size_of HSrb.out]; exact sizeR))
    | (go_at_call 21; (with_reducible refine (HLa.out _).mono ?_); rintro e w4 ⟨rfl, hb4⟩; replace HT := hid (HT.out.on hb4); clear hb4 HLa)
    | (go_at_call 21; (with_reducible refine (HLb.out _).mono ?_); rintro e w5 ⟨rfl, hb5⟩; replace HT := hid (HT.out.on hb5); clear hb5 HLb)
    | (go_at_call 24; (with_reducible refine (HBA.out _ HT.out.below).mono ?_); rintro e wX ⟨v6, rfl, ho6, hb6⟩; replace HT := hid (HT.out.on hb6); have HXS := hid ho6.sl; obtain ⟨px, hpx, hbx, hpn⟩ := ho6.form; subst hpx; have HXB := hid hbx; have HPN := hid hpn; have HXW := hid (Below.refl wX.heap.size wX); clear hb6 ho6 hbx hpn HBA)
    | (go_at_call 33; (with_reducible refine (copyB_any (x := X) HXS.out ?_ ?_).mono ?_); omega; (intro n c e; cases e; exact HPN.out rfl); rintro e w7 ⟨v7, rfl, hb7, hw7⟩; obtain ⟨v8, w8, hrun, hb8, hg8⟩ := hb7.app b cap bs (HBL.out.below (below_on HT.out.below hw7)) HN0.out (by omega) hw7.size; have HRUN := hid hrun; replace HXW := hid (below_grown hw7 hg8 (Nat.le_refl _) (fun b hb => (own_ge hb7 b hb).1)); rw [HM.out] at hb8; obtain ⟨pM, cM, hvM, hblM, hcM⟩ := hb8.sl; subst hvM; have HBM := hid hblM; have HCM := hid hcM; clear hb7 hw7 hrun hb8 hg8 hblM hcM)
    | (at_builtin; refine wpList_append_run _ _ 22 22 rfl rfl _ _ _ rfl rfl HRUN.out ?_)
    | (go_at_call 30; (with_reducible refine (read_ok pM cM M w8 HBM.out HCM.out HML.out HM8.out HRM.out).mono ?_); rintro e w9 ⟨r, ps9, out9, rfl, hok, hrc, hpl, hout, hb9⟩; have hone : r.pv.oneCell' = true := (by obtain ⟨_, _, _, e⟩ := hpl.form; rw [e]; rfl); have HSr := hid hok.sl; have HOUT := hid hout.sl; have HPL := hid hpl.1; have HRC := hid hrc; replace HXW := hid (below_on HXW.out hb9); clear hpl hout hrc hb9 HBM HCM HRUN)
    | ((with_reducible refine wpList_allocR rfl rfl ?_); intro w10 g10 hz10 hb10 hg10; have HZ10 := hid hz10; have HB10 := hid hb10; clear hz10 hb10)
    | ((with_reducible refine wpList_storeR rfl rfl _ _ rfl g10 ?_ (r := r) ?_ zR_ok hok hone HZ10.out ?_); exact rfl; exact rfl; intro w11 h11 o11; have hb11 := below_tr HB10.out (o11.below HB10.out.size (fun i e => by omega)); have HR11 := hid h11; replace HXW := hid (below_on HXW.out hb11); replace HOUT := hid (HOUT.out.below hb11); replace HPL := hid (HPL.out.below hb11); clear h11 o11 hb11 HZ10 HB10)
    | ((with_reducible refine wpList_load_at 45 _ rfl ?_ g10 0 ?_ r.cs (.struct (Try.prog.fieldsOf 45)) ?_ underRec rfl ?_ ?_); exact rfl; exact rfl; exact HR11.out.at_.whole; (rw [Rv.size_of HSr.out]; exact sizeR))
    | ((with_reducible refine wpList_load_at 45 _ rfl ?_ ga 0 ?_ ra.cs (.struct (Try.prog.fieldsOf 45)) ?_ underRec rfl ?_ ?_); exact rfl; exact rfl; exact (HT.out.on HXW.out).ca.whole; (rw [Rv.size_of HSra.out]; exact sizeR))
    | (go_at_call 26; (with_reducible refine (same_any r ra hok HKA.out ps9 ps _ HPL.out (HPA.out.below (below_on HT.out.below HXW.out))).mono ?_); rintro e w12 ⟨rfl, hb12⟩; rw [show decide (r.rc ps9 = ra.rc ps) = true from decide_eq_true HRC.out]; replace HXW := hid (below_on HXW.out hb12); replace HOUT := hid (HOUT.out.below hb12); clear hb12 HR11 HPL)
    | (go_at_call 11; (with_reducible refine (sameB_true (x := bs) HOUT.out (HSL.out.below (below_on HT.out.below HXW.out)) H8.out).mono ?_); rintro e w13 ⟨rfl, hw13⟩; have hw14 := hw13.symm; subst hw14; clear hw13 HOUT))
  clear HM HML HM8 HRM HBL HSL H8 HN0 HPN hl'
  have HRB : Hid (∀ i W, i < X.length → Below wX.heap.size wX W → Calls Try.prog 30 #[.slice px i X.length] W fun e w' => e = .returned (.tuple #[.agg Z.cs, .slice none 0 0, i64 4]) ∧ Below W.heap.size W w') := hid (fun i W hi hb => by
    have := read_bad px X.length (X.take i) W ((HXB.out.below hb).take i) (by rw [List.length_take]; omega) (by rw [List.length_take]; omega) (fun z hz => HX8.out z (List.mem_of_mem_take hz)) (HLESS.out i hi)
    rw [List.length_take, Nat.min_eq_left (by omega), HZZ.out] at this
    exact this)
  go_wp2_with fail
  go_loopw [13] (fun iv wr => ∃ i : Nat, i ≤ X.length ∧ iv = i64 i ∧ Below wX.heap.size wX wr) (fun iv _ => (X.length - intOf iv).toNat)
  case atStart => exact ⟨0, by omega, rfl, HXW.out⟩
  case round =>
    obtain ⟨i, hi, rfl, hbw⟩ := hrel
    clear HXW
    have HXW := hid hbw
    clear hbw
    by_cases hlt : i < X.length
    · have hlt' : (i : Int) < (X.length : Int) := by omega
      have hwr : IntKind.i64.wrap ((i : Int) + 1) = ((i + 1 : Nat) : Int) := by rw [IntKind.wrap_i64]; omega
      have hs1 := run_h8 px X.length X.length i (by omega)
      go_wp2_with (first
        | (go_at_call 30; (with_reducible refine (HRB.out i _ hlt HXW.out).mono ?_); rintro e w15 ⟨rfl, hb15⟩; replace HXW := hid (below_on HXW.out hb15); clear hb15)
        | ((with_reducible refine wpList_allocR rfl rfl ?_); intro w16 g16 hz16 hb16 hg16; have HZ16 := hid hz16; have HB16 := hid hb16; clear hz16 hb16)
        | ((with_reducible refine wpList_storeR rfl rfl _ _ rfl g16 ?_ (r := Z) ?_ zR_ok zok zone HZ16.out ?_); exact rfl; exact rfl; intro w17 h17 o17; replace HXW := hid (below_on HXW.out (below_tr HB16.out (o17.below HB16.out.size (fun i e => by omega)))); clear h17 o17 HZ16 HB16))
      refine ⟨⟨i + 1, by omega, rfl, HXW.out⟩, ?_⟩
      simp [intOf]; omega
    · have hlt' : ¬ (i : Int) < (X.length : Int) := by omega
      clear HRB HLESS
      go_wp2_with (first
        | ((with_reducible refine wpList_load_at 45 _ rfl ?_ gb 0 ?_ rb.cs (.struct (Try.prog.fieldsOf 45)) ?_ underRec rfl ?_ ?_); exact rfl; exact rfl; exact (HT.out.on HXW.out).cb.whole; (rw [Rv.size_of HSrb.out]; exact sizeR))
        | ((with_reducible refine wpList_load_at 45 _ rfl ?_ ga 0 ?_ ra.cs (.struct (Try.prog.fieldsOf 45)) ?_ underRec rfl ?_ ?_); exact rfl; exact rfl; exact (HT.out.on HXW.out).ca.whole; (rw [Rv.size_of HSra.out]; exact sizeR))
        | (go_at_call 24; (with_reducible refine (HBC.out _ (below_on HT.out.below HXW.out)).mono ?_); rintro e w18 ⟨rfl, hb18⟩; replace HXW := hid (below_on HXW.out hb18); clear hb18))
      go_ret
      exact ⟨rfl, below_on HT.out.below HXW.out⟩
set_option maxRecDepth 100000 in
set_option maxHeartbeats 1000000 in
theorem back_same (ra rb : Rv) (ka : ra.ok) (kb : rb.ok) (ps qs : Ps) (b : Option Addr) (cap : Nat) (bs : List Nat) (w : World) (pla : PL w ra.pv ps) (plb : PL w rb.pv qs) (bA : bigR ra ps.length = false) (bB : bigR rb qs.length = false) (hl : bs.length ≤ 200) (h : BL w b bs) (hc : bs.length ≤ cap) (hn0 : b = none → cap = 0) (h8 : ∀ x ∈ bs, x < 256) (oA : okRc (ra.rc ps) = true) (oC : okRc (rb.rc qs) = true) (eq : ra.rc ps = rb.rc qs) : Calls Try.prog 5 #[.agg ra.cs, .agg rb.cs, .slice b bs.length cap] w fun e w' => e = .returned (.bool true) ∧ Below w.heap.size w w' := by
  have hl' : ¬ 200 < (bs.length : Int) := by omega
  have HSra := hid ka.sl
  have HSrb := hid kb.sl
  have HLa : Hid (∀ W, Calls Try.prog 21 #[.agg ra.cs] W fun e w' => e = .returned (.bool false) ∧ Below W.heap.size W w') := hid (fun W => by obtain ⟨p, c, e, _⟩ := pla; have := large_any ra ka.sl p ps.length c e W; rw [bA] at this; exact this)
  have HLb : Hid (∀ W, Calls Try.prog 21 #[.agg rb.cs] W fun e w' => e = .returned (.bool false) ∧ Below W.heap.size W w') := hid (fun W => by obtain ⟨p, c, e, _⟩ := plb; have := large_any rb kb.sl p qs.length c e W; rw [bB] at this; exact this)
  have T1 : Hid True := hid trivial
  have T2 : Hid True := hid trivial
  obtain ⟨X, hX⟩ : ∃ X, rcB (ra.rc ps) = X := ⟨_, rfl⟩
  obtain ⟨M, hM⟩ : ∃ M, X ++ bs = M := ⟨_, rfl⟩
  have hX8 : ∀ z ∈ X, z < 256 := hX ▸ rcB_byte ra ka ps
  have hXl : X.length ≤ 5000 := hX ▸ rcB_len ra ka ps oA
  have HX8 := hid hX8
  have HBA : Hid (∀ W, Below w.heap.size w W → Calls Try.prog 24 #[.agg ra.cs] W (OutE W X 0)) := hid (fun W hb => by have := bytes_ok ra ka ps W (pla.below hb) oA; rw [hX] at this; exact this)
  have HRM : Hid (rdR M = some (ra.rc ps, bs)) := hid (by rw [← hM, ← hX]; exact rdR_rcB bs oA)
  have HM8 : Hid (∀ z ∈ M, z < 256) := hid (hM ▸ all256 hX8 h8)
  have HML : Hid (M.length ≤ 100000) := hid (by rw [← hM, List.length_append]; omega)
  have HM := hid hM
  have HLESS : Hid (∀ i, i < X.length → rdR (X.take i) = none) := hid (fun i hi => by subst hX; exact rdR_less oA hX8 hi)
  have HBL := hid h
  have HSL : Hid (SL w (.slice b bs.length cap) bs) := hid ⟨b, cap, rfl, h, hc⟩
  have H8 := hid h8
  have HN0 := hid hn0
  have HPA := hid pla
  have HPB := hid plb
  have HKA := hid ka
  have HKB := hid kb
  obtain ⟨Z, hZ⟩ : ∃ Z, zR = Z := ⟨_, rfl⟩
  have zok : Z.ok := hZ ▸ zR_ok
  have zone : Z.pv.oneCell' = true := hZ ▸ rfl
  have HZZ := hid hZ
  obtain ⟨Y, hY⟩ : ∃ Y, rcB (rb.rc qs) = Y := ⟨_, rfl⟩
  have HBC : Hid (∀ W, Below w.heap.size w W → Calls Try.prog 24 #[.agg rb.cs] W (OutE W Y 0)) := hid (fun W hb => by have := bytes_ok rb kb qs W (plb.below hb) oC; rw [hY] at this; exact this)
  have hY8 : ∀ z ∈ Y, z < 256 := hY ▸ rcB_byte rb kb qs
  have HY8 := hid hY8
  have hYX : Y = X := by rw [← hX, ← hY, eq]
  have hge : ¬ (Y.length : Int) < (X.length : Int) := by rw [hYX]; omega
  have hge' : (X.length : Int) ≤ (Y.length : Int) := by rw [hYX]; omega
  have hle : X.length ≤ Y.length := by rw [hYX]; exact Nat.le_refl _
  have HTK : Hid (Y.take X.length = X) := hid (by rw [hYX, List.take_length])
  have HSM := hid (show decide (ra.rc ps = rb.rc qs) = true from decide_eq_true eq)
  clear hYX eq
  clear hY hY8
  clear ka kb pla plb bA bB h h8 hn0 oA oC hX hM hX8 hZ
  go_enter Try.func5, Try.ntmps5
  go_upto_region 10 with (first
    | (clear T1; (with_reducible refine wpList_boxR rfl _ rfl ra.cs ?_ ?_); exact rfl; intro w1 ga hc1 hb1 hg1; have HC1 := hid hc1; have HB1 := hid hb1; clear hc1 hb1)
    | (clear T2; (with_reducible refine wpList_boxR rfl _ rfl rb.cs ?_ ?_); exact rfl; intro w2 gb hc2 hb2 hg2; have HT : Hid (Two w w2 ga gb ra rb) := hid ⟨below_on HB1.out hb2, HC1.out.below hb2, hc2⟩; clear hc2 hb2 HC1 HB1)
    | (go_at_call 32; (with_reducible refine (awake_any _).mono ?_); rintro e w3 ⟨rfl, hb3⟩; replace HT := hid (HT.out.on hb3); clear hb3)
    | ((with_reducible refine wpList_load_at 45 _ rfl ?_ ga 0 ?_ ra.cs (.struct (Try.prog.fieldsOf 45)) ?_ underRec rfl ?_ ?_); exact rfl; exact rfl; exact HT.out.ca.whole; (rw [Rv.size_of HSra.out]; exact sizeR))
    | ((with_reducible refine wpList_load_at 45 _ rfl ?_ gb 0 ?_ rb.cs (.struct (Try.prog.fieldsOf 45)) ?_ underRec rfl ?_ ?_); exact rfl; exact rfl; exact HT.out.cb.whole; (rw [Rv.size_of HSrb.out]; exact sizeR))
    | (go_at_call 21; (with_reducible refine (HLa.out _).mono ?_); rintro e w4 ⟨rfl, hb4⟩; replace HT := hid (HT.out.on hb4); clear hb4 HLa)
    | (go_at_call 21; (with_reducible refine (HLb.out _).mono ?_); rintro e w5 ⟨rfl, hb5⟩; replace HT := hid (HT.out.on hb5); clear hb5 HLb)
    | (go_at_call 24; (with_reducible refine (HBA.out _ HT.out.below).mono ?_); rintro e wX ⟨v6, rfl, ho6, hb6⟩; replace HT := hid (HT.out.on hb6); have HXS := hid ho6.sl; obtain ⟨px, hpx, hbx, hpn⟩ := ho6.form; subst hpx; have HXB := hid hbx; have HPN := hid hpn; have HXW := hid (Below.refl wX.heap.size wX); clear hb6 ho6 hbx hpn HBA)
    | (go_at_call 33; (with_reducible refine (copyB_any (x := X) HXS.out ?_ ?_).mono ?_); omega; (intro n c e; cases e; exact HPN.out rfl); rintro e w7 ⟨v7, rfl, hb7, hw7⟩; obtain ⟨v8, w8, hrun, hb8, hg8⟩ := hb7.app b cap bs (HBL.out.below (below_on HT.out.below hw7)) HN0.out (by omega) hw7.size; have HRUN := hid hrun; replace HXW := hid (below_grown hw7 hg8 (Nat.le_refl _) (fun b hb => (own_ge hb7 b hb).1)); rw [HM.out] at hb8; obtain ⟨pM, cM, hvM, hblM, hcM⟩ := hb8.sl; subst hvM; have HBM := hid hblM; have HCM := hid hcM; clear hb7 hw7 hrun hb8 hg8 hblM hcM)
    | (at_builtin; refine wpList_append_run _ _ 22 22 rfl rfl _ _ _ rfl rfl HRUN.out ?_)
    | (go_at_call 30; (with_reducible refine (read_ok pM cM M w8 HBM.out HCM.out HML.out HM8.out HRM.out).mono ?_); rintro e w9 ⟨r, ps9, out9, rfl, hok, hrc, hpl, hout, hb9⟩; have hone : r.pv.oneCell' = true := (by obtain ⟨_, _, _, e⟩ := hpl.form; rw [e]; rfl); have HSr := hid hok.sl; have HOUT := hid hout.sl; have HPL := hid hpl.1; have HRC := hid hrc; replace HXW := hid (below_on HXW.out hb9); clear hpl hout hrc hb9 HBM HCM HRUN)
    | ((with_reducible refine wpList_allocR rfl rfl ?_); intro w10 g10 hz10 hb10 hg10; have HZ10 := hid hz10; have HB10 := hid hb10; clear hz10 hb10)
    | ((with_reducible refine wpList_storeR rfl rfl _ _ rfl g10 ?_ (r := r) ?_ zR_ok hok hone HZ10.out ?_); exact rfl; exact rfl; intro w11 h11 o11; have hb11 := below_tr HB10.out (o11.below HB10.out.size (fun i e => by omega)); have HR11 := hid h11; replace HXW := hid (below_on HXW.out hb11); replace HOUT := hid (HOUT.out.below hb11); replace HPL := hid (HPL.out.below hb11); clear h11 o11 hb11 HZ10 HB10)
    | ((with_reducible refine wpList_load_at 45 _ rfl ?_ g10 0 ?_ r.cs (.struct (Try.prog.fieldsOf 45)) ?_ underRec rfl ?_ ?_); exact rfl; exact rfl; exact HR11.out.at_.whole; (rw [Rv.size_of HSr.out]; exact sizeR))
    | ((with_reducible refine wpList_load_at 45 _ rfl ?_ ga 0 ?_ ra.cs (.struct (Try.prog.fieldsOf 45)) ?_ underRec rfl ?_ ?_); exact rfl; exact rfl; exact (HT.out.on HXW.out).ca.whole; (rw [Rv.size_of HSra.out]; exact sizeR))
    | (go_at_call 26; (with_reducible refine (same_any r ra hok HKA.out ps9 ps _ HPL.out (HPA.out.below (below_on HT.out.below HXW.out))).mono ?_); rintro e w12 ⟨rfl, hb12⟩; rw [show decide (r.rc ps9 = ra.rc ps) = true from decide_eq_true HRC.out]; replace HXW := hid (below_on HXW.out hb12); replace HOUT := hid (HOUT.out.below hb12); clear hb12 HR11 HPL)
    | (go_at_call 11; (with_reducible refine (sameB_true (x := bs) HOUT.out (HSL.out.below (below_on HT.out.below HXW.out)) H8.out).mono ?_); rintro e w13 ⟨rfl, hw13⟩; have hw14 := hw13.symm; subst hw14; clear hw13 HOUT))
  clear HM HML HM8 HRM HBL HSL H8 HN0 HPN hl'
  have HRB : Hid (∀ i W, i < X.length → Below wX.heap.size wX W → Calls Try.prog 30 #[.slice px i X.length] W fun e w' => e = .returned (.tuple #[.agg Z.cs, .slice none 0 0, i64 4]) ∧ Below W.heap.size W w') := hid (fun i W hi hb => by
    have := read_bad px X.length (X.take i) W ((HXB.out.below hb).take i) (by rw [List.length_take]; omega) (by rw [List.length_take]; omega) (fun z hz => HX8.out z (List.mem_of_mem_take hz)) (HLESS.out i hi)
    rw [List.length_take, Nat.min_eq_left (by omega), HZZ.out] at this
    exact this)
  go_wp2_with fail
  go_loopw [13] (fun iv wr => ∃ i : Nat, i ≤ X.length ∧ iv = i64 i ∧ Below wX.heap.size wX wr) (fun iv _ => (X.length - intOf iv).toNat)
  case atStart => exact ⟨0, by omega, rfl, HXW.out⟩
  case round =>
    obtain ⟨i, hi, rfl, hbw⟩ := hrel
    clear HXW
    have HXW := hid hbw
    clear hbw
    by_cases hlt : i < X.length
    · have hlt' : (i : Int) < (X.length : Int) := by omega
      have hwr : IntKind.i64.wrap ((i : Int) + 1) = ((i + 1 : Nat) : Int) := by rw [IntKind.wrap_i64]; omega
      have hs1 := run_h8 px X.length X.length i (by omega)
      go_wp2_with (first
        | (go_at_call 30; (with_reducible refine (HRB.out i _ hlt HXW.out).mono ?_); rintro e w15 ⟨rfl, hb15⟩; replace HXW := hid (below_on HXW.out hb15); clear hb15)
        | ((with_reducible refine wpList_allocR rfl rfl ?_); intro w16 g16 hz16 hb16 hg16; have HZ16 := hid hz16; have HB16 := hid hb16; clear hz16 hb16)
        | ((with_reducible refine wpList_storeR rfl rfl _ _ rfl g16 ?_ (r := Z) ?_ zR_ok zok zone HZ16.out ?_); exact rfl; exact rfl; intro w17 h17 o17; replace HXW := hid (below_on HXW.out (below_tr HB16.out (o17.below HB16.out.size (fun i e => by omega)))); clear h17 o17 HZ16 HB16))
      refine ⟨⟨i + 1, by omega, rfl, HXW.out⟩, ?_⟩
      simp [intOf]; omega
    · have hlt' : ¬ (i : Int) < (X.length : Int) := by omega
      clear HRB HLESS
      go_wp2_with (first
        | ((with_reducible refine wpList_load_at 45 _ rfl ?_ gb 0 ?_ rb.cs (.struct (Try.prog.fieldsOf 45)) ?_ underRec rfl ?_ ?_); exact rfl; exact rfl; exact (HT.out.on HXW.out).cb.whole; (rw [Rv.size_of HSrb.out]; exact sizeR))
        | ((with_reducible refine wpList_load_at 45 _ rfl ?_ ga 0 ?_ ra.cs (.struct (Try.prog.fieldsOf 45)) ?_ underRec rfl ?_ ?_); exact rfl; exact rfl; exact (HT.out.on HXW.out).ca.whole; (rw [Rv.size_of HSra.out]; exact sizeR))
        | (go_at_call 24; (with_reducible refine (HBC.out _ (below_on HT.out.below HXW.out)).mono ?_); rintro e w18 ⟨v18, rfl, ho18, hb18⟩; replace HXW := hid (below_on HXW.out hb18); obtain ⟨py, hpy, hby, _⟩ := ho18.form; subst hpy; have hs2 := run_h8 py Y.length Y.length X.length hle; have HYT : Hid (SL w18 (.slice py X.length Y.length) X) := hid ⟨py, Y.length, rfl, HTK.out ▸ hby.take X.length, hle⟩; clear hb18 ho18 hby)
        | (go_at_call 11; (with_reducible refine (sameB_true (x := X) HYT.out (HXS.out.below HXW.out) HX8.out).mono ?_); rintro e w19 ⟨rfl, hw19⟩; have hw20 := hw19.symm; subst hw20; clear hw19)
        | (go_at_call 26; (with_reducible refine (same_any ra rb HKA.out HKB.out ps qs _ (HPA.out.below (below_on HT.out.below HXW.out)) (HPB.out.below (below_on HT.out.below HXW.out))).mono ?_); rintro e w21 ⟨rfl, hb21⟩; rw [HSM.out]; replace HXW := hid (below_on HXW.out hb21); clear hb21))
      go_ret
      exact ⟨rfl, below_on HT.out.below HXW.out⟩
set_option maxRecDepth 100000 in
set_option maxHeartbeats 1000000 in
theorem back_short (ra rb : Rv) (ka : ra.ok) (kb : rb.ok) (ps qs : Ps) (b : Option Addr) (cap : Nat) (bs : List Nat) (w : World) (pla : PL w ra.pv ps) (plb : PL w rb.pv qs) (bA : bigR ra ps.length = false) (bB : bigR rb qs.length = false) (hl : bs.length ≤ 200) (h : BL w b bs) (hc : bs.length ≤ cap) (hn0 : b = none → cap = 0) (h8 : ∀ x ∈ bs, x < 256) (oA : okRc (ra.rc ps) = true) (oC : okRc (rb.rc qs) = true) (ne : ra.rc ps ≠ rb.rc qs) (sh : (rcB (rb.rc qs)).length < (rcB (ra.rc ps)).length) : Calls Try.prog 5 #[.agg ra.cs, .agg rb.cs, .slice b bs.length cap] w fun e w' => e = .returned (.bool true) ∧ Below w.heap.size w w' := by
  have hl' : ¬ 200 < (bs.length : Int) := by omega
  have HSra := hid ka.sl
  have HSrb := hid kb.sl
  have HLa : Hid (∀ W, Calls Try.prog 21 #[.agg ra.cs] W fun e w' => e = .returned (.bool false) ∧ Below W.heap.size W w') := hid (fun W => by obtain ⟨p, c, e, _⟩ := pla; have := large_any ra ka.sl p ps.length c e W; rw [bA] at this; exact this)
  have HLb : Hid (∀ W, Calls Try.prog 21 #[.agg rb.cs] W fun e w' => e = .returned (.bool false) ∧ Below W.heap.size W w') := hid (fun W => by obtain ⟨p, c, e, _⟩ := plb; have := large_any rb kb.sl p qs.length c e W; rw [bB] at this; exact this)
  have T1 : Hid True := hid trivial
  have T2 : Hid True := hid trivial
  obtain ⟨X, hX⟩ : ∃ X, rcB (ra.rc ps) = X := ⟨_, rfl⟩
  obtain ⟨M, hM⟩ : ∃ M, X ++ bs = M := ⟨_, rfl⟩
  have hX8 : ∀ z ∈ X, z < 256 := hX ▸ rcB_byte ra ka ps
  have hXl : X.length ≤ 5000 := hX ▸ rcB_len ra ka ps oA
  have HX8 := hid hX8
  have HBA : Hid (∀ W, Below w.heap.size w W → Calls Try.prog 24 #[.agg ra.cs] W (OutE W X 0)) := hid (fun W hb => by have := bytes_ok ra ka ps W (pla.below hb) oA; rw [hX] at this; exact this)
  have HRM : Hid (rdR M = some (ra.rc ps, bs)) := hid (by rw [← hM, ← hX]; exact rdR_rcB bs oA)
  have HM8 : Hid (∀ z ∈ M, z < 256) := hid (hM ▸ all256 hX8 h8)
  have HML : Hid (M.length ≤ 100000) := hid (by rw [← hM, List.length_append]; omega)
  have HM := hid hM
  have HLESS : Hid (∀ i, i < X.length → rdR (X.take i) = none) := hid (fun i hi => by subst hX; exact rdR_less oA hX8 hi)
  have HBL := hid h
  have HSL : Hid (SL w (.slice b bs.length cap) bs) := hid ⟨b, cap, rfl, h, hc⟩
  have H8 := hid h8
  have HN0 := hid hn0
  have HPA := hid pla
  have HPB := hid plb
  have HKA := hid ka
  have HKB := hid kb
  obtain ⟨Z, hZ⟩ : ∃ Z, zR = Z := ⟨_, rfl⟩
  have zok : Z.ok := hZ ▸ zR_ok
  have zone : Z.pv.oneCell' = true := hZ ▸ rfl
  have HZZ := hid hZ
  obtain ⟨Y, hY⟩ : ∃ Y, rcB (rb.rc qs) = Y := ⟨_, rfl⟩
  have HBC : Hid (∀ W, Below w.heap.size w W → Calls Try.prog 24 #[.agg rb.cs] W (OutE W Y 0)) := hid (fun W hb => by have := bytes_ok rb kb qs W (plb.below hb) oC; rw [hY] at this; exact this)
  have hY8 : ∀ z ∈ Y, z < 256 := hY ▸ rcB_byte rb kb qs
  have HY8 := hid hY8
  have hge' : ¬ (X.length : Int) ≤ (Y.length : Int) := by rw [hX, hY] at sh; omega
  have HSM := hid (show decide (ra.rc ps = rb.rc qs) = false from decide_eq_false ne)
  clear sh ne
  clear hY hY8
  clear ka kb pla plb bA bB h h8 hn0 oA oC hX hM hX8 hZ
  go_enter Try.func5, Try.ntmps5
  go_upto_region 10 with (first
    | (clear T1; (with_reducible refine wpList_boxR rfl _ rfl ra.cs ?_ ?_); exact rfl; intro w1 ga hc1 hb1 hg1; have HC1 := hid hc1; have HB1 := hid hb1; clear hc1 hb1)
    | (clear T2; (with_reducible refine wpList_boxR rfl _ rfl rb.cs ?_ ?_); exact rfl; intro w2 gb hc2 hb2 hg2; have HT : Hid (Two w w2 ga gb ra rb) := hid ⟨below_on HB1.out hb2, HC1.out.below hb2, hc2⟩; clear hc2 hb2 HC1 HB1)
    | (go_at_call 32; (with_reducible refine (awake_any _).mono ?_); rintro e w3 ⟨rfl, hb3⟩; replace HT := hid (HT.out.on hb3); clear hb3)
    | ((with_reducible refine wpList_load_at 45 _ rfl ?_ ga 0 ?_ ra.cs (.struct (Try.prog.fieldsOf 45)) ?_ underRec rfl ?_ ?_); exact rfl; exact rfl; exact HT.out.ca.whole; (rw [Rv.size_of HSra.out]; exact sizeR))
    | ((with_reducible refine wpList_load_at 45 _ rfl ?_ gb 0 ?_ rb.cs (.struct (Try.prog.fieldsOf 45)) ?_ underRec rfl ?_ ?_); exact rfl; exact rfl; exact HT.out.cb.whole; (rw [Rv.size_of HSrb.out]; exact sizeR))
    | (go_at_call 21; (with_reducible refine (HLa.out _).mono ?_); rintro e w4 ⟨rfl, hb4⟩; replace HT := hid (HT.out.on hb4); clear hb4 HLa)
    | (go_at_call 21; (with_reducible refine (HLb.out _).mono ?_); rintro e w5 ⟨rfl, hb5⟩; replace HT := hid (HT.out.on hb5); clear hb5 HLb)
    | (go_at_call 24; (with_reducible refine (HBA.out _ HT.out.below).mono ?_); rintro e wX ⟨v6, rfl, ho6, hb6⟩; replace HT := hid (HT.out.on hb6); have HXS := hid ho6.sl; obtain ⟨px, hpx, hbx, hpn⟩ := ho6.form; subst hpx; have HXB := hid hbx; have HPN := hid hpn; have HXW := hid (Below.refl wX.heap.size wX); clear hb6 ho6 hbx hpn HBA)
    | (go_at_call 33; (with_reducible refine (copyB_any (x := X) HXS.out ?_ ?_).mono ?_); omega; (intro n c e; cases e; exact HPN.out rfl); rintro e w7 ⟨v7, rfl, hb7, hw7⟩; obtain ⟨v8, w8, hrun, hb8, hg8⟩ := hb7.app b cap bs (HBL.out.below (below_on HT.out.below hw7)) HN0.out (by omega) hw7.size; have HRUN := hid hrun; replace HXW := hid (below_grown hw7 hg8 (Nat.le_refl _) (fun b hb => (own_ge hb7 b hb).1)); rw [HM.out] at hb8; obtain ⟨pM, cM, hvM, hblM, hcM⟩ := hb8.sl; subst hvM; have HBM := hid hblM; have HCM := hid hcM; clear hb7 hw7 hrun hb8 hg8 hblM hcM)
    | (at_builtin; refine wpList_append_run _ _ 22 22 rfl rfl _ _ _ rfl rfl HRUN.out ?_)
    | (go_at_call 30; (with_reducible refine (read_ok pM cM M w8 HBM.out HCM.out HML.out HM8.out HRM.out).mono ?_); rintro e w9 ⟨r, ps9, out9, rfl, hok, hrc, hpl, hout, hb9⟩; have hone : r.pv.oneCell' = true := (by obtain ⟨_, _, _, e⟩ := hpl.form; rw [e]; rfl); have HSr := hid hok.sl; have HOUT := hid hout.sl; have HPL := hid hpl.1; have HRC := hid hrc; replace HXW := hid (below_on HXW.out hb9); clear hpl hout hrc hb9 HBM HCM HRUN)
    | ((with_reducible refine wpList_allocR rfl rfl ?_); intro w10 g10 hz10 hb10 hg10; have HZ10 := hid hz10; have HB10 := hid hb10; clear hz10 hb10)
    | ((with_reducible refine wpList_storeR rfl rfl _ _ rfl g10 ?_ (r := r) ?_ zR_ok hok hone HZ10.out ?_); exact rfl; exact rfl; intro w11 h11 o11; have hb11 := below_tr HB10.out (o11.below HB10.out.size (fun i e => by omega)); have HR11 := hid h11; replace HXW := hid (below_on HXW.out hb11); replace HOUT := hid (HOUT.out.below hb11); replace HPL := hid (HPL.out.below hb11); clear h11 o11 hb11 HZ10 HB10)
    | ((with_reducible refine wpList_load_at 45 _ rfl ?_ g10 0 ?_ r.cs (.struct (Try.prog.fieldsOf 45)) ?_ underRec rfl ?_ ?_); exact rfl; exact rfl; exact HR11.out.at_.whole; (rw [Rv.size_of HSr.out]; exact sizeR))
    | ((with_reducible refine wpList_load_at 45 _ rfl ?_ ga 0 ?_ ra.cs (.struct (Try.prog.fieldsOf 45)) ?_ underRec rfl ?_ ?_); exact rfl; exact rfl; exact (HT.out.on HXW.out).ca.whole; (rw [Rv.size_of HSra.out]; exact sizeR))
    | (go_at_call 26; (with_reducible refine (same_any r ra hok HKA.out ps9 ps _ HPL.out (HPA.out.below (below_on HT.out.below HXW.out))).mono ?_); rintro e w12 ⟨rfl, hb12⟩; rw [show decide (r.rc ps9 = ra.rc ps) = true from decide_eq_true HRC.out]; replace HXW := hid (below_on HXW.out hb12); replace HOUT := hid (HOUT.out.below hb12); clear hb12 HR11 HPL)
    | (go_at_call 11; (with_reducible refine (sameB_true (x := bs) HOUT.out (HSL.out.below (below_on HT.out.below HXW.out)) H8.out).mono ?_); rintro e w13 ⟨rfl, hw13⟩; have hw14 := hw13.symm; subst hw14; clear hw13 HOUT))
  clear HM HML HM8 HRM HBL HSL H8 HN0 HPN hl'
  have HRB : Hid (∀ i W, i < X.length → Below wX.heap.size wX W → Calls Try.prog 30 #[.slice px i X.length] W fun e w' => e = .returned (.tuple #[.agg Z.cs, .slice none 0 0, i64 4]) ∧ Below W.heap.size W w') := hid (fun i W hi hb => by
    have := read_bad px X.length (X.take i) W ((HXB.out.below hb).take i) (by rw [List.length_take]; omega) (by rw [List.length_take]; omega) (fun z hz => HX8.out z (List.mem_of_mem_take hz)) (HLESS.out i hi)
    rw [List.length_take, Nat.min_eq_left (by omega), HZZ.out] at this
    exact this)
  go_wp2_with fail
  go_loopw [13] (fun iv wr => ∃ i : Nat, i ≤ X.length ∧ iv = i64 i ∧ Below wX.heap.size wX wr) (fun iv _ => (X.length - intOf iv).toNat)
  case atStart => exact ⟨0, by omega, rfl, HXW.out⟩
  case round =>
    obtain ⟨i, hi, rfl, hbw⟩ := hrel
    clear HXW
    have HXW := hid hbw
    clear hbw
    by_cases hlt : i < X.length
    · have hlt' : (i : Int) < (X.length : Int) := by omega
      have hwr : IntKind.i64.wrap ((i : Int) + 1) = ((i + 1 : Nat) : Int) := by rw [IntKind.wrap_i64]; omega
      have hs1 := run_h8 px X.length X.length i (by omega)
      go_wp2_with (first
        | (go_at_call 30; (with_reducible refine (HRB.out i _ hlt HXW.out).mono ?_); rintro e w15 ⟨rfl, hb15⟩; replace HXW := hid (below_on HXW.out hb15); clear hb15)
        | ((with_reducible refine wpList_allocR rfl rfl ?_); intro w16 g16 hz16 hb16 hg16; have HZ16 := hid hz16; have HB16 := hid hb16; clear hz16 hb16)
        | ((with_reducible refine wpList_storeR rfl rfl _ _ rfl g16 ?_ (r := Z) ?_ zR_ok zok zone HZ16.out ?_); exact rfl; exact rfl; intro w17 h17 o17; replace HXW := hid (below_on HXW.out (below_tr HB16.out (o17.below HB16.out.size (fun i e => by omega)))); clear h17 o17 HZ16 HB16))
      refine ⟨⟨i + 1, by omega, rfl, HXW.out⟩, ?_⟩
      simp [intOf]; omega
    · have hlt' : ¬ (i : Int) < (X.length : Int) := by omega
      clear HRB HLESS
      go_wp2_with (first
        | ((with_reducible refine wpList_load_at 45 _ rfl ?_ gb 0 ?_ rb.cs (.struct (Try.prog.fieldsOf 45)) ?_ underRec rfl ?_ ?_); exact rfl; exact rfl; exact (HT.out.on HXW.out).cb.whole; (rw [Rv.size_of HSrb.out]; exact sizeR))
        | ((with_reducible refine wpList_load_at 45 _ rfl ?_ ga 0 ?_ ra.cs (.struct (Try.prog.fieldsOf 45)) ?_ underRec rfl ?_ ?_); exact rfl; exact rfl; exact (HT.out.on HXW.out).ca.whole; (rw [Rv.size_of HSra.out]; exact sizeR))
        | (go_at_call 24; (with_reducible refine (HBC.out _ (below_on HT.out.below HXW.out)).mono ?_); rintro e w18 ⟨v18, rfl, ho18, hb18⟩; replace HXW := hid (below_on HXW.out hb18); obtain ⟨py, hpy, hby, _⟩ := ho18.form; subst hpy; clear hb18 ho18 hby)
        | (go_at_call 26; (with_reducible refine (same_any ra rb HKA.out HKB.out ps qs _ (HPA.out.below (below_on HT.out.below HXW.out)) (HPB.out.below (below_on HT.out.below HXW.out))).mono ?_); rintro e w21 ⟨rfl, hb21⟩; rw [HSM.out]; replace HXW := hid (below_on HXW.out hb21); clear hb21))
      go_ret
      exact ⟨rfl, below_on HT.out.below HXW.out⟩
set_option maxRecDepth 100000 in
set_option maxHeartbeats 1000000 in
theorem back_unlike (ra rb : Rv) (ka : ra.ok) (kb : rb.ok) (ps qs : Ps) (b : Option Addr) (cap : Nat) (bs : List Nat) (w : World) (pla : PL w ra.pv ps) (plb : PL w rb.pv qs) (bA : bigR ra ps.length = false) (bB : bigR rb qs.length = false) (hl : bs.length ≤ 200) (h : BL w b bs) (hc : bs.length ≤ cap) (hn0 : b = none → cap = 0) (h8 : ∀ x ∈ bs, x < 256) (oA : okRc (ra.rc ps) = true) (oC : okRc (rb.rc qs) = true) (ne : ra.rc ps ≠ rb.rc qs) (sh : (rcB (ra.rc ps)).length ≤ (rcB (rb.rc qs)).length) : Calls Try.prog 5 #[.agg ra.cs, .agg rb.cs, .slice b bs.length cap] w fun e w' => e = .returned (.bool true) ∧ Below w.heap.size w w' := by
  have hl' : ¬ 200 < (bs.length : Int) := by omega
  have HSra := hid ka.sl
  have HSrb := hid kb.sl
  have HLa : Hid (∀ W, Calls Try.prog 21 #[.agg ra.cs] W fun e w' => e = .returned (.bool false) ∧ Below W.heap.size W w') := hid (fun W => by obtain ⟨p, c, e, _⟩ := pla; have := large_any ra ka.sl p ps.length c e W; rw [bA] at this; exact this)
  have HLb : Hid (∀ W, Calls Try.prog 21 #[.agg rb.cs] W fun e w' => e = .returned (.bool false) ∧ Below W.heap.size W w') := hid (fun W => by obtain ⟨p, c, e, _⟩ := plb; have := large_any rb kb.sl p qs.length c e W; rw [bB] at this; exact this)
  have T1 : Hid True := hid trivial
  have T2 : Hid True := hid trivial
  obtain ⟨X, hX⟩ : ∃ X, rcB (ra.rc ps) = X := ⟨_, rfl⟩
  obtain ⟨M, hM⟩ : ∃ M, X ++ bs = M := ⟨_, rfl⟩
  have hX8 : ∀ z ∈ X, z < 256 := hX ▸ rcB_byte ra ka ps
  have hXl : X.length ≤ 5000 := hX ▸ rcB_len ra ka ps oA
  have HX8 := hid hX8
  have HBA : Hid (∀ W, Below w.heap.size w W → Calls Try.prog 24 #[.agg ra.cs] W (OutE W X 0)) := hid (fun W hb => by have := bytes_ok ra ka ps W (pla.below hb) oA; rw [hX] at this; exact this)
  have HRM : Hid (rdR M = some (ra.rc ps, bs)) := hid (by rw [← hM, ← hX]; exact rdR_rcB bs oA)
  have HM8 : Hid (∀ z ∈ M, z < 256) := hid (hM ▸ all256 hX8 h8)
  have HML : Hid (M.length ≤ 100000) := hid (by rw [← hM, List.length_append]; omega)
  have HM := hid hM
  have HLESS : Hid (∀ i, i < X.length → rdR (X.take i) = none) := hid (fun i hi => by subst hX; exact rdR_less oA hX8 hi)
  have HBL := hid h
  have HSL : Hid (SL w (.slice b bs.length cap) bs) := hid ⟨b, cap, rfl, h, hc⟩
  have H8 := hid h8
  have HN0 := hid hn0
  have HPA := hid pla
  have HPB := hid plb
  have HKA := hid ka
  have HKB := hid kb
  obtain ⟨Z, hZ⟩ : ∃ Z, zR = Z := ⟨_, rfl⟩
  have zok : Z.ok := hZ ▸ zR_ok
  have zone : Z.pv.oneCell' = true := hZ ▸ rfl
  have HZZ := hid hZ
  obtain ⟨Y, hY⟩ : ∃ Y, rcB (rb.rc qs) = Y := ⟨_, rfl⟩
  have HBC : Hid (∀ W, Below w.heap.size w W → Calls Try.prog 24 #[.agg rb.cs] W (OutE W Y 0)) := hid (fun W hb => by have := bytes_ok rb kb qs W (plb.below hb) oC; rw [hY] at this; exact this)
  have hY8 : ∀ z ∈ Y, z < 256 := hY ▸ rcB_byte rb kb qs
  have HY8 := hid hY8
  have hle : X.length ≤ Y.length := by rw [hX, hY] at sh; exact sh
  have hge' : (X.length : Int) ≤ (Y.length : Int) := by omega
  have HTK : Hid (Y.take X.length ≠ X) := hid (fun e => ne (rcB_pre oA oC (t := Y.drop X.length) (by rw [hX, hY]; conv => lhs; rw [← List.take_append_drop X.length Y, e])).1)
  have HSM := hid (show decide (ra.rc ps = rb.rc qs) = false from decide_eq_false ne)
  clear sh ne
  clear hY hY8
  clear ka kb pla plb bA bB h h8 hn0 oA oC hX hM hX8 hZ
  go_enter Try.func5, Try.ntmps5
  go_upto_region 10 with (first
    | (clear T1; (with_reducible refine wpList_boxR rfl _ rfl ra.cs ?_ ?_); exact rfl; intro w1 ga hc1 hb1 hg1; have HC1 := hid hc1; have HB1 := hid hb1; clear hc1 hb1)
    | (clear T2; (with_reducible refine wpList_boxR rfl _ rfl rb.cs ?_ ?_); exact rfl; intro w2 gb hc2 hb2 hg2; have HT : Hid (Two w w2 ga gb ra rb) := hid ⟨below_on HB1.out hb2, HC1.out.below hb2, hc2⟩; clear hc2 hb2 HC1 HB1)
    | (go_at_call 32; (with_reducible refine (awake_any _).mono ?_); rintro e w3 ⟨rfl, hb3⟩; replace HT := hid (HT.out.on hb3); clear hb3)
    | ((with_reducible refine wpList_load_at 45 _ rfl ?_ ga 0 ?_ ra.cs (.struct (Try.prog.fieldsOf 45)) ?_ underRec rfl ?_ ?_); exact rfl; exact rfl; exact HT.out.ca.whole; (rw [Rv.size_of HSra.out]; exact sizeR))
    | ((with_reducible refine wpList_load_at 45 _ rfl ?_ gb 0 ?_ rb.cs (.struct (Try.prog.fieldsOf 45)) ?_ underRec rfl ?_ ?_); exact rfl; exact rfl; exact HT.out.cb.whole; (rw [Rv.size_of HSrb.out]; exact sizeR))
    | (go_at_call 21; (with_reducible refine (HLa.out _).mono ?_); rintro e w4 ⟨rfl, hb4⟩; replace HT := hid (HT.out.on hb4); clear hb4 HLa)
    | (go_at_call 21; (with_reducible refine (HLb.out _).mono ?_); rintro e w5 ⟨rfl, hb5⟩; replace HT := hid (HT.out.on hb5); clear hb5 HLb)
    | (go_at_call 24; (with_reducible refine (HBA.out _ HT.out.below).mono ?_); rintro e wX ⟨v6, rfl, ho6, hb6⟩; replace HT := hid (HT.out.on hb6); have HXS := hid ho6.sl; obtain ⟨px, hpx, hbx, hpn⟩ := ho6.form; subst hpx; have HXB := hid hbx; have HPN := hid hpn; have HXW := hid (Below.refl wX.heap.size wX); clear hb6 ho6 hbx hpn HBA)
    | (go_at_call 33; (with_reducible refine (copyB_any (x := X) HXS.out ?_ ?_).mono ?_); omega; (intro n c e; cases e; exact HPN.out rfl); rintro e w7 ⟨v7, rfl, hb7, hw7⟩; obtain ⟨v8, w8, hrun, hb8, hg8⟩ := hb7.app b cap bs (HBL.out.below (below_on HT.out.below hw7)) HN0.out (by omega) hw7.size; have HRUN := hid hrun; replace HXW := hid (below_grown hw7 hg8 (Nat.le_refl _) (fun b hb => (own_ge hb7 b hb).1)); rw [HM.out] at hb8; obtain ⟨pM, cM, hvM, hblM, hcM⟩ := hb8.sl; subst hvM; have HBM := hid hblM; have HCM := hid hcM; clear hb7 hw7 hrun hb8 hg8 hblM hcM)
    | (at_builtin; refine wpList_append_run _ _ 22 22 rfl rfl _ _ _ rfl rfl HRUN.out ?_)
    | (go_at_call 30; (with_reducible refine (read_ok pM cM M w8 HBM.out HCM.out HML.out HM8.out HRM.out).mono ?_); rintro e w9 ⟨r, ps9, out9, rfl, hok, hrc, hpl, hout, hb9⟩; have hone : r.pv.oneCell' = true := (by obtain ⟨_, _, _, e⟩ := hpl.form; rw [e]; rfl); have HSr := hid hok.sl; have HOUT := hid hout.sl; have HPL := hid hpl.1; have HRC := hid hrc; replace HXW := hid (below_on HXW.out hb9); clear hpl hout hrc hb9 HBM HCM HRUN)
    | ((with_reducible refine wpList_allocR rfl rfl ?_); intro w10 g10 hz10 hb10 hg10; have HZ10 := hid hz10; have HB10 := hid hb10; clear hz10 hb10)
    | ((with_reducible refine wpList_storeR rfl rfl _ _ rfl g10 ?_ (r := r) ?_ zR_ok hok hone HZ10.out ?_); exact rfl; exact rfl; intro w11 h11 o11; have hb11 := below_tr HB10.out (o11.below HB10.out.size (fun i e => by omega)); have HR11 := hid h11; replace HXW := hid (below_on HXW.out hb11); replace HOUT := hid (HOUT.out.below hb11); replace HPL := hid (HPL.out.below hb11); clear h11 o11 hb11 HZ10 HB10)
    | ((with_reducible refine wpList_load_at 45 _ rfl ?_ g10 0 ?_ r.cs (.struct (Try.prog.fieldsOf 45)) ?_ underRec rfl ?_ ?_); exact rfl; exact rfl; exact HR11.out.at_.whole; (rw [Rv.size_of HSr.out]; exact sizeR))
    | ((with_reducible refine wpList_load_at 45 _ rfl ?_ ga 0 ?_ ra.cs (.struct (Try.prog.fieldsOf 45)) ?_ underRec rfl ?_ ?_); exact rfl; exact rfl; exact (HT.out.on HXW.out).ca.whole; (rw [Rv.size_of HSra.out]; exact sizeR))
    | (go_at_call 26; (with_reducible refine (same_any r ra hok HKA.out ps9 ps _ HPL.out (HPA.out.below (below_on HT.out.below HXW.out))).mono ?_); rintro e w12 ⟨rfl, hb12⟩; rw [show decide (r.rc ps9 = ra.rc ps) = true from decide_eq_true HRC.out]; replace HXW := hid (below_on HXW.out hb12); replace HOUT := hid (HOUT.out.below hb12); clear hb12 HR11 HPL)
    | (go_at_call 11; (with_reducible refine (sameB_true (x := bs) HOUT.out (HSL.out.below (below_on HT.out.below HXW.out)) H8.out).mono ?_); rintro e w13 ⟨rfl, hw13⟩; have hw14 := hw13.symm; subst hw14; clear hw13 HOUT))
  clear HM HML HM8 HRM HBL HSL H8 HN0 HPN hl'
  have HRB : Hid (∀ i W, i < X.length → Below wX.heap.size wX W → Calls Try.prog 30 #[.slice px i X.length] W fun e w' => e = .returned (.tuple #[.agg Z.cs, .slice none 0 0, i64 4]) ∧ Below W.heap.size W w') := hid (fun i W hi hb => by
    have := read_bad px X.length (X.take i) W ((HXB.out.below hb).take i) (by rw [List.length_take]; omega) (by rw [List.length_take]; omega) (fun z hz => HX8.out z (List.mem_of_mem_take hz)) (HLESS.out i hi)
    rw [List.length_take, Nat.min_eq_left (by omega), HZZ.out] at this
    exact this)
  go_wp2_with fail
  go_loopw [13] (fun iv wr => ∃ i : Nat, i ≤ X.length ∧ iv = i64 i ∧ Below wX.heap.size wX wr) (fun iv _ => (X.length - intOf iv).toNat)
  case atStart => exact ⟨0, by omega, rfl, HXW.out⟩
  case round =>
    obtain ⟨i, hi, rfl, hbw⟩ := hrel
    clear HXW
    have HXW := hid hbw
    clear hbw
    by_cases hlt : i < X.length
    · have hlt' : (i : Int) < (X.length : Int) := by omega
      have hwr : IntKind.i64.wrap ((i : Int) + 1) = ((i + 1 : Nat) : Int) := by rw [IntKind.wrap_i64]; omega
      have hs1 := run_h8 px X.length X.length i (by omega)
      go_wp2_with (first
        | (go_at_call 30; (with_reducible refine (HRB.out i _ hlt HXW.out).mono ?_); rintro e w15 ⟨rfl, hb15⟩; replace HXW := hid (below_on HXW.out hb15); clear hb15)
        | ((with_reducible refine wpList_allocR rfl rfl ?_); intro w16 g16 hz16 hb16 hg16; have HZ16 := hid hz16; have HB16 := hid hb16; clear hz16 hb16)
        | ((with_reducible refine wpList_storeR rfl rfl _ _ rfl g16 ?_ (r := Z) ?_ zR_ok zok zone HZ16.out ?_); exact rfl; exact rfl; intro w17 h17 o17; replace HXW := hid (below_on HXW.out (below_tr HB16.out (o17.below HB16.out.size (fun i e => by omega)))); clear h17 o17 HZ16 HB16))
      refine ⟨⟨i + 1, by omega, rfl, HXW.out⟩, ?_⟩
      simp [intOf]; omega
    · have hlt' : ¬ (i : Int) < (X.length : Int) := by omega
      clear HRB HLESS
      go_wp2_with (first
        | ((with_reducible refine wpList_load_at 45 _ rfl ?_ gb 0 ?_ rb.cs (.struct (Try.prog.fieldsOf 45)) ?_ underRec rfl ?_ ?_); exact rfl; exact rfl; exact (HT.out.on HXW.out).cb.whole; (rw [Rv.size_of HSrb.out]; exact sizeR))
        | ((with_reducible refine wpList_load_at 45 _ rfl ?_ ga 0 ?_ ra.cs (.struct (Try.prog.fieldsOf 45)) ?_ underRec rfl ?_ ?_); exact rfl; exact rfl; exact (HT.out.on HXW.out).ca.whole; (rw [Rv.size_of HSra.out]; exact sizeR))
        | (go_at_call 24; (with_reducible refine (HBC.out _ (below_on HT.out.below HXW.out)).mono ?_); rintro e w18 ⟨v18, rfl, ho18, hb18⟩; replace HXW := hid (below_on HXW.out hb18); obtain ⟨py, hpy, hby, _⟩ := ho18.form; subst hpy; have hs2 := run_h8 py Y.length Y.length X.length hle; have HYT : Hid (SL w18 (.slice py X.length Y.length) (Y.take X.length)) := hid ⟨py, Y.length, by rw [List.length_take, Nat.min_eq_left hle], hby.take X.length, by rw [List.length_take]; omega⟩; clear hb18 ho18 hby)
        | (go_at_call 11; (with_reducible refine (sameB_any (x := Y.take X.length) (y := X) HYT.out (HXS.out.below HXW.out) (fun z hz => HY8.out z (List.mem_of_mem_take hz)) HX8.out).mono ?_); rintro e w19 ⟨rfl, hw19⟩; rw [show decide (Y.take X.length = X) = false from decide_eq_false HTK.out]; have hw20 := hw19.symm; subst hw20; clear hw19)
        | (go_at_call 26; (with_reducible refine (same_any ra rb HKA.out HKB.out ps qs _ (HPA.out.below (below_on HT.out.below HXW.out)) (HPB.out.below (below_on HT.out.below HXW.out))).mono ?_); rintro e w21 ⟨rfl, hb21⟩; rw [HSM.out]; replace HXW := hid (below_on HXW.out hb21); clear hb21))
      go_ret
      exact ⟨rfl, below_on HT.out.below HXW.out⟩
end Go.Proofs.Ytepkpkbgmchioaa
