/- Texts laid into one, cut to what is needed: the remark ahead of each part says what is proved there. -/
import Derived.Test.YtelkijiphhoacaaGreatDoorMba
import Derived.Test.YtelkijiphhoacaaGreatDoorMak
import Derived.Test.YtelkijiphhoacaaGreatDoorMax
import Derived.Test.YtelkijiphhoacaaGreatDoorMar
/- The document's Read of a record: where the parts lie, and where the rest lies. -/
namespace Go.Proofs.YtelkijiphhoacaaGreatDoor
open Go Go.RowKit

def ReN (po : Option Addr) (w : World) (q : Option (Rc × List Nat)) (e : Ending) (w' : World) : Prop := Below w.heap.size w w' ∧ match q with
  | none => e = .returned (.tuple #[.agg zR.cs, .slice none 0 0, .bool false])
  | some (rc, L) => ∃ (r : Rv) (ps : Ps) (v : Value), e = .returned (.tuple #[.agg r.cs, v, .bool true]) ∧ r.ok ∧ r.rc ps = rc ∧ PLF w.heap.size w' r.pv ps ∧ SLn po w' v L
set_option maxRecDepth 100000 in
set_option maxHeartbeats 4000000 in
theorem rReadN_any (po : Option Addr) (c0 : Nat) (bs : List Nat) (w : World) (h : BL w po bs) (hc0 : bs.length ≤ c0) (hn : bs.length ≤ 100000) (h8 : ∀ x ∈ bs, x < 256) :
    Calls Tryz.prog 45 #[.slice po bs.length c0] w (ReN po w (rdR bs)) := by
  obtain ⟨Z, hZ⟩ : ∃ Z, zR = Z := ⟨_, rfl⟩
  have zok : Z.ok := hZ ▸ zR_ok
  have zone : Z.pv.oneCell' = true := hZ ▸ rfl
  have HZZ := hid hZ
  have HP0 : Hid (bs ≠ [] → ∀ a, po = some a → a.block < w.heap.size) := hid (fun hne a ha => by
    rcases h with e | ⟨b, o, h1, h2⟩
    · exact absurd e hne
    · rw [h1] at ha; cases ha
      exact cell_lt' (a := ⟨b, o + 0, none⟩) (by rw [h2 0 (List.length_pos_iff.2 hne)]; simp))
  have S0 : Hid (SLn po w (.slice po bs.length c0) bs) := hid ⟨⟨po, c0, rfl, h, hc0⟩, fun a n c e => by cases e; exact ⟨a, rfl, rfl⟩⟩
  have hQ := rdR_ch bs
  generalize rdR bs = Q at hQ ⊢
  have T1 : Hid True := hid trivial
  clear h hZ
  go_enter Tryz.func45, Tryz.ntmps45
  go_upto_region 2 with (first
    | (clear T1; (with_reducible refine wpList_allocR rfl rfl ?_); intro w1 g2 hz1 hb1 hg1; have HZ1 := hid hz1; have HB1 := hid hb1; clear hz1 hb1)
    | ((with_reducible refine wpList_allocR rfl rfl ?_); intro w2 g5 hz2 hb2 hg2; have HM : Hid (RM w g2 g5 w2) := hid ⟨below_on HB1.out hb2, HZ1.out.below zR_ok hb2, by omega, by have := HZ1.out.at_.lt; omega, hz2.at_.lt⟩; have K0 : Hid (DB w2 g5 zR w2) := hid ⟨zR_ok, hz2, Only.refl _ _⟩; clear hz2 hb2 hg1 hg2 HZ1 HB1))
  have S2 := hid (S0.out.below HM.out.below)
  clear S0
  have hc := S2.out.text hn h8
  cases h1 : rdT bs with
  | none =>
    rw [h1] at hQ hc
    have HQ : Hid (Q = none) := hid hQ
    have HC := hid hc
    clear hQ hc h1 h8 S2
    go_wp2_with (first
      | (go_at_call 60; refine HC.out.mono ?_; rintro e w3 ⟨hb3, rfl⟩; have HE := hid (HM.out.end (Only.of_below hb3)); clear hb3)
      | ((with_reducible refine wpList_build_want 74 _ rfl ?_ zR.cs ?_ ?_); exact rfl; exact built_none; rw [HZZ.out])
      | ((with_reducible refine wpList_storeR rfl rfl _ _ rfl g2 ?_ (r := Z) ?_ zR_ok zok zone HE.out.1 ?_); exact rfl; exact rfl; intro w5 h5 o5; have H5 := hid h5; have O5 := hid o5; clear h5 o5))
    refine ret_row3 rfl g2 (v := .slice none 0 0) (x := .bool false) rfl rfl rfl rfl H5.out zok ⟨below_tr HE.out.2 (O5.out.below HE.out.2.size (fun i e => by have := HM.out.h2; omega)), ?_⟩
    rw [HQ.out, HZZ.out]
  | some q1 =>
    obtain ⟨s1, d1⟩ := q1
    have hne : bs ≠ [] := fun e => by
      rw [e, show rdT [] = none from rfl] at h1; cases h1
    have HP : Hid (∀ a, po = some a → a.block ≠ g5) := hid (fun a ha => by have := HP0.out hne a ha; have := HM.out.h2; have := HM.out.h5; omega)
    rw [h1] at hQ hc
    simp only [Option.bind_some] at hQ
    obtain ⟨hl1, h81, _⟩ := rdT_less h8 h1
    replace hl1 : d1.length ≤ 100000 := Nat.le_trans hl1 hn
    have HZ : Hid (∀ t : ByteArray, lst t = s1 → t.size ≤ 65536) := hid (fun t e => txt_size h8 h1 e)
    have HC := hid hc
    have H81 := hid h81
    have HGE : Hid (∀ a, po = some a → a.block < g2) := hid (fun a ha => by have := HP0.out hne a ha; have := HM.out.h2; omega)
    clear hc h1 h81 h8 hn S2 hne HP0
    go_upto_region 6 with (go_at_call 60; refine HC.out.mono ?_; rintro e w3 ⟨hb3, t1, v1, rfl, ht1, hs1⟩; have k1 := K0.out.below hb3; have c0 := k1.rb.c0; have z := k1.rb.free; have K1 := hid (k1.set0 t1 (HZ.out t1 ht1)); have S3 := hid (hs1.off HP.out (Only.set w3 ⟨g5, 0, none⟩ (.string t1) rfl)); have HT1 := hid ht1; clear k1 hb3 hs1 K0 ht1)
    clear c0 z HC HZ
    generalize w3.setCell ⟨g5, 0, none⟩ (.string t1) = W3 at K1 S3 ⊢
    have hc := S3.out.uint hl1 H81.out
    cases h2 : rdU d1 with
    | none =>
      rw [h2] at hQ hc
      have HQ : Hid (Q = none) := hid hQ
      have HC := hid hc
      clear hQ hc h2
      go_wp2_with (first
        | (go_at_call 44; refine HC.out.mono ?_; rintro e w4 ⟨hb4, rfl⟩; have HE := hid (HM.out.end (K1.out.below hb4).only); clear hb4)
        | ((with_reducible refine wpList_build_want 74 _ rfl ?_ zR.cs ?_ ?_); exact rfl; exact built_none; rw [HZZ.out])
        | ((with_reducible refine wpList_storeR rfl rfl _ _ rfl g2 ?_ (r := Z) ?_ zR_ok zok zone HE.out.1 ?_); exact rfl; exact rfl; intro w5 h5 o5; have H5 := hid h5; have O5 := hid o5; clear h5 o5))
      refine ret_row3 rfl g2 (v := .slice none 0 0) (x := .bool false) rfl rfl rfl rfl H5.out zok ⟨below_tr HE.out.2 (O5.out.below HE.out.2.size (fun i e => by have := HM.out.h2; omega)), ?_⟩
      rw [HQ.out, HZZ.out]
    | some q2 =>
      obtain ⟨n2, d2⟩ := q2
      rw [h2] at hQ hc
      simp only [Option.bind_some] at hQ
      obtain ⟨hl2, h82, _⟩ := rdU_less H81.out h2
      replace hl2 : d2.length ≤ 100000 := Nat.le_trans hl2 hl1
      have HC := hid hc
      have H82 := hid h82
      clear hc h2 h82 hl1 H81 S3
      cases d2 with
      | nil =>
        have HQ : Hid (Q = none) := hid hQ
        clear hQ
        go_wp2_with (first
          | (go_at_call 44; refine HC.out.mono ?_; rintro e w4 ⟨hb4, v4, rfl, ⟨⟨p4, c4, hv4, _, _⟩, _⟩⟩; subst hv4; simp only [List.length_nil]; have HE := hid (HM.out.end (K1.out.below hb4).only); clear hb4)
          | ((with_reducible refine wpList_build_want 74 _ rfl ?_ zR.cs ?_ ?_); exact rfl; exact built_none; rw [HZZ.out])
          | ((with_reducible refine wpList_storeR rfl rfl _ _ rfl g2 ?_ (r := Z) ?_ zR_ok zok zone HE.out.1 ?_); exact rfl; exact rfl; intro w5 h5 o5; have H5 := hid h5; have O5 := hid o5; clear h5 o5))
        refine ret_row3 rfl g2 (v := .slice none 0 0) (x := .bool false) rfl rfl rfl rfl H5.out zok ⟨below_tr HE.out.2 (O5.out.below HE.out.2.size (fun i e => by have := HM.out.h2; omega)), ?_⟩
        rw [HQ.out, HZZ.out]
      | cons c r =>
        simp only at hQ
        have hc256 : c < 256 := H82.out c (by simp)
        have H8r : Hid (∀ z ∈ r, z < 256) := hid (fun z hz => H82.out z (by simp [hz]))
        have hlr : r.length ≤ 100000 := by simp at hl2; omega
        obtain ⟨n1, hn1⟩ : ∃ n1, n1 = (c :: r).length := ⟨_, rfl⟩
        have hn1p : n1 = r.length + 1 := by rw [hn1]; rfl
        have hpos : (0 : Int) < (n1 : Int) := by omega
        have hposn : 0 < n1 := by omega
        have hnz : ¬ (n1 : Int) = 0 := by omega
        have hb0n : ((n1 : Int) == 0) = false := by simp; omega
        have HN1 := hid hn1
        have HN1P := hid hn1p
        clear hn1 hn1p hl2 H82
        by_cases hbig : 1 < c
        · rw [if_pos hbig] at hQ
          have hbig' : 1 < (c : Int) := by omega
          have HQ : Hid (Q = none) := hid hQ
          clear hQ
          go_wp2_with (first
            | (go_at_call 44; refine HC.out.mono ?_; rintro e w4 ⟨hb4, v4, rfl, ⟨⟨p4, c4, hv4, hbl4, hc4⟩, _⟩⟩; subst hv4; rw [← HN1.out] at hc4 ⊢; have hat : ∃ b o, p4 = some ⟨b, o, none⟩ ∧ w4.cell? ⟨b, o, none⟩ = some (.int .u8 (c : Int)) := (by rcases hbl4 with e | ⟨b, o, e, hcell⟩; (· cases e); (· exact ⟨b, o, e, hcell 0 (by simp)⟩)); obtain ⟨b4, o4, hp4, x4⟩ := hat; subst hp4; have HE := hid (HM.out.end (K1.out.below hb4).only); clear hb4 hbl4)
            | ((with_reducible refine wpList_build_want 74 _ rfl ?_ zR.cs ?_ ?_); exact rfl; exact built_none; rw [HZZ.out])
            | ((with_reducible refine wpList_storeR rfl rfl _ _ rfl g2 ?_ (r := Z) ?_ zR_ok zok zone HE.out.1 ?_); exact rfl; exact rfl; intro w5 h5 o5; have H5 := hid h5; have O5 := hid o5; clear h5 o5))
          refine ret_row3 rfl g2 (v := .slice none 0 0) (x := .bool false) rfl rfl rfl rfl H5.out zok ⟨below_tr HE.out.2 (O5.out.below HE.out.2.size (fun i e => by have := HM.out.h2; omega)), ?_⟩
          rw [HQ.out, HZZ.out]
        rw [if_neg hbig] at hQ
        have hbig' : ¬ 1 < (c : Int) := by omega
        have HQ := hid hQ
        clear hQ
        go_upto_region 9 with (go_at_call 44; refine HC.out.mono ?_; rintro e w4 ⟨hb4, v4, rfl, hs4⟩; have S4 := hid hs4; obtain ⟨⟨p4, c4, hv4, hbl4, hc4⟩, hnear⟩ := hs4; subst hv4; rw [← HN1.out] at hc4 ⊢; have hat : ∃ b o, p4 = some ⟨b, o, none⟩ ∧ w4.cell? ⟨b, o, none⟩ = some (.int .u8 (c : Int)) := (by rcases hbl4 with e | ⟨b, o, e, hcell⟩; (· cases e); (· exact ⟨b, o, e, hcell 0 (by simp)⟩)); obtain ⟨b4, o4, hp4, x4⟩ := hat; subst hp4; have hne4 : b4 ≠ g5 := (by obtain ⟨a', e1, e2⟩ := hnear ⟨b4, o4, none⟩ _ _ rfl; have h := HP.out a' e1; intro e; exact h (e2.symm.trans e)); have K4 := hid (K1.out.below hb4); have HBL4 := hid hbl4; have HNEAR := hid hnear; clear hb4 hbl4 hnear)
        have hne4' : g5 ≠ b4 := Ne.symm hne4
        obtain ⟨p5, hsl0, hS⟩ := HBL4.out.from8n c4 1 (by simp) (by rw [← HN1.out]; exact hc4)
        have hsl : ∀ w : World, (Instr.slice 28 (.slice (some ⟨b4, o4, none⟩) n1 c4) (some (.int .i64 1)) none none).run Tryz.prog w = .ok (.slice p5 r.length (c4 - 1)) w := by rw [HN1.out]; exact hsl0
        have S5 : Hid (SLn po w4 (.slice p5 r.length (c4 - 1)) r) := hid (hS.via fun a' ea => HNEAR.out a' _ _ (by rw [ea]))
        have c1 := K4.out.rb.c1
        have z1 := K4.out.rb.free
        have k5 := K4.out.set1 (n2 : Int)
        have c2 := k5.rb.c2
        have z2 := k5.rb.free
        clear HC hS hsl0 HBL4 HNEAR S4 K1
        by_cases hc1 : c = 1
        · have hc1' : (c : Int) = 1 := by omega
          have k6 := k5.set2 true
          have cc2 := k6.rb.c2
          have HQ1 := HQ.out
          rw [if_pos hc1] at HQ1
          simp only [Option.bind_some] at HQ1
          have KR0 : Hid (∃ R : Rv, (R.rc [] = ⟨s1, (n2 : Int), true, 0, [], 0, 0, [], zeroD, [], []⟩ ∧ R.pv = .slice none 0 0) ∧ DB w2 g5 R ((w4.setCell ⟨g5, 1, none⟩ (i64 (n2 : Int))).setCell ⟨g5, 2, none⟩ (.bool true))) := hid ⟨{ zR with id := t1, time := (n2 : Int), mark := true }, ⟨by simp only [Rv.rc, HT1.out]; rfl, rfl⟩, k6⟩
          have S6 : Hid (SLn po ((w4.setCell ⟨g5, 1, none⟩ (i64 (n2 : Int))).setCell ⟨g5, 2, none⟩ (.bool true)) (.slice p5 r.length (c4 - 1)) r) := hid ((S5.out.off HP.out (Only.set w4 ⟨g5, 1, none⟩ (i64 (n2 : Int)) rfl)).off HP.out (Only.set _ ⟨g5, 2, none⟩ (.bool true) rfl))
          have HQ2 := hid HQ1
          clear k5 k6 HQ HQ1 K4 S5
          obtain ⟨R, ⟨hRC, hpv⟩, kR⟩ := KR0.out
          have KR := hid kR
          have hone : R.pv.oneCell' = true := by rw [hpv]; rfl
          have HPV := hid hpv
          have HRC := hid hRC
          clear KR0 kR hRC hpv
          go_upto_region 14 with fail
          clear c1 z1 c2 z2 cc2 x4 hsl
          generalize (w4.setCell ⟨g5, 1, none⟩ (i64 (n2 : Int))).setCell ⟨g5, 2, none⟩ (.bool true) = W6 at KR S6 ⊢
          have HPLR : Hid (PL W6 R.pv []) := hid (HPV.out ▸ PL.nil _)
          by_cases hok : okRc ⟨s1, (n2 : Int), true, 0, [], 0, 0, [], zeroD, [], []⟩ = true
          · have HOK : Hid ((if okRc (R.rc []) = true then (0 : Int) else 2) = 0) := hid (by rw [HRC.out, if_pos hok])
            have HQ : Hid (Q = some (⟨s1, (n2 : Int), true, 0, [], 0, 0, [], zeroD, [], []⟩, r)) := hid (by rw [HQ2.out, if_pos hok])
            clear hok HQ2
            go_wp2_with (first
              | ((with_reducible refine wpList_load_at 74 _ rfl ?_ g5 0 ?_ R.cs (.struct (Tryz.prog.fieldsOf 74)) ?_ underRec rfl ?_ ?_); exact rfl; exact rfl; exact HKC.out.rb.at_.whole; (rw [Rv.size_of HKC.out.ok.sl]; exact sizeR))
              | ((with_reducible refine wpList_load_at 74 _ rfl ?_ g5 0 ?_ R.cs (.struct (Tryz.prog.fieldsOf 74)) ?_ underRec rfl ?_ ?_); exact rfl; exact rfl; exact KR.out.rb.at_.whole; (rw [Rv.size_of KR.out.ok.sl]; exact sizeR))
              | (go_at_call 46; (with_reducible refine (rcheck_any R KR.out.ok [] _ HPLR.out).mono ?_); rintro e w9 ⟨rfl, hb9⟩; rw [HOK.out]; have HKC := hid (KR.out.below hb9); have HE := hid (HM.out.end (KR.out.below hb9).only); have HB9 := hid hb9; clear hb9)
              | ((with_reducible refine wpList_storeR rfl rfl _ _ rfl g2 ?_ (r := R) ?_ zR_ok HKC.out.ok hone HE.out.1 ?_); exact rfl; exact rfl; intro w5 h5 o5; have H5 := hid h5; have O5 := hid o5; clear h5 o5))
            refine ret_row3 rfl g2 (v := .slice p5 r.length (c4 - 1)) (x := .bool true) rfl rfl rfl rfl H5.out HKC.out.ok ⟨below_tr HE.out.2 (O5.out.below HE.out.2.size (fun i e => by have := HM.out.h2; omega)), ?_⟩
            rw [HQ.out]
            exact ⟨R, [], _, rfl, HKC.out.ok, HRC.out, HPV.out ▸ PLF.nil _ _, (S6.out.below HB9.out).off (g := g2) (fun a ha e => by have := HP.out a ha; have := HGE.out a ha; omega) O5.out⟩
          · have HOK : Hid ((if okRc (R.rc []) = true then (0 : Int) else 2) = 2) := hid (by rw [HRC.out, if_neg hok])
            have HQ : Hid (Q = none) := hid (by rw [HQ2.out, if_neg hok])
            clear hok HQ2
            go_wp2_with (first
              | ((with_reducible refine wpList_load_at 74 _ rfl ?_ g5 0 ?_ R.cs (.struct (Tryz.prog.fieldsOf 74)) ?_ underRec rfl ?_ ?_); exact rfl; exact rfl; exact KR.out.rb.at_.whole; (rw [Rv.size_of KR.out.ok.sl]; exact sizeR))
              | (go_at_call 46; (with_reducible refine (rcheck_any R KR.out.ok [] _ HPLR.out).mono ?_); rintro e w9 ⟨rfl, hb9⟩; rw [HOK.out]; have HKC := hid (KR.out.below hb9); have HE := hid (HM.out.end (KR.out.below hb9).only); have HB9 := hid hb9; clear hb9)
              | ((with_reducible refine wpList_build_want 74 _ rfl ?_ zR.cs ?_ ?_); exact rfl; exact built_none; rw [HZZ.out])
              | ((with_reducible refine wpList_storeR rfl rfl _ _ rfl g2 ?_ (r := Z) ?_ zR_ok zok zone HE.out.1 ?_); exact rfl; exact rfl; intro w5 h5 o5; have H5 := hid h5; have O5 := hid o5; clear h5 o5))
            refine ret_row3 rfl g2 (v := .slice none 0 0) (x := .bool false) rfl rfl rfl rfl H5.out zok ⟨below_tr HE.out.2 (O5.out.below HE.out.2.size (fun i e => by have := HM.out.h2; omega)), ?_⟩
            rw [HQ.out, HZZ.out]
        · have hc1' : ¬ (c : Int) = 1 := by omega
          have hb1n : ((c : Int) == 1) = false := by simp; omega
          have k6 := k5.set2 false
          have cc2 := k6.rb.c2
          have HQ1 := HQ.out
          rw [if_neg hc1] at HQ1
          have KR0 : Hid (∃ R : Rv, (lst R.id = s1 ∧ R.time = (n2 : Int) ∧ R.mark = false ∧ R.pv = .slice none 0 0) ∧ DB w2 g5 R ((w4.setCell ⟨g5, 1, none⟩ (i64 (n2 : Int))).setCell ⟨g5, 2, none⟩ (.bool false))) := hid ⟨{ zR with id := t1, time := (n2 : Int), mark := false }, ⟨HT1.out, rfl, rfl, rfl⟩, k6⟩
          have S6 : Hid (SLn po ((w4.setCell ⟨g5, 1, none⟩ (i64 (n2 : Int))).setCell ⟨g5, 2, none⟩ (.bool false)) (.slice p5 r.length (c4 - 1)) r) := hid ((S5.out.off HP.out (Only.set w4 ⟨g5, 1, none⟩ (i64 (n2 : Int)) rfl)).off HP.out (Only.set _ ⟨g5, 2, none⟩ (.bool false) rfl))
          have HQ2 := hid HQ1
          clear k5 k6 HQ HQ1 K4 S5
          obtain ⟨R, ⟨hRI, hRT, hRM, hpv⟩, kR⟩ := KR0.out
          have KR := hid kR
          have HFR := hid (And.intro hRI (And.intro hRT (And.intro hRM hpv)))
          clear KR0 kR hpv hRI hRT hRM
          go_upto_region 13 with fail
          clear c1 z1 c2 z2 cc2 x4 hsl
          generalize (w4.setCell ⟨g5, 1, none⟩ (i64 (n2 : Int))).setCell ⟨g5, 2, none⟩ (.bool false) = W6 at KR S6 ⊢
          have hc := data_any W6 g5 po (.slice p5 r.length (c4 - 1)) r R n2 KR.out.ok KR.out.rb HFR.out.2.2.1 HFR.out.2.2.2 HFR.out.2.1 S6.out HP.out hlr H8r.out
          rw [HFR.out.1] at hc
          have hQ := HQ2.out
          clear HQ2 S6
          cases hD : rdD s1 n2 r with
          | none =>
            rw [hD] at hc hQ
            have HQ : Hid (Q = none) := hid hQ
            have HC := hid hc
            clear hQ hc hD
            go_wp2_with (first
              | (go_at_call 61; (with_reducible refine HC.out.mono ?_); rintro e w7 ⟨ho7, rfl, _⟩; have HE := hid (HM.out.end (KR.out.only.trans ho7)); clear ho7)
              | ((with_reducible refine wpList_build_want 74 _ rfl ?_ zR.cs ?_ ?_); exact rfl; exact built_none; rw [HZZ.out])
              | ((with_reducible refine wpList_storeR rfl rfl _ _ rfl g2 ?_ (r := Z) ?_ zR_ok zok zone HE.out.1 ?_); exact rfl; exact rfl; intro w5 h5 o5; have H5 := hid h5; have O5 := hid o5; clear h5 o5))
            refine ret_row3 rfl g2 (v := .slice none 0 0) (x := .bool false) rfl rfl rfl rfl H5.out zok ⟨below_tr HE.out.2 (O5.out.below HE.out.2.size (fun i e => by have := HM.out.h2; omega)), ?_⟩
            rw [HQ.out, HZZ.out]
          | some qD =>
            obtain ⟨rc, L⟩ := qD
            rw [hD] at hc hQ
            simp only [Option.bind_some] at hQ
            have HC := hid hc
            clear hc hD
            by_cases hok : okRc rc = true
            · have HQ : Hid (Q = some (rc, L)) := hid (by rw [hQ, if_pos hok])
              have HOK : Hid (∀ x, x = rc → (if okRc x = true then (0 : Int) else 2) = 0) := hid (fun x e => by rw [e, if_pos hok])
              clear hok hQ
              go_wp2_with (first
                | (go_at_call 61; (with_reducible refine HC.out.mono ?_); rintro e w7 ⟨ho7, R7, ps7, v7, rfl, k7, hrc7, hpl7, hs7⟩; have K7 : Hid (DB w2 g5 R7 w7) := hid ⟨k7.ok, k7.rb, KR.out.only.trans k7.only⟩; have hone : R7.pv.oneCell' = true := (by obtain ⟨_, _, _, e⟩ := hpl7.form; rw [e]; rfl); have HRC7 := hid hrc7; have HPL7 := hid hpl7; have HPL8 := hid hpl7.1; have S7 := hid hs7; clear ho7 k7 hrc7 hpl7 hs7)
                | ((with_reducible refine wpList_load_at 74 _ rfl ?_ g5 0 ?_ R7.cs (.struct (Tryz.prog.fieldsOf 74)) ?_ underRec rfl ?_ ?_); exact rfl; exact rfl; exact HKC.out.rb.at_.whole; (rw [Rv.size_of HKC.out.ok.sl]; exact sizeR))
                | ((with_reducible refine wpList_load_at 74 _ rfl ?_ g5 0 ?_ R7.cs (.struct (Tryz.prog.fieldsOf 74)) ?_ underRec rfl ?_ ?_); exact rfl; exact rfl; exact K7.out.rb.at_.whole; (rw [Rv.size_of K7.out.ok.sl]; exact sizeR))
                | (go_at_call 46; (with_reducible refine (rcheck_any R7 K7.out.ok ps7 _ HPL8.out).mono ?_); rintro e w9 ⟨rfl, hb9⟩; rw [HOK.out _ HRC7.out]; have HKC := hid (K7.out.below hb9); have HE := hid (HM.out.end (K7.out.below hb9).only); have HB9 := hid hb9; clear hb9)
                | ((with_reducible refine wpList_storeR rfl rfl _ _ rfl g2 ?_ (r := R7) ?_ zR_ok HKC.out.ok hone HE.out.1 ?_); exact rfl; exact rfl; intro w5 h5 o5; have H5 := hid h5; have O5 := hid o5; clear h5 o5))
              refine ret_row3 rfl g2 (v := v7) (x := .bool true) rfl rfl rfl rfl H5.out HKC.out.ok ⟨below_tr HE.out.2 (O5.out.below HE.out.2.size (fun i e => by have := HM.out.h2; omega)), ?_⟩
              rw [HQ.out]
              have hg2 : g2 < W6.heap.size := by have := KR.out.only.size; have := HM.out.h5; have := HM.out.lt; omega
              exact ⟨R7, ps7, _, rfl, HKC.out.ok, HRC7.out, ((HPL7.out.only (Only.of_below (S := fun b => b = g2) HB9.out) (fun i e => by omega)).only O5.out (fun i e => by omega)).base (by have := HM.out.h2; omega), (S7.out.below HB9.out).off (g := g2) (fun a ha e => by have := HGE.out a ha; omega) O5.out⟩
            · have HQ : Hid (Q = none) := hid (by rw [hQ, if_neg hok])
              have HOK : Hid (∀ x, x = rc → (if okRc x = true then (0 : Int) else 2) = 2) := hid (fun x e => by rw [e, if_neg hok])
              clear hok hQ
              go_wp2_with (first
                | (go_at_call 61; (with_reducible refine HC.out.mono ?_); rintro e w7 ⟨ho7, R7, ps7, v7, rfl, k7, hrc7, hpl7, hs7⟩; have K7 : Hid (DB w2 g5 R7 w7) := hid ⟨k7.ok, k7.rb, KR.out.only.trans k7.only⟩; have hone : R7.pv.oneCell' = true := (by obtain ⟨_, _, _, e⟩ := hpl7.form; rw [e]; rfl); have HRC7 := hid hrc7; have HPL7 := hid hpl7; have HPL8 := hid hpl7.1; have S7 := hid hs7; clear ho7 k7 hrc7 hpl7 hs7)
                | ((with_reducible refine wpList_load_at 74 _ rfl ?_ g5 0 ?_ R7.cs (.struct (Tryz.prog.fieldsOf 74)) ?_ underRec rfl ?_ ?_); exact rfl; exact rfl; exact K7.out.rb.at_.whole; (rw [Rv.size_of K7.out.ok.sl]; exact sizeR))
                | (go_at_call 46; (with_reducible refine (rcheck_any R7 K7.out.ok ps7 _ HPL8.out).mono ?_); rintro e w9 ⟨rfl, hb9⟩; rw [HOK.out _ HRC7.out]; have HKC := hid (K7.out.below hb9); have HE := hid (HM.out.end (K7.out.below hb9).only); have HB9 := hid hb9; clear hb9)
                | ((with_reducible refine wpList_build_want 74 _ rfl ?_ zR.cs ?_ ?_); exact rfl; exact built_none; rw [HZZ.out])
                | ((with_reducible refine wpList_storeR rfl rfl _ _ rfl g2 ?_ (r := Z) ?_ zR_ok zok zone HE.out.1 ?_); exact rfl; exact rfl; intro w5 h5 o5; have H5 := hid h5; have O5 := hid o5; clear h5 o5))
              refine ret_row3 rfl g2 (v := .slice none 0 0) (x := .bool false) rfl rfl rfl rfl H5.out zok ⟨below_tr HE.out.2 (O5.out.below HE.out.2.size (fun i e => by have := HM.out.h2; omega)), ?_⟩
              rw [HQ.out, HZZ.out]
end Go.Proofs.YtelkijiphhoacaaGreatDoor

/- records: two lists of records. -/
namespace Go.Proofs.YtelkijiphhoacaaGreatDoor
open Go Go.RowKit

theorem run_loadM {w : World} {b o : Nat} {r : Rv} (hr : r.ok) (hc : w.rangeAt b o r.cs.toList) : (Instr.loadAt 74 (.pointer (some ⟨b, o, none⟩))).run Tryz.prog w = .ok (.agg r.cs) w := by
  have := run_loadAt_mid (P := Tryz.prog) w b o 74 r.cs.toList (.struct (Tryz.prog.fieldsOf 74)) hc underRec rfl (by rw [sizeR42 (x := ⟨r, []⟩) hr]; exact sizeR)
  simpa using this
theorem RL.where {w : World} {v : Value} {l : List Rp} (h : RL w v l) {i : Nat} {x : Rp} (hx : l[i]? = some x) : ∃ b o c, v = .slice (some ⟨b, o, none⟩) l.length c ∧ l.length ≤ c ∧ RCells w b o l := by
  obtain ⟨po, c, h1, h2, _, _, h3, _⟩ := h
  rcases h3 with h3 | ⟨b, o, rfl, h3⟩
  · rw [h3] at hx; cases hx
  · exact ⟨b, o, c, h1, h2, h3⟩
theorem RCells.below {w w' : World} {b o : Nat} {l : List Rp} (h : RCells w b o l) (hb : Below w.heap.size w w') : RCells w' b o l := h.keep fun a ha => World.cell?_of_block (hb.block a.block (cell_lt' ha))

end Go.Proofs.YtelkijiphhoacaaGreatDoor

/- The document's Copy and without. -/
namespace Go.Proofs.YtelkijiphhoacaaGreatDoor
open Go Go.RowKit

/-- A record is laid behind the others. -/
theorem Rs.push {B g : Nat} {W W1 : World} {v : Value} {l : List Rp} {y : Rp} (hrs : Rs B W v l) (hB : B ≤ W.heap.size) (hb : Below W.heap.size W W1) (hl : l.length ≤ 100000) (hc : CAt W1 g y.r.cs 74) (hy : RpX B W1 y) :
    ∃ v' W2, (Builtin.append_ #[25, 25] 25 #[v, .slice (some ⟨g, 0, none⟩) 1 1]).run Tryz.prog W1 = .ok v' W2 ∧ Rs B W2 v' (l ++ [y]) ∧ Only (fun b => v.ownBlock = some b) W1 W2 ∧ (∀ b, v.ownBlock = some b → B ≤ b ∧ b < W.heap.size) := by
  have hrs2 := hrs.below hb
  obtain ⟨v', W2, hr, hbf, hg⟩ := hrs2.buf.app _ [y] (one_rl hc hy.one) (by simp; omega) (by have := hb.size; omega)
  have hO : Only (fun b => v.ownBlock = some b) W1 W2 := Only.of_grown hg fun k e _ => e
  refine ⟨v', W2, hr, ⟨hbf, fun x hx => ?_⟩, hO, own_ge hrs.buf⟩
  rcases List.mem_append.1 hx with hx | hx
  · exact (hrs2.each x hx).grown hrs2.buf hg
  · simp at hx; subst hx; exact hy.grown hrs2.buf hg
/-- The parameter's block, the result's and the copy's. -/
structure K3 (w : World) (g1 g2 g3 : Nat) (s : Int) (v u : Value) (W : World) : Prop where
  below : Below w.heap.size w W
  cj : CAt W g1 (jC s v) 27
  cr : CAt W g2 (jC 0 (.slice none 0 0)) 27
  cl : CAt W g3 (jC s u) 27
end Go.Proofs.YtelkijiphhoacaaGreatDoor

/- The document's read: what stands between sign and digest. -/
namespace Go.Proofs.YtelkijiphhoacaaGreatDoor
open Go Go.RowKit

theorem RpX.one9 {B : Nat} {w : World} {y : Rp} (h : RpX B w y) : y.r.pv.oneCell' = true := by obtain ⟨p0, c0, e0, _⟩ := h.pl.1; rw [e0]; rfl
theorem SLn.readN {po : Option Addr} {w : World} {v : Value} {d : List Nat} (h : SLn po w v d) (hl : d.length ≤ 100000) (h8 : ∀ x ∈ d, x < 256) : Calls Tryz.prog 45 #[v] w (ReN po w (rdR d)) := by
  obtain ⟨⟨p, c, rfl, hb, hc⟩, hn⟩ := h
  refine (rReadN_any p c d w hb hc hl h8).mono ?_
  rintro e w' ⟨hb', hm⟩
  refine ⟨hb', ?_⟩
  cases hq : rdR d with
  | none => rw [hq] at hm; exact hm
  | some q =>
    obtain ⟨rc, L⟩ := q
    rw [hq] at hm
    obtain ⟨r, ps, v', e1, e2, e3, e4, e5⟩ := hm
    exact ⟨r, ps, v', e1, e2, e3, e4, e5.via fun a' ea => hn a' _ _ (by rw [ea])⟩
/-- The result's block and the journal's. -/
structure R2 (w : World) (g2 g4 : Nat) (s : Int) (u : Value) (W : World) : Prop where
  below : Below w.heap.size w W
  cr : CAt W g2 (jC 0 (.slice none 0 0)) 27
  cj : CAt W g4 (jC s u) 27
theorem R2.on {w W W' : World} {g2 g4 : Nat} {s : Int} {u : Value} (h : R2 w g2 g4 s u W) (hb : Below W.heap.size W W') : R2 w g2 g4 s u W' := ⟨below_on h.below hb, h.cr.below hb, h.cj.below hb⟩
theorem R2.seq {w W : World} {g2 g4 : Nat} {s : Int} {u : Value} (h : R2 w g2 g4 s u W) (h24 : g2 < g4) (h2 : w.heap.size ≤ g2) (n : Int) : R2 w g2 g4 n u (W.setCell ⟨g4, 0, none⟩ (i64 n)) := by
  have o := Only.set (S := fun b => b = g4) W ⟨g4, 0, none⟩ (i64 n) rfl
  exact ⟨below_tr h.below (o.below h.below.size (fun i e => by omega)), h.cr.keep (o.block g2 h.cr.lt (by omega)), h.cj.set 0 _⟩
theorem R2.recs {w W W' : World} {g2 g4 B : Nat} {s : Int} {u : Value} (h : R2 w g2 g4 s u W) (h24 : g2 < g4) (h2 : w.heap.size ≤ g2) (h4 : g4 < B) (hO : Only (fun i => B ≤ i) W W') (u' : Value) : R2 w g2 g4 s u' (W'.setCell ⟨g4, 1, none⟩ u') := by
  have o := Only.set (S := fun b => b = g4) W' ⟨g4, 1, none⟩ u' rfl
  have k2 := h.cr.keep (hO.block g2 h.cr.lt (by omega))
  have k4 := h.cj.keep (hO.block g4 h.cj.lt (by omega))
  have hb := below_tr h.below (hO.below h.below.size fun i hi => by omega)
  exact ⟨below_tr hb (o.below hb.size (fun i e => by omega)), k2.keep (o.block g2 k2.lt (by omega)), k4.set 1 u'⟩
/-- What read tells. -/
def MidS (w : World) (q : Option Jr) (e : Ending) (w' : World) : Prop := Below w.heap.size w w' ∧ match q with
  | none => ∃ (s : Int) (p : Option Addr) (n c : Nat), e = .returned (.tuple #[.agg (jC s (.slice p n c)), .bool false])
  | some j => ∃ v m, e = .returned (.tuple #[.agg (jC j.seq v), .bool true]) ∧ Rs w.heap.size w' v m ∧ rcs m = j.recs
set_option maxRecDepth 100000 in
set_option maxHeartbeats 4000000 in
theorem rmid_any (po : Option Addr) (c0 : Nat) (bs : List Nat) (w : World) (h : BL w po bs) (hc0 : bs.length ≤ c0) (hn : bs.length ≤ 100000) (h8 : ∀ x ∈ bs, x < 256) : Calls Tryz.prog 33 #[.slice po bs.length c0] w (MidS w (rdMid bs)) := by
  have HP0 : Hid (bs ≠ [] → ∀ a, po = some a → a.block < w.heap.size) := hid (fun hne a ha => by
      rcases h with e | ⟨b, o, h1, h2⟩
      · exact absurd e hne
      · rw [h1] at ha; cases ha
        exact cell_lt' (a := ⟨b, o + 0, none⟩) (by rw [h2 0 (List.length_pos_iff.2 hne)]; simp))
  have S0 : Hid (SLn po w (.slice po bs.length c0) bs) := hid ⟨⟨po, c0, rfl, h, hc0⟩, fun a n c e => by cases e; exact ⟨a, rfl, rfl⟩⟩
  obtain ⟨Q, hQ⟩ : ∃ Q, rdMid bs = Q := ⟨_, rfl⟩
  rw [hQ]
  have HQQ := hid hQ
  clear hQ
  obtain ⟨Z, hZ⟩ : ∃ Z, zR = Z := ⟨_, rfl⟩
  have HZ := hid hZ
  clear hZ
  have T1 : Hid True := hid trivial
  clear h
  go_enter Tryz.func33, Tryz.ntmps33
  go_upto_region 2 with (first
    | (clear T1; (with_reducible refine wpList_allocJ rfl rfl ?_); intro w1 g2 hz1 hb1 hg1; have HZ1 := hid hz1; have HB1 := hid hb1; have HG1 := hid hg1; clear hz1 hb1 hg1)
    | ((with_reducible refine wpList_allocJ rfl rfl ?_); intro w2 g4 hz2 hb2 hg2; have HK : Hid (R2 w g2 g4 0 (.slice none 0 0) w2) := hid ⟨below_on HB1.out hb2, HZ1.out.below hb2, hz2⟩; have HG := hid (show w.heap.size ≤ g2 ∧ g2 < g4 ∧ g4 < w2.heap.size from ⟨by have := HG1.out; omega, by have := HZ1.out.lt; omega, hz2.lt⟩); clear hz2 hb2 hg2 HZ1 HB1))
  have S2 := hid (S0.out.below HK.out.below)
  clear S0
  have hc := S2.out.uint hn h8
  cases h1 : rdU bs with
  | none =>
    rw [h1] at hc
    have HQ : Hid (Q = none) := hid (by rw [← HQQ.out, rdMid_u1 h1])
    have HC := hid hc
    clear hc h1 h8 S2
    go_wp2_with (first
      | (go_at_call 44; refine HC.out.mono ?_; rintro e w3 ⟨hb3, rfl⟩; replace HK := hid (HK.out.on hb3); clear hb3)
      | ((with_reducible refine wpList_load_at 27 _ rfl ?_ g4 0 ?_ (jC 0 (.slice none 0 0)) (.struct (Tryz.prog.fieldsOf 27)) ?_ underJrn rfl ?_ ?_); exact rfl; exact rfl; exact HK.out.cj.wholeJ; exact sizeJ)
      | ((with_reducible refine wpList_storeJ rfl rfl _ _ rfl g2 ?_ (s := 0) (v := (.slice none 0 0)) ?_ rfl HK.out.cr ?_); exact rfl; exact rfl; intro w7 h7 o7; have H7 := hid h7; have O7 := hid o7; clear h7 o7))
    refine ret_rowJ2 rfl g2 rfl rfl rfl H7.out ⟨below_tr HK.out.below (O7.out.below HK.out.below.size (fun i e => by have := HG.out; omega)), ?_⟩
    rw [HQ.out]
    exact ⟨_, _, _, _, rfl⟩
  | some q1 =>
    obtain ⟨x, d1⟩ := q1
    rw [h1] at hc
    obtain ⟨hl1, h81, _⟩ := rdU_less h8 h1
    have HC := hid hc
    have H1 := hid h1
    have HL1 := hid hl1
    have H81 := hid h81
    have HP1 : Hid (d1 ≠ [] → ∀ a, po = some a → a.block < w.heap.size) := hid (fun hne => HP0.out (fun e => by rw [e] at hl1; exact hne (List.eq_nil_of_length_eq_zero (by simpa using hl1))))
    clear hc h1 h81 h8 hl1 S2
    go_upto_region 6 with (first
      | (go_at_call 44; refine HC.out.mono ?_; rintro e w3 ⟨hb3, v3, rfl, hs3⟩; replace HK := hid (HK.out.on hb3); have c0 := HK.out.cj.j0; have cf := HK.out.cj.free; have S3 := hid (hs3.far HP1.out (Only.set (S := fun b => b = g4) w3 ⟨g4, 0, none⟩ (i64 x) rfl) (fun i e => by have := HG.out; omega)); have HK3 := hid (HK.out.seq HG.out.2.1 HG.out.1 (x : Int)); have HS3 := hid (show w2.heap.size ≤ w3.heap.size from hb3.size); clear hb3 hs3))
    have HW3 : Hid (g4 < (w3.setCell ⟨g4, 0, none⟩ (i64 x)).heap.size) := hid HK3.out.cj.lt
    clear c0 cf HC HK
    generalize w3.setCell ⟨g4, 0, none⟩ (i64 x) = W3 at S3 HK3 HW3 ⊢
    have hl1 : d1.length ≤ 100000 := Nat.le_trans HL1.out hn
    have hc := S3.out.uint hl1 H81.out
    cases h2 : rdU d1 with
    | none =>
      rw [h2] at hc
      have HQ : Hid (Q = none) := hid (by rw [← HQQ.out, rdMid_u2 H1.out h2])
      have HC := hid hc
      clear hc h2
      have HK := hid HK3.out
      go_wp2_with (first
        | (go_at_call 44; refine HC.out.mono ?_; rintro e w4 ⟨hb4, rfl⟩; replace HK := hid (HK.out.on hb4); clear hb4)
        | ((with_reducible refine wpList_load_at 27 _ rfl ?_ g4 0 ?_ (jC x (.slice none 0 0)) (.struct (Tryz.prog.fieldsOf 27)) ?_ underJrn rfl ?_ ?_); exact rfl; exact rfl; exact HK.out.cj.wholeJ; exact sizeJ)
        | ((with_reducible refine wpList_storeJ rfl rfl _ _ rfl g2 ?_ (s := x) (v := (.slice none 0 0)) ?_ rfl HK.out.cr ?_); exact rfl; exact rfl; intro w7 h7 o7; have H7 := hid h7; have O7 := hid o7; clear h7 o7))
      refine ret_rowJ2 rfl g2 rfl rfl rfl H7.out ⟨below_tr HK.out.below (O7.out.below HK.out.below.size (fun i e => by have := HG.out; omega)), ?_⟩
      rw [HQ.out]
      exact ⟨_, _, _, _, rfl⟩
    | some q2 =>
      obtain ⟨n, d2⟩ := q2
      rw [h2] at hc
      obtain ⟨hl2, h82, hnn⟩ := rdU_less H81.out h2
      have HC := hid hc
      have H2 := hid h2
      have HL2 : Hid (d2.length ≤ bs.length) := hid (Nat.le_trans hl2 HL1.out)
      have H82 := hid h82
      clear hc h2 h82 hl2
      by_cases h64 : 64 < n
      · have h64' : (64 : Int) < (n : Int) := by omega
        have HQ : Hid (Q = none) := hid (by rw [← HQQ.out, rdMid_n H1.out H2.out h64])
        have HK := hid HK3.out
        go_wp2_with (first
          | (go_at_call 44; refine HC.out.mono ?_; rintro e w4 ⟨hb4, v4, rfl, hs4⟩; replace HK := hid (HK.out.on hb4); obtain ⟨⟨p4, c4, hv4, _, _⟩, _⟩ := hs4; subst hv4; clear hb4)
          | ((with_reducible refine wpList_load_at 27 _ rfl ?_ g4 0 ?_ (jC x (.slice none 0 0)) (.struct (Tryz.prog.fieldsOf 27)) ?_ underJrn rfl ?_ ?_); exact rfl; exact rfl; exact HK.out.cj.wholeJ; exact sizeJ)
          | ((with_reducible refine wpList_storeJ rfl rfl _ _ rfl g2 ?_ (s := x) (v := (.slice none 0 0)) ?_ rfl HK.out.cr ?_); exact rfl; exact rfl; intro w7 h7 o7; have H7 := hid h7; have O7 := hid o7; clear h7 o7))
        refine ret_rowJ2 rfl g2 rfl rfl rfl H7.out ⟨below_tr HK.out.below (O7.out.below HK.out.below.size (fun i e => by have := HG.out; omega)), ?_⟩
        rw [HQ.out]
        exact ⟨_, _, _, _, rfl⟩
      · have h64' : ¬ (64 : Int) < (n : Int) := by omega
        go_wp2_with (first
          | (go_at_call 44; refine HC.out.mono ?_; rintro e w4 ⟨hb4, v4, rfl, hs4⟩; have HK4 := hid (HK3.out.on hb4); have S4 := hid hs4; obtain ⟨⟨p4, c4, hv4, _, _⟩, _⟩ := hs4; subst hv4; clear hb4))
        have HB4 : Hid (g4 < w4.heap.size) := hid HK4.out.cj.lt
        go_loopg [0, 7, 8, 9, 10] n (fun gg s0 s7 _ _ _ wr => ∃ (kk : Nat) (l : List Rp) (N : List Nat) (u : Value) (p : Option Addr) (c : Nat), kk ≤ n ∧ n - kk ≤ gg ∧ s0 = .slice p N.length c ∧ s7 = i64 kk ∧ Hid (R2 w g2 g4 x u wr) ∧ Hid (Rs w4.heap.size wr u l) ∧ Hid (SLn po wr (.slice p N.length c) N) ∧ Hid (l.length = kk) ∧ Hid (rdRs n d2 = (rdRs (n - kk) N).map fun q => (rcs l ++ q.1, q.2)) ∧ Hid (N.length ≤ bs.length ∧ ∀ z ∈ N, z < 256) ∧ Hid (w4.heap.size ≤ wr.heap.size))
        case atStart =>
          refine ⟨0, [], d2, _, _, _, Nat.zero_le _, by omega, rfl, rfl, HK4.out, Rs.nil _ _, S4.out, rfl, ?_, ⟨HL2.out, H82.out⟩, Nat.le_refl _⟩
          show _ = _
          rw [Nat.sub_zero]
          cases rdRs n d2 with
          | none => rfl
          | some q => simp [rcs]
        case round =>
          obtain ⟨kk, l, N, u, p, c, hkk, hg, rfl, rfl, KK, RS, SS, LN, EQ, NB, SZ⟩ := hrel
          obtain ⟨pu, nu, cu, hu⟩ : ∃ a b c, u = .slice a b c := by obtain ⟨a, c, e, _⟩ := RS.out.buf.form; exact ⟨a, _, c, e⟩
          subst hu
          have HPN : Hid (N ≠ [] → ∀ a, po = some a → a.block < w.heap.size) := hid (fun hne => HP0.out (fun e => by have h9 := NB.out.1; rw [e] at h9; exact hne (List.eq_nil_of_length_eq_zero (by simpa using h9))))
          by_cases hlt : kk < n
          · have hltz : (kk : Int) < (n : Int) := by omega
            have hc := SS.out.readN (Nat.le_trans NB.out.1 hn) NB.out.2
            cases h3 : rdR N with
            | none =>
              rw [h3] at hc
              have HC3 := hid hc
              have HQ : Hid (Q = none) := hid (by rw [← HQQ.out, rdMid_r H1.out H2.out h64 (by rw [EQ.out, show n - kk = (n - (kk + 1)) + 1 by omega, rdRs_fail h3]; rfl)])
              have HK := hid KK.out
              clear hc h3 HC
              go_wp2_with (first
                | (go_at_call 45; refine HC3.out.mono ?_; rintro e w5 ⟨hb5, rfl⟩; replace HK := hid (HK.out.on hb5); rw [HZ.out]; clear hb5)
                | ((with_reducible refine wpList_allocR rfl rfl ?_); intro wa ga hza hba hga; have HZA := hid hza; have HBA := hid hba; have HGA := hid hga; clear hza hba hga)
                | ((with_reducible refine wpList_storeR rfl rfl _ _ rfl ga ?_ (r := Z) ?_ zR_ok ?_ ?_ HZA.out ?_); exact rfl; exact rfl; (rw [← HZ.out]; exact zR_ok); (rw [← HZ.out]; rfl); intro wb hb9 ob9; replace HK := hid (HK.out.on (Own1.mk1 HBA.out HGA.out hb9 ob9).below); clear hb9 ob9 HZA)
                | ((with_reducible refine wpList_load_at 27 _ rfl ?_ g4 0 ?_ (jC x (.slice pu nu cu)) (.struct (Tryz.prog.fieldsOf 27)) ?_ underJrn rfl ?_ ?_); exact rfl; exact rfl; exact HK.out.cj.wholeJ; exact sizeJ)
                | ((with_reducible refine wpList_storeJ rfl rfl _ _ rfl g2 ?_ (s := x) (v := .slice pu nu cu) ?_ rfl HK.out.cr ?_); exact rfl; exact rfl; intro w7 h7 o7; have H7 := hid h7; have O7 := hid o7; clear h7 o7))
              refine ret_rowJ2 rfl g2 rfl rfl rfl H7.out ⟨below_tr HK.out.below (O7.out.below HK.out.below.size (fun i e => by have := HG.out; omega)), ?_⟩
              rw [HQ.out]
              exact ⟨_, _, _, _, rfl⟩
            | some q3 =>
              obtain ⟨rc, N'⟩ := q3
              rw [h3] at hc
              have HC3 := hid hc
              have HSUB := hid (rdR_sub NB.out.2 h3)
              have H3 := hid h3
              clear hc h3 HC
              go_wp2_with (first
                | (go_at_call 45; refine HC3.out.mono ?_; rintro e w5 ⟨hb5, ry, ps, v5, rfl, hok, hrc, hpl, hs5⟩; have HB5 := hid hb5; have HX : Hid (RpX w4.heap.size w5 ⟨ry, ps⟩) := hid ⟨hok, hpl.base SZ.out⟩; have hyk := hok; have hyo : ry.pv.oneCell' = true := HX.out.one9; have HRC := hid hrc; have S5 := hid hs5; obtain ⟨⟨p5, c5, hv5, _, _⟩, _⟩ := hs5; subst hv5; clear hb5 hok hrc hpl)
                | ((with_reducible refine wpList_allocR rfl rfl ?_); intro wa ga hza hba hga; have HZA := hid hza; have HBA := hid hba; have HGA := hid hga; clear hza hba hga)
                | ((with_reducible refine wpList_storeR rfl rfl _ _ rfl ga ?_ (r := ry) ?_ zR_ok hyk hyo HZA.out ?_); exact rfl; exact rfl; intro wb hb9 ob9; have HOB := hid (Own1.mk1 HBA.out HGA.out hb9 ob9); have HBB := hid (below_on HB5.out HOB.out.below); have d1 := (KK.out.on HBB.out).cj.j1; clear hb9 ob9 HZA)
                | ((with_reducible refine wpList_load_at 74 _ rfl ?_ ga 0 ?_ ry.cs (.struct (Tryz.prog.fieldsOf 74)) ?_ underRec rfl ?_ ?_); exact rfl; exact rfl; exact HOB.out.box.whole; (rw [hyk.size]; exact sizeR))
                | ((with_reducible refine wpList_buildOne rfl _ rfl hyk ?_ ?_); exact rfl; intro w8 g8 hc8 hb8 hg8; obtain ⟨v9, w9, hr9, hrs9, ho9, hown9⟩ := Rs.push (y := ⟨ry, ps⟩) RS.out SZ.out (below_on HBB.out hb8) (by have := LN.out; omega) hc8 ((HX.out.below HOB.out.below).below hb8); have HRUN := hid hr9; have hA : Only (fun i => w4.heap.size ≤ i) wr w9 := (Only.of_below (below_on HBB.out hb8)).trans (ho9.mono fun i e => (hown9 i e).1); obtain ⟨p9, n9, c9, hv9⟩ : ∃ a b c, v9 = .slice a b c := (by obtain ⟨a, c, e, _⟩ := hrs9.buf.form; exact ⟨a, _, c, e⟩); subst hv9; have HKN := hid (KK.out.recs HG.out.2.1 HG.out.1 HB4.out hA (.slice p9 n9 c9)); have ho5 := Only.set (S := fun i => i = g4) w9 ⟨g4, 1, none⟩ (.slice p9 n9 c9) rfl; have HRN := hid (hrs9.only ho5 (fun i e => by have := HB4.out; omega)); have HPM : Hid (N' ≠ [] → ∀ a, po = some a → a.block < w.heap.size) := hid (fun hne => HPN.out (fun e => by have h9 := HSUB.out.1; rw [e] at h9; exact hne (List.eq_nil_of_length_eq_zero (by simpa using h9)))); have HSN := hid ((((S5.out.below HOB.out.below).below hb8).far HPM.out ho9 (fun i e => Nat.le_trans HK4.out.below.size (hown9 i e).1)).far HPM.out ho5 (fun i e => by have := HG.out; omega)); have HSZ : Hid (w4.heap.size ≤ (w9.setCell ⟨g4, 1, none⟩ (.slice p9 n9 c9)).heap.size) := hid (by have := hA.size; have := ho5.size; have := SZ.out; omega); have cl9 := KK.out.cj.keep (hA.block g4 KK.out.cj.lt (by have := HB4.out; omega)); have k1 := cl9.j1; have kf := cl9.free; have HEN := hid (RI.next EQ.out hlt H3.out (y := ⟨ry, ps⟩) HRC.out); clear hc8 hb8 hr9 hrs9 ho9 hown9 hA ho5 cl9 d1)
                | (at_builtin; refine wpList_append_run _ _ 25 25 rfl rfl _ _ _ rfl rfl HRUN.out ?_))
              go_roundg (n - (kk + 1))
              case measure => omega
              case rel => exact ⟨kk + 1, l ++ [(⟨ry, ps⟩ : Rp)], N', _, _, _, by omega, by omega, rfl, by go_num, HKN.out, HRN.out, HSN.out, (by show _ = _; rw [List.length_append, LN.out]; rfl), HEN.out, ⟨Nat.le_trans HSUB.out.1 NB.out.1, HSUB.out.2⟩, HSZ.out⟩
          · have hltz : ¬ (kk : Int) < (n : Int) := by omega
            have HRR : Hid (rdRs n d2 = some (rcs l, N)) := hid (by have e := EQ.out; rw [show n - kk = 0 by omega, rdRs_zero] at e; rw [e]; simp)
            have HMD := hid (rdMid_e H1.out H2.out h64 HRR.out)
            rw [HQQ.out] at HMD
            have HK := hid KK.out
            by_cases hN : N.length = 0
            · have hN' : (N.length : Int) = 0 := by omega
              have HQ : Hid (Q = some ⟨x, rcs l⟩) := hid (by rw [HMD.out, if_pos (List.eq_nil_of_length_eq_zero hN)])
              go_wp2_with (first
                | ((with_reducible refine wpList_load_at 27 _ rfl ?_ g4 0 ?_ (jC x (.slice pu nu cu)) (.struct (Tryz.prog.fieldsOf 27)) ?_ underJrn rfl ?_ ?_); exact rfl; exact rfl; exact HK.out.cj.wholeJ; exact sizeJ)
                | ((with_reducible refine wpList_storeJ rfl rfl _ _ rfl g2 ?_ (s := x) (v := .slice pu nu cu) ?_ rfl HK.out.cr ?_); exact rfl; exact rfl; intro w7 h7 o7; have H7 := hid h7; have O7 := hid o7; clear h7 o7))
              refine ret_rowJ2 rfl g2 rfl rfl rfl H7.out ⟨below_tr HK.out.below (O7.out.below HK.out.below.size (fun i e => by have := HG.out; omega)), ?_⟩
              rw [HQ.out]
              exact ⟨_, l, rfl, (RS.out.only O7.out (fun i e => by have := HG.out; have := HB4.out; omega)).base HK4.out.below.size, rfl⟩
            · have hN' : ((N.length : Int) == 0) = false := beq_eq_false_iff_ne.2 (by omega)
              have HQ : Hid (Q = none) := hid (by rw [HMD.out, if_neg (fun e => hN (by rw [e]; rfl))])
              go_wp2_with (first
                | ((with_reducible refine wpList_load_at 27 _ rfl ?_ g4 0 ?_ (jC x (.slice pu nu cu)) (.struct (Tryz.prog.fieldsOf 27)) ?_ underJrn rfl ?_ ?_); exact rfl; exact rfl; exact HK.out.cj.wholeJ; exact sizeJ)
                | ((with_reducible refine wpList_storeJ rfl rfl _ _ rfl g2 ?_ (s := x) (v := .slice pu nu cu) ?_ rfl HK.out.cr ?_); exact rfl; exact rfl; intro w7 h7 o7; have H7 := hid h7; have O7 := hid o7; clear h7 o7))
              refine ret_rowJ2 rfl g2 rfl rfl rfl H7.out ⟨below_tr HK.out.below (O7.out.below HK.out.below.size (fun i e => by have := HG.out; omega)), ?_⟩
              rw [HQ.out]
              exact ⟨_, _, _, _, rfl⟩
end Go.Proofs.YtelkijiphhoacaaGreatDoor
