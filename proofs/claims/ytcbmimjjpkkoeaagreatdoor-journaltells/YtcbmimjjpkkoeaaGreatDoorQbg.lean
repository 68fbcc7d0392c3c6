/- Texts laid into one: the remark ahead of each part says what is proved there. -/
import Derived.Test.YtcbmimjjpkkoeaaGreatDoorQbf
import Derived.Test.YtcbmimjjpkkoeaaGreatDoorQas
/- Contract of the document's Read. -/
namespace Go.Proofs.YtcbmimjjpkkoeaaGreatDoor
open Go Go.RowKit

theorem rdR_ch (b : List Nat) : rdR b = (rdT b).bind fun q => (rdU q.2).bind fun q2 => match q2.2 with
  | [] => none
  | c :: r => if 1 < c then none else (if c = 1 then some (⟨q.1, q2.1, true, 0, [], 0, 0, [], zeroD, [], []⟩, r) else rdD q.1 q2.1 r).bind fun p => if okRc p.1 then some p else none := by
  unfold rdR rdAny
  cases h1 : rdT b with
  | none => rfl
  | some q =>
  simp only [Option.bind_eq_bind, Option.bind_some]
  cases h2 : rdU q.2 with
  | none => rfl
  | some q2 =>
  obtain ⟨t, L⟩ := q2
  cases L with
  | nil => rfl
  | cons c r =>
    simp only [Option.bind_some]
    by_cases h : 1 < c
    · rw [if_pos h, if_pos h]
    · rw [if_neg h, if_neg h]
      by_cases h1 : c = 1
      · rw [if_pos h1]; rfl
      · rw [if_neg h1]
        cases rdD q.1 t r <;> rfl
theorem built_none : Tryz.prog.built 45 [] = some zR.cs := by kernel_rfl
section
variable {w : World} {g : Nat} {r : Rv} (h : RBox w g r) (ho : r.ok)
include h ho
theorem RBox.set0 (s : ByteArray) (hs : s.size ≤ 100000) : RBox (w.setCell ⟨g, 0, none⟩ (.string s)) g { r with id := s } := RBox.mk' ⟨ho.sl, ho.s8, hs, ho.e, ho.d, ho.u⟩ (by rw [← set_lo r { r with id := s } 0 (.string s) (by omega) ⟨rfl, rfl, rfl⟩ rfl]; exact h.at_.set 0 _)
theorem RBox.set1 (n : Int) : RBox (w.setCell ⟨g, 1, none⟩ (i64 n)) g { r with time := n } := RBox.mk' ⟨ho.sl, ho.s8, ho.i, ho.e, ho.d, ho.u⟩ (by rw [← set_lo r { r with time := n } 1 (i64 n) (by omega) ⟨rfl, rfl, rfl⟩ rfl]; exact h.at_.set 1 _)
end
section
variable {w0 w : World} {g : Nat} {r : Rv} (h : DB w0 g r w)
include h
theorem DB.set0 (t : ByteArray) (ht : t.size ≤ 65536) : DB w0 g { r with id := t } (w.setCell ⟨g, 0, none⟩ (.string t)) := h.turn (h.rb.set0 h.ok t (by omega)) ⟨h.ok.sl, h.ok.s8, by show t.size ≤ _; omega, h.ok.e, h.ok.d, h.ok.u⟩ (Only.set w _ _ rfl)
theorem DB.set1 (n : Int) : DB w0 g { r with time := n } (w.setCell ⟨g, 1, none⟩ (i64 n)) := h.turn (h.rb.set1 h.ok n) ⟨h.ok.sl, h.ok.s8, h.ok.i, h.ok.e, h.ok.d, h.ok.u⟩ (Only.set w _ _ rfl)
theorem DB.set2 (b : Bool) : DB w0 g { r with mark := b } (w.setCell ⟨g, 2, none⟩ (.bool b)) := h.turn (h.rb.set2 h.ok b) ⟨h.ok.sl, h.ok.s8, h.ok.i, h.ok.e, h.ok.d, h.ok.u⟩ (Only.set w _ _ rfl)
end
def ReM (w : World) (q : Option (Rc × List Nat)) (e : Ending) (w' : World) : Prop := Below w.heap.size w w' ∧ match q with
  | none => e = .returned (.tuple #[.agg zR.cs, .slice none 0 0, .bool false])
  | some (rc, L) => ∃ (r : Rv) (ps : Ps) (v : Value), e = .returned (.tuple #[.agg r.cs, v, .bool true]) ∧ r.ok ∧ r.rc ps = rc ∧ PL w' r.pv ps ∧ SL w' v L
/-- The result's block behind what was there, and the record's behind that. -/
structure RM (w : World) (g2 g5 : Nat) (w2 : World) : Prop where
  below : Below w.heap.size w w2
  z : RBox w2 g2 zR
  h2 : w.heap.size ≤ g2
  h5 : g2 < g5
  lt : g5 < w2.heap.size
theorem RM.end {w w2 W : World} {g2 g5 : Nat} (h : RM w g2 g5 w2) (ho : Only (fun b => b = g5) w2 W) : RBox W g2 zR ∧ Below w.heap.size w W :=
  ⟨h.z.only zR_ok ho (by have := h.h5; omega), below_tr h.below (ho.below h.below.size (fun i e => by have := h.h2; have := h.h5; omega))⟩
set_option maxRecDepth 100000 in
set_option maxHeartbeats 4000000 in
theorem rRead_any (po : Option Addr) (c0 : Nat) (bs : List Nat) (w : World) (h : BL w po bs) (hc0 : bs.length ≤ c0) (hn : bs.length ≤ 100000) (h8 : ∀ x ∈ bs, x < 256) :
    Calls Tryz.prog 75 #[.slice po bs.length c0] w (ReM w (rdR bs)) := by
  obtain ⟨Z, hZ⟩ : ∃ Z, zR = Z := ⟨_, rfl⟩
  have zok : Z.ok := hZ ▸ zR_ok
  have zone : Z.pv.oneCell' = true := hZ ▸ rfl
  have HZZ := hid hZ
  have HP0 : Hid (bs ≠ [] → ∀ a, po = some a → a.block < w.heap.size) := hid (fun hne a ha => by
    rcases h with e | ⟨b, o, h1, h2⟩
    · exact absurd e hne
    · rw [h1] at ha; cases ha
      exact cell_lt' (a := ⟨b, o + 0, none⟩) (by rw [h2 0 (List.length_pos_iff.2 hne)]; simp))
  have S0 : Hid (SLn po w (.slice po bs.length c0) bs) := hid ⟨⟨po, c0, rfl, h, hc0⟩, fun a n c e => by cases e; exact ⟨a, rfl, rfl⟩⟩
  have hQ := rdR_ch bs
  generalize rdR bs = Q at hQ ⊢
  have T1 : Hid True := hid trivial
  clear h hZ
  go_enter Tryz.func75, Tryz.ntmps75
  go_upto_region 2 with (first
    | (clear T1; (with_reducible refine wpList_allocR rfl rfl ?_); intro w1 g2 hz1 hb1 hg1; have HZ1 := hid hz1; have HB1 := hid hb1; clear hz1 hb1)
    | ((with_reducible refine wpList_allocR rfl rfl ?_); intro w2 g5 hz2 hb2 hg2; have HM : Hid (RM w g2 g5 w2) := hid ⟨below_on HB1.out hb2, HZ1.out.below zR_ok hb2, by omega, by have := HZ1.out.at_.lt; omega, hz2.at_.lt⟩; have K0 : Hid (DB w2 g5 zR w2) := hid ⟨zR_ok, hz2, Only.refl _ _⟩; clear hz2 hb2 hg1 hg2 HZ1 HB1))
  have S2 := hid (S0.out.below HM.out.below)
  clear S0
  have hc := S2.out.text hn h8
  cases h1 : rdT bs with
  | none =>
    rw [h1] at hQ hc
    have HQ : Hid (Q = none) := hid hQ
    have HC := hid hc
    clear hQ hc h1 h8 S2
    go_wp2_with (first
      | (go_at_call 96; refine HC.out.mono ?_; rintro e w3 ⟨hb3, rfl⟩; have HE := hid (HM.out.end (Only.of_below hb3)); clear hb3)
      | ((with_reducible refine wpList_build_want 45 _ rfl ?_ zR.cs ?_ ?_); exact rfl; exact built_none; rw [HZZ.out])
      | ((with_reducible refine wpList_storeR rfl rfl _ _ rfl g2 ?_ (r := Z) ?_ zR_ok zok zone HE.out.1 ?_); exact rfl; exact rfl; intro w5 h5 o5; have H5 := hid h5; have O5 := hid o5; clear h5 o5))
    refine ret_row3 rfl g2 (v := .slice none 0 0) (x := .bool false) rfl rfl rfl rfl H5.out zok ⟨below_tr HE.out.2 (O5.out.below HE.out.2.size (fun i e => by have := HM.out.h2; omega)), ?_⟩
    rw [HQ.out, HZZ.out]
  | some q1 =>
    obtain ⟨s1, d1⟩ := q1
    have hne : bs ≠ [] := fun e => by
      rw [e, show rdT [] = none from rfl] at h1; cases h1
    have HP : Hid (∀ a, po = some a → a.block ≠ g5) := hid (fun a ha => by have := HP0.out hne a ha; have := HM.out.h2; have := HM.out.h5; omega)
    rw [h1] at hQ hc
    simp only [Option.bind_some] at hQ
    obtain ⟨hl1, h81, _⟩ := rdT_less h8 h1
    replace hl1 : d1.length ≤ 100000 := Nat.le_trans hl1 hn
    have HZ : Hid (∀ t : ByteArray, lst t = s1 → t.size ≤ 65536) := hid (fun t e => txt_size h8 h1 e)
    have HC := hid hc
    have H81 := hid h81
    have HGE : Hid (∀ a, po = some a → a.block < g2) := hid (fun a ha => by have := HP0.out hne a ha; have := HM.out.h2; omega)
    clear hc h1 h81 h8 hn S2 hne HP0
    go_upto_region 6 with (go_at_call 96; refine HC.out.mono ?_; rintro e w3 ⟨hb3, t1, v1, rfl, ht1, hs1⟩; have k1 := K0.out.below hb3; have c0 := k1.rb.c0; have z := k1.rb.free; have K1 := hid (k1.set0 t1 (HZ.out t1 ht1)); have S3 := hid (hs1.off HP.out (Only.set w3 ⟨g5, 0, none⟩ (.string t1) rfl)); have HT1 := hid ht1; clear k1 hb3 hs1 K0 ht1)
    clear c0 z HC HZ
    generalize w3.setCell ⟨g5, 0, none⟩ (.string t1) = W3 at K1 S3 ⊢
    have hc := S3.out.uint hl1 H81.out
    cases h2 : rdU d1 with
    | none =>
      rw [h2] at hQ hc
      have HQ : Hid (Q = none) := hid hQ
      have HC := hid hc
      clear hQ hc h2
      go_wp2_with (first
        | (go_at_call 74; refine HC.out.mono ?_; rintro e w4 ⟨hb4, rfl⟩; have HE := hid (HM.out.end (K1.out.below hb4).only); clear hb4)
        | ((with_reducible refine wpList_build_want 45 _ rfl ?_ zR.cs ?_ ?_); exact rfl; exact built_none; rw [HZZ.out])
        | ((with_reducible refine wpList_storeR rfl rfl _ _ rfl g2 ?_ (r := Z) ?_ zR_ok zok zone HE.out.1 ?_); exact rfl; exact rfl; intro w5 h5 o5; have H5 := hid h5; have O5 := hid o5; clear h5 o5))
      refine ret_row3 rfl g2 (v := .slice none 0 0) (x := .bool false) rfl rfl rfl rfl H5.out zok ⟨below_tr HE.out.2 (O5.out.below HE.out.2.size (fun i e => by have := HM.out.h2; omega)), ?_⟩
      rw [HQ.out, HZZ.out]
    | some q2 =>
      obtain ⟨n2, d2⟩ := q2
      rw [h2] at hQ hc
      simp only [Option.bind_some] at hQ
      obtain ⟨hl2, h82, _⟩ := rdU_less H81.out h2
      replace hl2 : d2.length ≤ 100000 := Nat.le_trans hl2 hl1
      have HC := hid hc
      have H82 := hid h82
      clear hc h2 h82 hl1 H81 S3
      cases d2 with
      | nil =>
        have HQ : Hid (Q = none) := hid hQ
        clear hQ
        go_wp2_with (first
          | (go_at_call 74; refine HC.out.mono ?_; rintro e w4 ⟨hb4, v4, rfl, ⟨⟨p4, c4, hv4, _, _⟩, _⟩⟩; subst hv4; simp only [List.length_nil]; have HE := hid (HM.out.end (K1.out.below hb4).only); clear hb4)
          | ((with_reducible refine wpList_build_want 45 _ rfl ?_ zR.cs ?_ ?_); exact rfl; exact built_none; rw [HZZ.out])
          | ((with_reducible refine wpList_storeR rfl rfl _ _ rfl g2 ?_ (r := Z) ?_ zR_ok zok zone HE.out.1 ?_); exact rfl; exact rfl; intro w5 h5 o5; have H5 := hid h5; have O5 := hid o5; clear h5 o5))
        refine ret_row3 rfl g2 (v := .slice none 0 0) (x := .bool false) rfl rfl rfl rfl H5.out zok ⟨below_tr HE.out.2 (O5.out.below HE.out.2.size (fun i e => by have := HM.out.h2; omega)), ?_⟩
        rw [HQ.out, HZZ.out]
      | cons c r =>
        simp only at hQ
        have hc256 : c < 256 := H82.out c (by simp)
        have H8r : Hid (∀ z ∈ r, z < 256) := hid (fun z hz => H82.out z (by simp [hz]))
        have hlr : r.length ≤ 100000 := by simp at hl2; omega
        obtain ⟨n1, hn1⟩ : ∃ n1, n1 = (c :: r).length := ⟨_, rfl⟩
        have hn1p : n1 = r.length + 1 := by rw [hn1]; rfl
        have hpos : (0 : Int) < (n1 : Int) := by omega
        have hposn : 0 < n1 := by omega
        have hnz : ¬ (n1 : Int) = 0 := by omega
        have hb0n : ((n1 : Int) == 0) = false := by simp; omega
        have HN1 := hid hn1
        have HN1P := hid hn1p
        clear hn1 hn1p hl2 H82
        by_cases hbig : 1 < c
        · rw [if_pos hbig] at hQ
          have hbig' : 1 < (c : Int) := by omega
          have HQ : Hid (Q = none) := hid hQ
          clear hQ
          go_wp2_with (first
            | (go_at_call 74; refine HC.out.mono ?_; rintro e w4 ⟨hb4, v4, rfl, ⟨⟨p4, c4, hv4, hbl4, hc4⟩, _⟩⟩; subst hv4; rw [← HN1.out] at hc4 ⊢; have hat : ∃ b o, p4 = some ⟨b, o, none⟩ ∧ w4.cell? ⟨b, o, none⟩ = some (.int .u8 (c : Int)) := (by rcases hbl4 with e | ⟨b, o, e, hcell⟩; (· cases e); (· exact ⟨b, o, e, hcell 0 (by simp)⟩)); obtain ⟨b4, o4, hp4, x4⟩ := hat; subst hp4; have HE := hid (HM.out.end (K1.out.below hb4).only); clear hb4 hbl4)
            | ((with_reducible refine wpList_build_want 45 _ rfl ?_ zR.cs ?_ ?_); exact rfl; exact built_none; rw [HZZ.out])
            | ((with_reducible refine wpList_storeR rfl rfl _ _ rfl g2 ?_ (r := Z) ?_ zR_ok zok zone HE.out.1 ?_); exact rfl; exact rfl; intro w5 h5 o5; have H5 := hid h5; have O5 := hid o5; clear h5 o5))
          refine ret_row3 rfl g2 (v := .slice none 0 0) (x := .bool false) rfl rfl rfl rfl H5.out zok ⟨below_tr HE.out.2 (O5.out.below HE.out.2.size (fun i e => by have := HM.out.h2; omega)), ?_⟩
          rw [HQ.out, HZZ.out]
        rw [if_neg hbig] at hQ
        have hbig' : ¬ 1 < (c : Int) := by omega
        have HQ := hid hQ
        clear hQ
        go_upto_region 9 with (go_at_call 74; refine HC.out.mono ?_; rintro e w4 ⟨hb4, v4, rfl, hs4⟩; have S4 := hid hs4; obtain ⟨⟨p4, c4, hv4, hbl4, hc4⟩, hnear⟩ := hs4; subst hv4; rw [← HN1.out] at hc4 ⊢; have hat : ∃ b o, p4 = some ⟨b, o, none⟩ ∧ w4.cell? ⟨b, o, none⟩ = some (.int .u8 (c : Int)) := (by rcases hbl4 with e | ⟨b, o, e, hcell⟩; (· cases e); (· exact ⟨b, o, e, hcell 0 (by simp)⟩)); obtain ⟨b4, o4, hp4, x4⟩ := hat; subst hp4; have hne4 : b4 ≠ g5 := (by obtain ⟨a', e1, e2⟩ := hnear ⟨b4, o4, none⟩ _ _ rfl; have h := HP.out a' e1; intro e; exact h (e2.symm.trans e)); have K4 := hid (K1.out.below hb4); have HBL4 := hid hbl4; have HNEAR := hid hnear; clear hb4 hbl4 hnear)
        have hne4' : g5 ≠ b4 := Ne.symm hne4
        obtain ⟨p5, hsl0, hS⟩ := HBL4.out.from8n c4 1 (by simp) (by rw [← HN1.out]; exact hc4)
        have hsl : ∀ w : World, (Instr.slice 25 (.slice (some ⟨b4, o4, none⟩) n1 c4) (some (.int .i64 1)) none none).run Tryz.prog w = .ok (.slice p5 r.length (c4 - 1)) w := by rw [HN1.out]; exact hsl0
        have S5 : Hid (SLn po w4 (.slice p5 r.length (c4 - 1)) r) := hid (hS.via fun a' ea => HNEAR.out a' _ _ (by rw [ea]))
        have c1 := K4.out.rb.c1
        have z1 := K4.out.rb.free
        have k5 := K4.out.set1 (n2 : Int)
        have c2 := k5.rb.c2
        have z2 := k5.rb.free
        clear HC hS hsl0 HBL4 HNEAR S4 K1
        by_cases hc1 : c = 1
        · have hc1' : (c : Int) = 1 := by omega
          have k6 := k5.set2 true
          have cc2 := k6.rb.c2
          have HQ1 := HQ.out
          rw [if_pos hc1] at HQ1
          simp only [Option.bind_some] at HQ1
          have KR0 : Hid (∃ R : Rv, (R.rc [] = ⟨s1, (n2 : Int), true, 0, [], 0, 0, [], zeroD, [], []⟩ ∧ R.pv = .slice none 0 0) ∧ DB w2 g5 R ((w4.setCell ⟨g5, 1, none⟩ (i64 (n2 : Int))).setCell ⟨g5, 2, none⟩ (.bool true))) := hid ⟨{ zR with id := t1, time := (n2 : Int), mark := true }, ⟨by simp only [Rv.rc, HT1.out]; rfl, rfl⟩, k6⟩
          have S6 : Hid (SLn po ((w4.setCell ⟨g5, 1, none⟩ (i64 (n2 : Int))).setCell ⟨g5, 2, none⟩ (.bool true)) (.slice p5 r.length (c4 - 1)) r) := hid ((S5.out.off HP.out (Only.set w4 ⟨g5, 1, none⟩ (i64 (n2 : Int)) rfl)).off HP.out (Only.set _ ⟨g5, 2, none⟩ (.bool true) rfl))
          have HQ2 := hid HQ1
          clear k5 k6 HQ HQ1 K4 S5
          obtain ⟨R, ⟨hRC, hpv⟩, kR⟩ := KR0.out
          have KR := hid kR
          have hone : R.pv.oneCell' = true := by rw [hpv]; rfl
          have HPV := hid hpv
          have HRC := hid hRC
          clear KR0 kR hRC hpv
          go_upto_region 14 with fail
          clear c1 z1 c2 z2 cc2 x4 hsl
          generalize (w4.setCell ⟨g5, 1, none⟩ (i64 (n2 : Int))).setCell ⟨g5, 2, none⟩ (.bool true) = W6 at KR S6 ⊢
          have HPLR : Hid (PL W6 R.pv []) := hid (HPV.out ▸ PL.nil _)
          by_cases hok : okRc ⟨s1, (n2 : Int), true, 0, [], 0, 0, [], zeroD, [], []⟩ = true
          · have HOK : Hid ((if okRc (R.rc []) = true then (0 : Int) else 2) = 0) := hid (by rw [HRC.out, if_pos hok])
            have HQ : Hid (Q = some (⟨s1, (n2 : Int), true, 0, [], 0, 0, [], zeroD, [], []⟩, r)) := hid (by rw [HQ2.out, if_pos hok])
            clear hok HQ2
            go_wp2_with (first
              | ((with_reducible refine wpList_load_at 45 _ rfl ?_ g5 0 ?_ R.cs (.struct (Tryz.prog.fieldsOf 45)) ?_ underRec rfl ?_ ?_); exact rfl; exact rfl; exact HKC.out.rb.at_.whole; (rw [Rv.size_of HKC.out.ok.sl]; exact sizeR))
              | ((with_reducible refine wpList_load_at 45 _ rfl ?_ g5 0 ?_ R.cs (.struct (Tryz.prog.fieldsOf 45)) ?_ underRec rfl ?_ ?_); exact rfl; exact rfl; exact KR.out.rb.at_.whole; (rw [Rv.size_of KR.out.ok.sl]; exact sizeR))
              | (go_at_call 26; (with_reducible refine (rcheck_any R KR.out.ok [] _ HPLR.out).mono ?_); rintro e w9 ⟨rfl, hb9⟩; rw [HOK.out]; have HKC := hid (KR.out.below hb9); have HE := hid (HM.out.end (KR.out.below hb9).only); have HB9 := hid hb9; clear hb9)
              | ((with_reducible refine wpList_storeR rfl rfl _ _ rfl g2 ?_ (r := R) ?_ zR_ok HKC.out.ok hone HE.out.1 ?_); exact rfl; exact rfl; intro w5 h5 o5; have H5 := hid h5; have O5 := hid o5; clear h5 o5))
            refine ret_row3 rfl g2 (v := .slice p5 r.length (c4 - 1)) (x := .bool true) rfl rfl rfl rfl H5.out HKC.out.ok ⟨below_tr HE.out.2 (O5.out.below HE.out.2.size (fun i e => by have := HM.out.h2; omega)), ?_⟩
            rw [HQ.out]
            exact ⟨R, [], _, rfl, HKC.out.ok, HRC.out, HPV.out ▸ PL.nil _, ((S6.out.below HB9.out).off (g := g2) (fun a ha e => by have := HP.out a ha; have := HGE.out a ha; omega) O5.out).1⟩
          · have HOK : Hid ((if okRc (R.rc []) = true then (0 : Int) else 2) = 2) := hid (by rw [HRC.out, if_neg hok])
            have HQ : Hid (Q = none) := hid (by rw [HQ2.out, if_neg hok])
            clear hok HQ2
            go_wp2_with (first
              | ((with_reducible refine wpList_load_at 45 _ rfl ?_ g5 0 ?_ R.cs (.struct (Tryz.prog.fieldsOf 45)) ?_ underRec rfl ?_ ?_); exact rfl; exact rfl; exact KR.out.rb.at_.whole; (rw [Rv.size_of KR.out.ok.sl]; exact sizeR))
              | (go_at_call 26; (with_reducible refine (rcheck_any R KR.out.ok [] _ HPLR.out).mono ?_); rintro e w9 ⟨rfl, hb9⟩; rw [HOK.out]; have HKC := hid (KR.out.below hb9); have HE := hid (HM.out.end (KR.out.below hb9).only); have HB9 := hid hb9; clear hb9)
              | ((with_reducible refine wpList_build_want 45 _ rfl ?_ zR.cs ?_ ?_); exact rfl; exact built_none; rw [HZZ.out])
              | ((with_reducible refine wpList_storeR rfl rfl _ _ rfl g2 ?_ (r := Z) ?_ zR_ok zok zone HE.out.1 ?_); exact rfl; exact rfl; intro w5 h5 o5; have H5 := hid h5; have O5 := hid o5; clear h5 o5))
            refine ret_row3 rfl g2 (v := .slice none 0 0) (x := .bool false) rfl rfl rfl rfl H5.out zok ⟨below_tr HE.out.2 (O5.out.below HE.out.2.size (fun i e => by have := HM.out.h2; omega)), ?_⟩
            rw [HQ.out, HZZ.out]
        · have hc1' : ¬ (c : Int) = 1 := by omega
          have hb1n : ((c : Int) == 1) = false := by simp; omega
          have k6 := k5.set2 false
          have cc2 := k6.rb.c2
          have HQ1 := HQ.out
          rw [if_neg hc1] at HQ1
          have KR0 : Hid (∃ R : Rv, (lst R.id = s1 ∧ R.time = (n2 : Int) ∧ R.mark = false ∧ R.pv = .slice none 0 0) ∧ DB w2 g5 R ((w4.setCell ⟨g5, 1, none⟩ (i64 (n2 : Int))).setCell ⟨g5, 2, none⟩ (.bool false))) := hid ⟨{ zR with id := t1, time := (n2 : Int), mark := false }, ⟨HT1.out, rfl, rfl, rfl⟩, k6⟩
          have S6 : Hid (SLn po ((w4.setCell ⟨g5, 1, none⟩ (i64 (n2 : Int))).setCell ⟨g5, 2, none⟩ (.bool false)) (.slice p5 r.length (c4 - 1)) r) := hid ((S5.out.off HP.out (Only.set w4 ⟨g5, 1, none⟩ (i64 (n2 : Int)) rfl)).off HP.out (Only.set _ ⟨g5, 2, none⟩ (.bool false) rfl))
          have HQ2 := hid HQ1
          clear k5 k6 HQ HQ1 K4 S5
          obtain ⟨R, ⟨hRI, hRT, hRM, hpv⟩, kR⟩ := KR0.out
          have KR := hid kR
          have HFR := hid (And.intro hRI (And.intro hRT (And.intro hRM hpv)))
          clear KR0 kR hpv hRI hRT hRM
          go_upto_region 13 with fail
          clear c1 z1 c2 z2 cc2 x4 hsl
          generalize (w4.setCell ⟨g5, 1, none⟩ (i64 (n2 : Int))).setCell ⟨g5, 2, none⟩ (.bool false) = W6 at KR S6 ⊢
          have hc := data_any W6 g5 po (.slice p5 r.length (c4 - 1)) r R n2 KR.out.ok KR.out.rb HFR.out.2.2.1 HFR.out.2.2.2 HFR.out.2.1 S6.out HP.out hlr H8r.out
          rw [HFR.out.1] at hc
          have hQ := HQ2.out
          clear HQ2 S6
          cases hD : rdD s1 n2 r with
          | none =>
            rw [hD] at hc hQ
            have HQ : Hid (Q = none) := hid hQ
            have HC := hid hc
            clear hQ hc hD
            go_wp2_with (first
              | (go_at_call 97; (with_reducible refine HC.out.mono ?_); rintro e w7 ⟨ho7, rfl, _⟩; have HE := hid (HM.out.end (KR.out.only.trans ho7)); clear ho7)
              | ((with_reducible refine wpList_build_want 45 _ rfl ?_ zR.cs ?_ ?_); exact rfl; exact built_none; rw [HZZ.out])
              | ((with_reducible refine wpList_storeR rfl rfl _ _ rfl g2 ?_ (r := Z) ?_ zR_ok zok zone HE.out.1 ?_); exact rfl; exact rfl; intro w5 h5 o5; have H5 := hid h5; have O5 := hid o5; clear h5 o5))
            refine ret_row3 rfl g2 (v := .slice none 0 0) (x := .bool false) rfl rfl rfl rfl H5.out zok ⟨below_tr HE.out.2 (O5.out.below HE.out.2.size (fun i e => by have := HM.out.h2; omega)), ?_⟩
            rw [HQ.out, HZZ.out]
          | some qD =>
            obtain ⟨rc, L⟩ := qD
            rw [hD] at hc hQ
            simp only [Option.bind_some] at hQ
            have HC := hid hc
            clear hc hD
            by_cases hok : okRc rc = true
            · have HQ : Hid (Q = some (rc, L)) := hid (by rw [hQ, if_pos hok])
              have HOK : Hid (∀ x, x = rc → (if okRc x = true then (0 : Int) else 2) = 0) := hid (fun x e => by rw [e, if_pos hok])
              clear hok hQ
              go_wp2_with (first
                | (go_at_call 97; (with_reducible refine HC.out.mono ?_); rintro e w7 ⟨ho7, R7, ps7, v7, rfl, k7, hrc7, hpl7, hs7⟩; have K7 : Hid (DB w2 g5 R7 w7) := hid ⟨k7.ok, k7.rb, KR.out.only.trans k7.only⟩; have hone : R7.pv.oneCell' = true := (by obtain ⟨_, _, _, e⟩ := hpl7.form; rw [e]; rfl); have HRC7 := hid hrc7; have HPL7 := hid hpl7; have HPL8 := hid hpl7.1; have S7 := hid hs7; clear ho7 k7 hrc7 hpl7 hs7)
                | ((with_reducible refine wpList_load_at 45 _ rfl ?_ g5 0 ?_ R7.cs (.struct (Tryz.prog.fieldsOf 45)) ?_ underRec rfl ?_ ?_); exact rfl; exact rfl; exact HKC.out.rb.at_.whole; (rw [Rv.size_of HKC.out.ok.sl]; exact sizeR))
                | ((with_reducible refine wpList_load_at 45 _ rfl ?_ g5 0 ?_ R7.cs (.struct (Tryz.prog.fieldsOf 45)) ?_ underRec rfl ?_ ?_); exact rfl; exact rfl; exact K7.out.rb.at_.whole; (rw [Rv.size_of K7.out.ok.sl]; exact sizeR))
                | (go_at_call 26; (with_reducible refine (rcheck_any R7 K7.out.ok ps7 _ HPL8.out).mono ?_); rintro e w9 ⟨rfl, hb9⟩; rw [HOK.out _ HRC7.out]; have HKC := hid (K7.out.below hb9); have HE := hid (HM.out.end (K7.out.below hb9).only); have HB9 := hid hb9; clear hb9)
                | ((with_reducible refine wpList_storeR rfl rfl _ _ rfl g2 ?_ (r := R7) ?_ zR_ok HKC.out.ok hone HE.out.1 ?_); exact rfl; exact rfl; intro w5 h5 o5; have H5 := hid h5; have O5 := hid o5; clear h5 o5))
              refine ret_row3 rfl g2 (v := v7) (x := .bool true) rfl rfl rfl rfl H5.out HKC.out.ok ⟨below_tr HE.out.2 (O5.out.below HE.out.2.size (fun i e => by have := HM.out.h2; omega)), ?_⟩
              rw [HQ.out]
              have hg2 : g2 < W6.heap.size := by have := KR.out.only.size; have := HM.out.h5; have := HM.out.lt; omega
              exact ⟨R7, ps7, _, rfl, HKC.out.ok, HRC7.out, ((HPL7.out.only (Only.of_below (S := fun b => b = g2) HB9.out) (fun i e => by omega)).only O5.out (fun i e => by omega)).1, ((S7.out.below HB9.out).off (g := g2) (fun a ha e => by have := HGE.out a ha; omega) O5.out).1⟩
            · have HQ : Hid (Q = none) := hid (by rw [hQ, if_neg hok])
              have HOK : Hid (∀ x, x = rc → (if okRc x = true then (0 : Int) else 2) = 2) := hid (fun x e => by rw [e, if_neg hok])
              clear hok hQ
              go_wp2_with (first
                | (go_at_call 97; (with_reducible refine HC.out.mono ?_); rintro e w7 ⟨ho7, R7, ps7, v7, rfl, k7, hrc7, hpl7, hs7⟩; have K7 : Hid (DB w2 g5 R7 w7) := hid ⟨k7.ok, k7.rb, KR.out.only.trans k7.only⟩; have hone : R7.pv.oneCell' = true := (by obtain ⟨_, _, _, e⟩ := hpl7.form; rw [e]; rfl); have HRC7 := hid hrc7; have HPL7 := hid hpl7; have HPL8 := hid hpl7.1; have S7 := hid hs7; clear ho7 k7 hrc7 hpl7 hs7)
                | ((with_reducible refine wpList_load_at 45 _ rfl ?_ g5 0 ?_ R7.cs (.struct (Tryz.prog.fieldsOf 45)) ?_ underRec rfl ?_ ?_); exact rfl; exact rfl; exact K7.out.rb.at_.whole; (rw [Rv.size_of K7.out.ok.sl]; exact sizeR))
                | (go_at_call 26; (with_reducible refine (rcheck_any R7 K7.out.ok ps7 _ HPL8.out).mono ?_); rintro e w9 ⟨rfl, hb9⟩; rw [HOK.out _ HRC7.out]; have HKC := hid (K7.out.below hb9); have HE := hid (HM.out.end (K7.out.below hb9).only); have HB9 := hid hb9; clear hb9)
                | ((with_reducible refine wpList_build_want 45 _ rfl ?_ zR.cs ?_ ?_); exact rfl; exact built_none; rw [HZZ.out])
                | ((with_reducible refine wpList_storeR rfl rfl _ _ rfl g2 ?_ (r := Z) ?_ zR_ok zok zone HE.out.1 ?_); exact rfl; exact rfl; intro w5 h5 o5; have H5 := hid h5; have O5 := hid o5; clear h5 o5))
              refine ret_row3 rfl g2 (v := .slice none 0 0) (x := .bool false) rfl rfl rfl rfl H5.out zok ⟨below_tr HE.out.2 (O5.out.below HE.out.2.size (fun i e => by have := HM.out.h2; omega)), ?_⟩
              rw [HQ.out, HZZ.out]
#print axioms rRead_any
end Go.Proofs.YtcbmimjjpkkoeaaGreatDoor
