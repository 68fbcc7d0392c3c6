/- Texts laid into one: the remark ahead of each part says what is proved there. -/
import Derived.Test.YtcbmimjjpkkoeaaGreatDoorQbc
import Derived.Test.YtcbmimjjpkkoeaaGreatDoorQaz
import Derived.Test.YtcbmimjjpkkoeaaGreatDoorQbe
import Derived.Test.YtcbmimjjpkkoeaaGreatDoorQbi
import Derived.Test.YtcbmimjjpkkoeaaGreatDoorQba
/- What JournalTells carries; its early ends. -/
namespace Go.Proofs.YtcbmimjjpkkoeaaGreatDoor
open Go Go.RowKit

/-- A journal that was told: to read, and to be written over. -/
structure WJ (B H : Nat) (W : World) (v : Value) (m : List Rp) : Prop where
  rl : RL W v m
  ov : OvL B H W v m
theorem WJ.on {B H : Nat} {W W' : World} {v : Value} {m : List Rp} (h : WJ B H W v m) (hb : Below W.heap.size W W') : WJ B H W' v m := ⟨h.rl.below hb, h.ov.below hb⟩
theorem Rs.wj {B : Nat} {W : World} {v : Value} {m : List Rp} (h : Rs B W v m) (hn : m.length ≤ 100000) : WJ B W.heap.size W v m := ⟨h.rl hn, h.ov hn⟩
/-- The parameters' blocks. -/
structure F0 (w : World) (ga gc : Nat) (sa sc : Int) (va vc : Value) (W : World) : Prop where
  below : Below w.heap.size w W
  ca : CAt W ga (jC sa va) 24
  cc : CAt W gc (jC sc vc) 24
theorem F0.on {w W W' : World} {ga gc : Nat} {sa sc : Int} {va vc : Value} (h : F0 w ga gc sa sc va vc W) (hb : Below W.heap.size W W') : F0 w ga gc sa sc va vc W' := ⟨below_on h.below hb, h.ca.below hb, h.cc.below hb⟩
theorem jr_adds {F : Nat} {args : Array Value} {w : World} {L : List Nat} (h8 : ∀ z ∈ L, z < 256) (h : Calls Tryz.prog F args w (AddS w (rdJ dig L))) : Calls Tryz.prog F args w (JrS w (rdJ dig L)) := by
  obtain ⟨q, hq⟩ : ∃ q, rdJ dig L = q := ⟨_, rfl⟩
  rw [hq] at h ⊢
  obtain ⟨n, o⟩ := q
  cases o with
  | none => exact jr_none h
  | some j =>
    obtain ⟨rfl, k1, _⟩ := rdJ_some h8 hq
    exact jr_some h (by have := (okJ_parts k1).2.2.1; omega)
set_option linter.unusedVariables false in
set_option maxRecDepth 100000 in
set_option maxHeartbeats 8000000 in
theorem jtells_a (a0 a1 : Addr) (sa sc : Int) (va vc : Value) (la lc : List Rp) (pb : Option Addr) (lb cb : Nat) (w : World) (he : Ers w a0 a1) (ja : IsJ w va la) (jc : IsJ w vc lc) (jb : IsB w pb lb cb) (h1 : bigJ la = true) : Calls Tryz.prog 3 #[.agg (jC sa va), .agg (jC sc vc), .slice pb lb cb] w fun e w' => e = .returned (.bool true) ∧ Below w.heap.size w w' := by
  obtain ⟨pa, na, ka, rfl⟩ := ja.form
  obtain ⟨pc, nc, kc, rfl⟩ := jc.form
  have HL1 : Hid (∀ W, Below w.heap.size w W → Calls Tryz.prog 4 #[.agg (jC sa (.slice pa na ka))] W fun e w' => e = .returned (.bool true) ∧ Below W.heap.size W w') := hid (fun W hW => by have := Large_any sa (.slice pa na ka) la W (ja.below hW); rw [h1] at this; exact this)
  clear h1 he ja jc jb
  have T1 : Hid True := hid trivial
  have T2 : Hid True := hid trivial
  go_enter Tryz.func3, Tryz.ntmps3
  go_wp2_with (first
    | (clear T1; (with_reducible refine wpList_boxT 24 rfl _ rfl (jC sa (.slice pa na ka)) ?_ ?_); exact rfl; intro w1 ga hc1 hb1 hg1; have HC1 := hid hc1; have HB1 := hid hb1; clear hb1 hc1 hg1)
    | ((with_reducible refine wpList_boxT 24 rfl _ rfl (jC sc (.slice pc nc kc)) ?_ ?_); exact rfl; intro w2 gc hc2 hb2 hg2; have HF : Hid (F0 w ga gc sa sc (.slice pa na ka) (.slice pc nc kc) w2) := hid ⟨below_on HB1.out hb2, HC1.out.below hb2, hc2⟩; clear hb2 hc2 hg2)
    | ((with_reducible refine wpList_load_at 24 _ rfl ?_ ga 0 ?_ (jC sa (.slice pa na ka)) (.struct (Tryz.prog.fieldsOf 24)) ?_ underJrn rfl ?_ ?_); exact rfl; exact rfl; exact HF.out.ca.wholeJ; exact sizeJ)
    | (clear T2; go_at_call 4; refine (HL1.out _ HF.out.below).mono ?_; rintro e w3 ⟨rfl, hb3⟩; replace HF := hid (HF.out.on hb3); clear hb3))
  go_ret
  exact ⟨rfl, HF.out.below⟩
set_option linter.unusedVariables false in
set_option maxRecDepth 100000 in
set_option maxHeartbeats 8000000 in
theorem jtells_c (a0 a1 : Addr) (sa sc : Int) (va vc : Value) (la lc : List Rp) (pb : Option Addr) (lb cb : Nat) (w : World) (he : Ers w a0 a1) (ja : IsJ w va la) (jc : IsJ w vc lc) (jb : IsB w pb lb cb) (h1 : bigJ la = false) (h2 : bigJ lc = true) : Calls Tryz.prog 3 #[.agg (jC sa va), .agg (jC sc vc), .slice pb lb cb] w fun e w' => e = .returned (.bool true) ∧ Below w.heap.size w w' := by
  obtain ⟨pa, na, ka, rfl⟩ := ja.form
  obtain ⟨pc, nc, kc, rfl⟩ := jc.form
  have HL1 : Hid (∀ W, Below w.heap.size w W → Calls Tryz.prog 4 #[.agg (jC sa (.slice pa na ka))] W fun e w' => e = .returned (.bool false) ∧ Below W.heap.size W w') := hid (fun W hW => by have := Large_any sa (.slice pa na ka) la W (ja.below hW); rw [h1] at this; exact this)
  have HL2 : Hid (∀ W, Below w.heap.size w W → Calls Tryz.prog 4 #[.agg (jC sc (.slice pc nc kc))] W fun e w' => e = .returned (.bool true) ∧ Below W.heap.size W w') := hid (fun W hW => by have := Large_any sc (.slice pc nc kc) lc W (jc.below hW); rw [h2] at this; exact this)
  clear h1 h2 he ja jc jb
  have T1 : Hid True := hid trivial
  have T2 : Hid True := hid trivial
  go_enter Tryz.func3, Tryz.ntmps3
  go_wp2_with (first
    | (clear T1; (with_reducible refine wpList_boxT 24 rfl _ rfl (jC sa (.slice pa na ka)) ?_ ?_); exact rfl; intro w1 ga hc1 hb1 hg1; have HC1 := hid hc1; have HB1 := hid hb1; clear hb1 hc1 hg1)
    | ((with_reducible refine wpList_boxT 24 rfl _ rfl (jC sc (.slice pc nc kc)) ?_ ?_); exact rfl; intro w2 gc hc2 hb2 hg2; have HF : Hid (F0 w ga gc sa sc (.slice pa na ka) (.slice pc nc kc) w2) := hid ⟨below_on HB1.out hb2, HC1.out.below hb2, hc2⟩; clear hb2 hc2 hg2)
    | ((with_reducible refine wpList_load_at 24 _ rfl ?_ ga 0 ?_ (jC sa (.slice pa na ka)) (.struct (Tryz.prog.fieldsOf 24)) ?_ underJrn rfl ?_ ?_); exact rfl; exact rfl; exact HF.out.ca.wholeJ; exact sizeJ)
    | ((with_reducible refine wpList_load_at 24 _ rfl ?_ gc 0 ?_ (jC sc (.slice pc nc kc)) (.struct (Tryz.prog.fieldsOf 24)) ?_ underJrn rfl ?_ ?_); exact rfl; exact rfl; exact HF.out.cc.wholeJ; exact sizeJ)
    | (clear T2; go_at_call 4; refine (HL1.out _ HF.out.below).mono ?_; rintro e w3 ⟨rfl, hb3⟩; replace HF := hid (HF.out.on hb3); clear hb3)
    | (go_at_call 4; refine (HL2.out _ HF.out.below).mono ?_; rintro e w4 ⟨rfl, hb4⟩; replace HF := hid (HF.out.on hb4); clear hb4))
  go_ret
  exact ⟨rfl, HF.out.below⟩
set_option linter.unusedVariables false in
set_option maxRecDepth 100000 in
set_option maxHeartbeats 8000000 in
theorem jtells_b (a0 a1 : Addr) (sa sc : Int) (va vc : Value) (la lc : List Rp) (pb : Option Addr) (lb cb : Nat) (w : World) (he : Ers w a0 a1) (ja : IsJ w va la) (jc : IsJ w vc lc) (jb : IsB w pb lb cb) (h1 : bigJ la = false) (h2 : bigJ lc = false) (h3 : 20000 < lb) : Calls Tryz.prog 3 #[.agg (jC sa va), .agg (jC sc vc), .slice pb lb cb] w fun e w' => e = .returned (.bool true) ∧ Below w.heap.size w w' := by
  obtain ⟨pa, na, ka, rfl⟩ := ja.form
  obtain ⟨pc, nc, kc, rfl⟩ := jc.form
  have HL1 : Hid (∀ W, Below w.heap.size w W → Calls Tryz.prog 4 #[.agg (jC sa (.slice pa na ka))] W fun e w' => e = .returned (.bool false) ∧ Below W.heap.size W w') := hid (fun W hW => by have := Large_any sa (.slice pa na ka) la W (ja.below hW); rw [h1] at this; exact this)
  have HL2 : Hid (∀ W, Below w.heap.size w W → Calls Tryz.prog 4 #[.agg (jC sc (.slice pc nc kc))] W fun e w' => e = .returned (.bool false) ∧ Below W.heap.size W w') := hid (fun W hW => by have := Large_any sc (.slice pc nc kc) lc W (jc.below hW); rw [h2] at this; exact this)
  have h3' : 20000 < (lb : Int) := by omega
  clear h1 h2 he ja jc jb h3
  have T1 : Hid True := hid trivial
  have T2 : Hid True := hid trivial
  go_enter Tryz.func3, Tryz.ntmps3
  go_wp2_with (first
    | (clear T1; (with_reducible refine wpList_boxT 24 rfl _ rfl (jC sa (.slice pa na ka)) ?_ ?_); exact rfl; intro w1 ga hc1 hb1 hg1; have HC1 := hid hc1; have HB1 := hid hb1; clear hb1 hc1 hg1)
    | ((with_reducible refine wpList_boxT 24 rfl _ rfl (jC sc (.slice pc nc kc)) ?_ ?_); exact rfl; intro w2 gc hc2 hb2 hg2; have HF : Hid (F0 w ga gc sa sc (.slice pa na ka) (.slice pc nc kc) w2) := hid ⟨below_on HB1.out hb2, HC1.out.below hb2, hc2⟩; clear hb2 hc2 hg2)
    | ((with_reducible refine wpList_load_at 24 _ rfl ?_ ga 0 ?_ (jC sa (.slice pa na ka)) (.struct (Tryz.prog.fieldsOf 24)) ?_ underJrn rfl ?_ ?_); exact rfl; exact rfl; exact HF.out.ca.wholeJ; exact sizeJ)
    | ((with_reducible refine wpList_load_at 24 _ rfl ?_ gc 0 ?_ (jC sc (.slice pc nc kc)) (.struct (Tryz.prog.fieldsOf 24)) ?_ underJrn rfl ?_ ?_); exact rfl; exact rfl; exact HF.out.cc.wholeJ; exact sizeJ)
    | (clear T2; go_at_call 4; refine (HL1.out _ HF.out.below).mono ?_; rintro e w3 ⟨rfl, hb3⟩; replace HF := hid (HF.out.on hb3); clear hb3)
    | (go_at_call 4; refine (HL2.out _ HF.out.below).mono ?_; rintro e w4 ⟨rfl, hb4⟩; replace HF := hid (HF.out.on hb4); clear hb4))
  go_ret
  exact ⟨rfl, HF.out.below⟩
#print axioms jtells_a
#print axioms jtells_c
#print axioms jtells_b
end Go.Proofs.YtcbmimjjpkkoeaaGreatDoor

/- JournalTells, walked. -/
namespace Go.Proofs.YtcbmimjjpkkoeaaGreatDoor
open Go Go.RowKit

set_option linter.unusedVariables false in
set_option maxRecDepth 100000 in
set_option maxHeartbeats 8000000 in
theorem jtells_ok (a0 a1 : Addr) (sa sc : Int) (va vc : Value) (la lc : List Rp) (pb : Option Addr) (lb cb : Nat) (w : World) (he : Ers w a0 a1) (ja : IsJ w va la) (jc : IsJ w vc lc) (jb : IsB w pb lb cb) (h1 : bigJ la = false) (h2 : bigJ lc = false) (h3 : ¬ 20000 < lb) (hok : okJ ⟨sa, rcs la⟩ = true) : Calls Tryz.prog 3 #[.agg (jC sa va), .agg (jC sc vc), .slice pb lb cb] w fun e w' => e = .returned (.bool true) ∧ Below w.heap.size w w' := by
  obtain ⟨pa, na, ka, rfl⟩ := ja.form
  obtain ⟨pc, nc, kc, rfl⟩ := jc.form
  have HL1 : Hid (∀ W, Below w.heap.size w W → Calls Tryz.prog 4 #[.agg (jC sa (.slice pa na ka))] W fun e w' => e = .returned (.bool false) ∧ Below W.heap.size W w') := hid (fun W hW => by have := Large_any sa (.slice pa na ka) la W (ja.below hW); rw [h1] at this; exact this)
  have HL2 : Hid (∀ W, Below w.heap.size w W → Calls Tryz.prog 4 #[.agg (jC sc (.slice pc nc kc))] W fun e w' => e = .returned (.bool false) ∧ Below W.heap.size W w') := hid (fun W hW => by have := Large_any sc (.slice pc nc kc) lc W (jc.below hW); rw [h2] at this; exact this)
  obtain ⟨bs, hbl, hbc, hbb, h8, hbn⟩ := jb
  subst hbl
  have h3' : ¬ 20000 < (bs.length : Int) := by omega
  have HA := hid (ja.rl h1)
  have HC := hid (jc.rl h2)
  have HER := hid he
  have HBL := hid hbb
  have H8 := hid h8
  have HN : Hid (bs.length ≤ 20000 ∧ bs.length ≤ cb ∧ (pb = none → cb = 0)) := hid ⟨by omega, hbc, hbn⟩
  have HOK := hid hok
  have HLA : Hid (la.length ≤ 100000) := hid HA.out.len
  clear h1 h2 he ja jc hbb hbc hbn h8 h3 hok
  have T1 : Hid True := hid trivial
  have T2 : Hid True := hid trivial
  go_enter Tryz.func3, Tryz.ntmps3
  go_upto_region 3 with (first
    | (clear T1; (with_reducible refine wpList_boxT 24 rfl _ rfl (jC sa (.slice pa na ka)) ?_ ?_); exact rfl; intro w1 ga hc1 hb1 hg1; have HC1 := hid hc1; have HB1 := hid hb1; clear hb1 hc1 hg1)
    | ((with_reducible refine wpList_boxT 24 rfl _ rfl (jC sc (.slice pc nc kc)) ?_ ?_); exact rfl; intro w2 gc hc2 hb2 hg2; have HF : Hid (F0 w ga gc sa sc (.slice pa na ka) (.slice pc nc kc) w2) := hid ⟨below_on HB1.out hb2, HC1.out.below hb2, hc2⟩; clear hb2 hc2 hg2)
    | ((with_reducible refine wpList_load_at 24 _ rfl ?_ ga 0 ?_ (jC sa (.slice pa na ka)) (.struct (Tryz.prog.fieldsOf 24)) ?_ underJrn rfl ?_ ?_); exact rfl; exact rfl; exact HF.out.ca.wholeJ; exact sizeJ)
    | ((with_reducible refine wpList_load_at 24 _ rfl ?_ gc 0 ?_ (jC sc (.slice pc nc kc)) (.struct (Tryz.prog.fieldsOf 24)) ?_ underJrn rfl ?_ ?_); exact rfl; exact rfl; exact HF.out.cc.wholeJ; exact sizeJ)
    | (clear T2; go_at_call 4; refine (HL1.out _ HF.out.below).mono ?_; rintro e w3 ⟨rfl, hb3⟩; replace HF := hid (HF.out.on hb3); clear hb3)
    | (go_at_call 4; refine (HL2.out _ HF.out.below).mono ?_; rintro e w4 ⟨rfl, hb4⟩; replace HF := hid (HF.out.on hb4); clear hb4))
  go_upto_region 4 with (first
    | ((with_reducible refine wpList_load_at 24 _ rfl ?_ ga 0 ?_ (jC sa (.slice pa na ka)) (.struct (Tryz.prog.fieldsOf 24)) ?_ underJrn rfl ?_ ?_); exact rfl; exact rfl; exact HF.out.ca.wholeJ; exact sizeJ)
    | (go_at_call 5; refine (rjcopy_any sa _ la _ (HA.out.below HF.out.below)).mono ?_; rintro e w5 ⟨vi, mi, rfl, hr5, he5, hb5⟩; obtain ⟨pi, ki, hvi, _⟩ := hr5.buf.form; obtain ⟨ni, hni⟩ : ∃ n, mi.length = n := ⟨_, rfl⟩; rw [hni] at hvi; subst hvi; replace HF := hid (HF.out.on hb5); have HR := hid hr5; have HEQ := hid he5; have HNI := hid hni; clear hr5 he5 hb5 hni)
    | (go_at_call 6; refine (lentB_any pb cb bs _ (by have := HN.out; omega) (HBL.out.below HF.out.below)).mono ?_; rintro e w6 ⟨rfl, hl6, hb6⟩; replace HF := hid (HF.out.on hb6); replace HR := hid (HR.out.below hb6); obtain ⟨gb, hgb⟩ : ∃ g, w5.heap.size = g := ⟨_, rfl⟩; rw [hgb] at hl6; rw [hgb]; have HLN := hid hl6; clear hl6 hb6 hgb)
    | ((with_reducible refine wpList_allocJ rfl rfl ?_); intro w7 g7 hz7 hb7 hg7; have HZ7 := hid hz7; have HB7 := hid hb7; have HG7 := hid hg7; clear hz7 hb7 hg7)
    | ((with_reducible refine wpList_storeJ rfl rfl _ _ rfl g7 ?_ (s := sa) (v := .slice pi ni ki) ?_ rfl HZ7.out ?_); exact rfl; exact rfl; intro wc h9 o9; have hbo := below_tr HB7.out (o9.below HB7.out.size (fun i e => by have := HG7.out; omega)); replace HR := hid ((HR.out.below HB7.out).other7 h9 o9 HZ7.out); replace HF := hid (HF.out.on hbo); replace HLN := hid (HLN.out.below hbo); have HCI := hid h9; clear h9 o9 hbo HZ7 HB7 HG7))
  have HML : Hid (mi.length ≤ 100000) := hid (by have h9 := congrArg List.length HEQ.out; rw [rcs_len, rcs_len] at h9; have := HLA.out; omega)
  have HRI := hid (HR.out.rl HML.out)
  have HBC := hid (Below.refl wc.heap.size wc)
  have HA5 := hid (fun W (hW : Below wc.heap.size wc W) => HA.out.below (below_on HF.out.below hW))
  have HC5 := hid (fun W (hW : Below wc.heap.size wc W) => HC.out.below (below_on HF.out.below hW))
  have HK1 : Hid (∀ W, Below wc.heap.size wc W → Calls Tryz.prog 7 #[.agg (jC sa (.slice pi ni ki))] W fun e w' => e = .returned (i64 0) ∧ Below W.heap.size W w') := hid (fun W hW => by have h9 := jcheck_any sa _ mi W (HRI.out.below hW); rw [HEQ.out, HOK.out] at h9; exact h9)
  have HK2 : Hid (∀ W, Below wc.heap.size wc W → Calls Tryz.prog 9 #[.agg (jC sa (.slice pa na ka))] W fun e w' => e = .returned (i64 0) ∧ Below W.heap.size W w') := hid (fun W hW => by have h9 := rjcheck_any sa _ la W (HA5.out W hW); rw [HOK.out] at h9; exact h9)
  obtain ⟨SM, hSM⟩ : ∃ b : Bool, decide ((⟨sa, rcs la⟩ : Jr) = ⟨sc, rcs lc⟩) = b := ⟨_, rfl⟩
  have HM1 : Hid (∀ W, Below wc.heap.size wc W → Calls Tryz.prog 10 #[.agg (jC sa (.slice pi ni ki)), .agg (jC sc (.slice pc nc kc))] W fun e w' => e = .returned (.bool SM) ∧ Below W.heap.size W w') := hid (fun W hW => by have h9 := jsame_any sa sc _ _ mi lc W (HRI.out.below hW) (HC5.out W hW); rw [HEQ.out, hSM] at h9; exact h9)
  have HM2 : Hid (∀ W, Below wc.heap.size wc W → Calls Tryz.prog 11 #[.agg (jC sa (.slice pa na ka)), .agg (jC sc (.slice pc nc kc))] W fun e w' => e = .returned (.bool SM) ∧ Below W.heap.size W w') := hid (fun W hW => by have h9 := rjsame_any sa sc _ _ la lc W (HA5.out W hW) (HC5.out W hW); rw [hSM] at h9; exact h9)
  have HM3 : Hid (∀ W, Below wc.heap.size wc W → Calls Tryz.prog 11 #[.agg (jC sa (.slice pi ni ki)), .agg (jC sa (.slice pa na ka))] W fun e w' => e = .returned (.bool true) ∧ Below W.heap.size W w') := hid (fun W hW => by have h9 := rjsame_any sa sa _ _ mi la W (HRI.out.below hW) (HA5.out W hW); rw [HEQ.out, decide_eq_true rfl] at h9; exact h9)
  obtain ⟨QB, hQB⟩ : ∃ q, rdJ dig bs = q := ⟨_, rfl⟩
  have HRD1 : Hid (∀ W, Below wc.heap.size wc W → Calls Tryz.prog 16 #[.slice (some ⟨gb, 0, none⟩) bs.length (bs.length + 3)] W (JrS W QB)) := hid (fun W hW => by have h9 := jr_adds H8.out (jread_any (some ⟨gb, 0, none⟩) (bs.length + 3) bs W a0 a1 (HLN.out.below hW).bl (by omega) (by have := HN.out; omega) H8.out (HER.out.below (below_on HF.out.below hW))); rw [hQB] at h9; exact h9)
  have HRD2 : Hid (∀ W, Below wc.heap.size wc W → Calls Tryz.prog 17 #[.slice pb bs.length cb] W (JrS W QB)) := hid (fun W hW => by have h9 := jr_adds H8.out (rjread_any pb cb bs W (HBL.out.below (below_on HF.out.below hW)) HN.out.2.1 HN.out.2.2 (by have := HN.out; omega) H8.out); rw [hQB] at h9; exact h9)
  have HCY : Hid (∀ W, Below wc.heap.size wc W → Calls Tryz.prog 14 #[.agg (jC sa (.slice pi ni ki))] W (JcpS W sa (rcs la))) := hid (fun W hW => by have h9 := jcopyJ_any sa _ mi W (HRI.out.below hW); rw [HEQ.out] at h9; exact h9)
  have HKP : Hid (∀ W, Below wc.heap.size wc W → Calls Tryz.prog 18 #[.slice (some ⟨gb, 0, none⟩) bs.length (bs.length + 3), .slice pb bs.length cb] W fun e w' => e = .returned (.bool true) ∧ Below W.heap.size W w') := hid (fun W hW => keptB_any gb pb cb bs W (by have := HN.out; omega) (HLN.out.below hW) (HBL.out.below (below_on HF.out.below hW)))
  have HAW : Hid (∀ W, Below wc.heap.size wc W → Calls Tryz.prog 19 #[] W fun e w' => e = .returned (.bool true) ∧ Below W.heap.size W w') := hid (fun W hW => awake8_any a0 a1 W (HER.out.below (below_on HF.out.below hW)))
  clear hSM hQB
  obtain ⟨JB, hJB⟩ : ∃ x, jB dig ⟨sa, rcs la⟩ = x := ⟨_, rfl⟩
  have HJ8 : Hid (∀ z ∈ JB, z < 256) := hid (by rw [← hJB]; exact (jB_len8 HA.out HOK.out).2.2)
  have HBY : Hid (∀ W, Below wc.heap.size wc W → Calls Tryz.prog 8 #[.agg (jC sa (.slice pi ni ki))] W (BytE W JB)) := hid (fun W hW => by have h9 := jbytes_ok sa _ mi W (HRI.out.below hW) (by rw [HEQ.out]; exact HOK.out); rw [HEQ.out, hJB] at h9; exact h9)
  have HBZ : Hid (∀ W, Below wc.heap.size wc W → Calls Tryz.prog 13 #[.agg (jC sa (.slice pa na ka))] W (BufS W.heap.size W JB)) := hid (fun W hW => by have h9 := rjbytes_any sa _ la W (HA5.out W hW) HOK.out; rw [hJB] at h9; exact h9)
  clear hJB
  go_upto_region 6 with (first
    | ((with_reducible refine wpList_load_at 24 _ rfl ?_ g7 0 ?_ (jC sa (.slice pi ni ki)) (.struct (Tryz.prog.fieldsOf 24)) ?_ underJrn rfl ?_ ?_); exact rfl; exact rfl; exact (HCI.out.below HBC.out).wholeJ; exact sizeJ)
    | (go_at_call 7; refine (HK1.out _ HBC.out).mono ?_; rintro e wd ⟨rfl, hb9⟩; replace HBC := hid (below_on HBC.out hb9); clear hb9)
    | (go_at_call 8; refine (HBY.out _ HBC.out).mono ?_; rintro e we ⟨vx, rfl, hx9, hb9⟩; obtain ⟨px, kx, hvx⟩ := hx9.form; subst hvx; have HX := hid hx9.sl; replace HBC := hid (below_on HBC.out hb9); clear hb9 hx9))
  have HSF : Hid (∀ W, Below we.heap.size we W → (fun W => (Instr.loadAt 24 (.pointer (some ⟨ga, 0, none⟩))).run Tryz.prog W = .ok (.agg (jC sa (.slice pa na ka))) W ∧ (Instr.loadAt 24 (.pointer (some ⟨gc, 0, none⟩))).run Tryz.prog W = .ok (.agg (jC sc (.slice pc nc kc))) W ∧ (Instr.loadAt 24 (.pointer (some ⟨g7, 0, none⟩))).run Tryz.prog W = .ok (.agg (jC sa (.slice pi ni ki))) W) W) := hid (fun W hW => ⟨run_loadJ (HF.out.ca.below (below_on HBC.out hW)), run_loadJ (HF.out.cc.below (below_on HBC.out hW)), run_loadJ (HCI.out.below (below_on HBC.out hW))⟩)
  refine wp_region_held_drew (S := (fun W => (Instr.loadAt 24 (.pointer (some ⟨ga, 0, none⟩))).run Tryz.prog W = .ok (.agg (jC sa (.slice pa na ka))) W ∧ (Instr.loadAt 24 (.pointer (some ⟨gc, 0, none⟩))).run Tryz.prog W = .ok (.agg (jC sc (.slice pc nc kc))) W ∧ (Instr.loadAt 24 (.pointer (some ⟨g7, 0, none⟩))).run Tryz.prog W = .ok (.agg (jC sa (.slice pi ni ki))) W)) (by kernel_rfl) (HSF.out _ (below_drew _)) (fun hHeld => ?_)
  have HD := hid (below_drew we)
  refine wpAnyH_take (i := 0) (oi := ⟨some 40, .move (.tmp 9), _, _, _, none⟩) (v := i64 0) rfl (by kernel_rfl) (by kernel_rfl) (by kernel_rfl) (fun _ _ _ h => h) (Or.inl ⟨by kernel_rfl, by intro W hW; go_simp⟩) hHeld ?_
  refine wpAnyH_take (i := 1) (oi := ⟨some 41, .load 24 (.tmp 3), _, _, _, none⟩) (v := .agg (jC sa (.slice pa na ka))) rfl (by kernel_rfl) (by kernel_rfl) (by kernel_rfl) (fun _ _ _ h => h) (Or.inl ⟨by kernel_rfl, fun W hW => exec_load rfl (by kernel_rfl) hW.1⟩) hHeld ?_
  refine wpAnyH_ready (rs := [2]) (by kernel_rfl) (by simp) ?_
  refine AllReadyH.cons rfl (fun K hK => ?_) AllReadyH.nil
  go_simp
  refine (HK2.out _ (below_on HBC.out HD.out)).mono ?_
  rintro e x2 ⟨rfl, hb⟩
  replace HD := hid (below_on HD.out hb)
  clear hb
  go_wp2_with fail
  refine hK.out _ _ (HSF.out _ HD.out) (fun hHeld => ?_)
  clear hK K
  refine wpAnyH_take (i := 3) (oi := ⟨some 43, .binOp .neq 29 (.tmp 40) (.tmp 42) 29, _, _, _, none⟩) (v := .bool false) rfl (by kernel_rfl) (by kernel_rfl) (by kernel_rfl) (fun _ _ _ h => h) (Or.inl ⟨by kernel_rfl, by intro W hW; go_simp⟩) hHeld ?_
  refine wpAnyH_take (i := 4) (oi := ⟨some 44, .move (.tmp 43), _, _, _, none⟩) (v := .bool false) rfl (by kernel_rfl) (by kernel_rfl) (by kernel_rfl) (fun _ _ _ h => h) (Or.inl ⟨by kernel_rfl, by intro W hW; go_simp⟩) hHeld ?_
  refine wpAnyH_take (i := 5) (oi := ⟨some 45, .move (.tmp 11), _, _, _, some (4, false)⟩) (v := i64 0) rfl (by kernel_rfl) (by kernel_rfl) (by kernel_rfl) (fun _ _ _ h => h) (Or.inl ⟨by kernel_rfl, by intro W hW; go_simp⟩) hHeld ?_
  refine wpAnyH_take (i := 6) (oi := ⟨some 46, .move (.tmp 9), _, _, _, some (4, false)⟩) (v := i64 0) rfl (by kernel_rfl) (by kernel_rfl) (by kernel_rfl) (fun _ _ _ h => h) (Or.inl ⟨by kernel_rfl, by intro W hW; go_simp⟩) hHeld ?_
  refine wpAnyH_take (i := 7) (oi := ⟨some 47, .binOp .neq 29 (.tmp 45) (.tmp 46) 29, _, _, _, some (4, false)⟩) (v := .bool false) rfl (by kernel_rfl) (by kernel_rfl) (by kernel_rfl) (fun _ _ _ h => h) (Or.inl ⟨by kernel_rfl, by intro W hW; go_simp⟩) hHeld ?_
  refine wpAnyH_take (i := 8) (oi := ⟨some 48, .pick (.tmp 44) (.const (.bool true)) (.tmp 47), _, _, _, none⟩) (v := .bool false) rfl (by kernel_rfl) (by kernel_rfl) (by kernel_rfl) (fun _ _ _ h => h) (Or.inl ⟨by kernel_rfl, by intro W hW; go_simp⟩) hHeld ?_
  refine wpAnyH_take (i := 9) (oi := ⟨some 49, .move (.tmp 48), _, _, _, none⟩) (v := .bool false) rfl (by kernel_rfl) (by kernel_rfl) (by kernel_rfl) (fun _ _ _ h => h) (Or.inl ⟨by kernel_rfl, by intro W hW; go_simp⟩) hHeld ?_
  refine wpAnyH_take (i := 10) (oi := ⟨some 50, .load 24 (.tmp 7), _, _, _, some (9, false)⟩) (v := .agg (jC sa (.slice pi ni ki))) rfl (by kernel_rfl) (by kernel_rfl) (by kernel_rfl) (fun _ _ _ h => h) (Or.inl ⟨by kernel_rfl, fun W hW => exec_load rfl (by kernel_rfl) hW.2.2⟩) hHeld ?_
  refine wpAnyH_take (i := 11) (oi := ⟨some 51, .load 24 (.tmp 4), _, _, _, some (9, false)⟩) (v := .agg (jC sc (.slice pc nc kc))) rfl (by kernel_rfl) (by kernel_rfl) (by kernel_rfl) (fun _ _ _ h => h) (Or.inl ⟨by kernel_rfl, fun W hW => exec_load rfl (by kernel_rfl) hW.2.1⟩) hHeld ?_
  refine wpAnyH_take (i := 13) (oi := ⟨some 53, .load 24 (.tmp 3), _, _, _, some (9, false)⟩) (v := .agg (jC sa (.slice pa na ka))) rfl (by kernel_rfl) (by kernel_rfl) (by kernel_rfl) (fun _ _ _ h => h) (Or.inl ⟨by kernel_rfl, fun W hW => exec_load rfl (by kernel_rfl) hW.1⟩) hHeld ?_
  refine wpAnyH_take (i := 14) (oi := ⟨some 54, .load 24 (.tmp 4), _, _, _, some (9, false)⟩) (v := .agg (jC sc (.slice pc nc kc))) rfl (by kernel_rfl) (by kernel_rfl) (by kernel_rfl) (fun _ _ _ h => h) (Or.inl ⟨by kernel_rfl, fun W hW => exec_load rfl (by kernel_rfl) hW.2.1⟩) hHeld ?_
  refine wpAnyH_ready (rs := [12]) (by kernel_rfl) (by simp) ?_
  refine AllReadyH.cons rfl (fun K hK => ?_) AllReadyH.nil
  go_simp
  refine (HM1.out _ (below_on HBC.out HD.out)).mono ?_
  rintro e x12 ⟨rfl, hb⟩
  replace HD := hid (below_on HD.out hb)
  clear hb
  go_wp2_with fail
  refine hK.out _ _ (HSF.out _ HD.out) (fun hHeld => ?_)
  clear hK K
  refine wpAnyH_ready (rs := [15]) (by kernel_rfl) (by simp) ?_
  refine AllReadyH.cons rfl (fun K hK => ?_) AllReadyH.nil
  go_simp
  refine (HM2.out _ (below_on HBC.out HD.out)).mono ?_
  rintro e x15 ⟨rfl, hb⟩
  replace HD := hid (below_on HD.out hb)
  clear hb
  go_wp2_with fail
  refine hK.out _ _ (HSF.out _ HD.out) (fun hHeld => ?_)
  clear hK K
  refine wpAnyH_take (i := 16) (oi := ⟨some 56, .binOp .neq 4 (.tmp 52) (.tmp 55) 4, _, _, _, some (9, false)⟩) (v := .bool false) rfl (by kernel_rfl) (by kernel_rfl) (by kernel_rfl) (fun _ _ _ h => h) (Or.inl ⟨by kernel_rfl, by intro W hW; cases SM <;> go_simp⟩) hHeld ?_
  refine wpAnyH_take (i := 17) (oi := ⟨some 57, .pick (.tmp 49) (.const (.bool true)) (.tmp 56), _, _, _, none⟩) (v := .bool false) rfl (by kernel_rfl) (by kernel_rfl) (by kernel_rfl) (fun _ _ _ h => h) (Or.inl ⟨by kernel_rfl, by intro W hW; go_simp⟩) hHeld ?_
  refine wpAnyH_take (i := 18) (oi := ⟨some 58, .move (.tmp 57), _, _, _, none⟩) (v := .bool false) rfl (by kernel_rfl) (by kernel_rfl) (by kernel_rfl) (fun _ _ _ h => h) (Or.inl ⟨by kernel_rfl, by intro W hW; go_simp⟩) hHeld ?_
  refine wpAnyH_take (i := 19) (oi := ⟨some 59, .move (.tmp 9), _, _, _, some (18, false)⟩) (v := i64 0) rfl (by kernel_rfl) (by kernel_rfl) (by kernel_rfl) (fun _ _ _ h => h) (Or.inl ⟨by kernel_rfl, by intro W hW; go_simp⟩) hHeld ?_
  refine wpAnyH_take (i := 20) (oi := ⟨some 60, .binOp .eql 29 (.tmp 59) (.const (.int .i64 0)) 29, _, _, _, some (18, false)⟩) (v := .bool true) rfl (by kernel_rfl) (by kernel_rfl) (by kernel_rfl) (fun _ _ _ h => h) (Or.inl ⟨by kernel_rfl, by intro W hW; go_simp⟩) hHeld ?_
  refine wpAnyH_take (i := 21) (oi := ⟨some 61, .move (.tmp 60), _, _, _, some (18, false)⟩) (v := .bool true) rfl (by kernel_rfl) (by kernel_rfl) (by kernel_rfl) (fun _ _ _ h => h) (Or.inl ⟨by kernel_rfl, by intro W hW; go_simp⟩) hHeld ?_
  refine wpAnyH_take (i := 22) (oi := ⟨some 62, .move (.tmp 10), _, _, _, some (21, true)⟩) (v := .slice px JB.length kx) rfl (by kernel_rfl) (by kernel_rfl) (by kernel_rfl) (fun _ _ _ h => h) (Or.inl ⟨by kernel_rfl, by intro W hW; go_simp⟩) hHeld ?_
  refine wpAnyH_take (i := 23) (oi := ⟨some 63, .load 24 (.tmp 3), _, _, _, some (21, true)⟩) (v := .agg (jC sa (.slice pa na ka))) rfl (by kernel_rfl) (by kernel_rfl) (by kernel_rfl) (fun _ _ _ h => h) (Or.inl ⟨by kernel_rfl, fun W hW => exec_load rfl (by kernel_rfl) hW.1⟩) hHeld ?_
  refine wpAnyH_ready (rs := [24]) (by kernel_rfl) (by simp) ?_
  refine AllReadyH.cons rfl (fun K hK => ?_) AllReadyH.nil
  go_simp
  refine (HBZ.out _ (below_on HBC.out HD.out)).mono ?_
  rintro e x24 ⟨vz, rfl, hz9, hb⟩
  obtain ⟨pz, kz, hvz⟩ := hz9.form
  subst hvz
  have HZ9 := hid hz9.sl
  replace HX := hid (HX.out.below (below_on HD.out hb))
  clear hz9
  replace HD := hid (below_on HD.out hb)
  clear hb
  go_wp2_with fail
  refine hK.out _ _ (HSF.out _ HD.out) (fun hHeld => ?_)
  clear hK K
  have HSB : Hid (Calls Tryz.prog 12 #[.slice px JB.length kx, .slice pz JB.length kz] x24 fun e w' => e = .returned (.bool true) ∧ w' = x24) := hid (by have h9 := sameB_any HX.out HZ9.out HJ8.out HJ8.out; rw [decide_eq_true rfl] at h9; exact h9)
  refine wpAnyH_ready (rs := [25]) (by kernel_rfl) (by simp) ?_
  refine AllReadyH.cons rfl (fun K hK => ?_) AllReadyH.nil
  go_simp
  refine HSB.out.mono ?_
  rintro e x25 ⟨rfl, hw⟩
  have h2 := hw.symm
  subst h2
  go_wp2_with fail
  refine hK.out _ _ (HSF.out _ HD.out) (fun hHeld => ?_)
  clear hK K
  refine wpAnyH_take (i := 26) (oi := ⟨some 66, .unOp .not 4 (.tmp 65), _, _, _, some (21, true)⟩) (v := .bool false) rfl (by kernel_rfl) (by kernel_rfl) (by kernel_rfl) (fun _ _ _ h => h) (Or.inl ⟨by kernel_rfl, by intro W hW; go_simp⟩) hHeld ?_
  refine wpAnyH_take (i := 27) (oi := ⟨some 67, .pick (.tmp 61) (.tmp 66) (.const (.bool false)), _, _, _, some (18, false)⟩) (v := .bool false) rfl (by kernel_rfl) (by kernel_rfl) (by kernel_rfl) (fun _ _ _ h => h) (Or.inl ⟨by kernel_rfl, by intro W hW; go_simp⟩) hHeld ?_
  refine wpAnyH_take (i := 28) (oi := ⟨some 68, .pick (.tmp 58) (.const (.bool true)) (.tmp 67), _, _, _, none⟩) (v := .bool false) rfl (by kernel_rfl) (by kernel_rfl) (by kernel_rfl) (fun _ _ _ h => h) (Or.inl ⟨by kernel_rfl, by intro W hW; go_simp⟩) hHeld ?_
  refine wpAnyH_take (i := 29) (oi := ⟨some 69, .move (.tmp 68), _, _, _, none⟩) (v := .bool false) rfl (by kernel_rfl) (by kernel_rfl) (by kernel_rfl) (fun _ _ _ h => h) (Or.inl ⟨by kernel_rfl, by intro W hW; go_simp⟩) hHeld ?_
  refine wpAnyH_take (i := 30) (oi := ⟨some 70, .move (.tmp 9), _, _, _, some (29, false)⟩) (v := i64 0) rfl (by kernel_rfl) (by kernel_rfl) (by kernel_rfl) (fun _ _ _ h => h) (Or.inl ⟨by kernel_rfl, by intro W hW; go_simp⟩) hHeld ?_
  refine wpAnyH_take (i := 31) (oi := ⟨some 71, .binOp .neq 29 (.tmp 70) (.const (.int .i64 0)) 29, _, _, _, some (29, false)⟩) (v := .bool false) rfl (by kernel_rfl) (by kernel_rfl) (by kernel_rfl) (fun _ _ _ h => h) (Or.inl ⟨by kernel_rfl, by intro W hW; go_simp⟩) hHeld ?_
  refine wpAnyH_take (i := 32) (oi := ⟨some 72, .move (.tmp 71), _, _, _, some (29, false)⟩) (v := .bool false) rfl (by kernel_rfl) (by kernel_rfl) (by kernel_rfl) (fun _ _ _ h => h) (Or.inl ⟨by kernel_rfl, by intro W hW; go_simp⟩) hHeld ?_
  refine wpAnyH_take (i := 33) (oi := ⟨some 73, .move (.tmp 10), _, _, _, some (32, true)⟩) (v := undef) rfl (by kernel_rfl) (by kernel_rfl) (by kernel_rfl) (fun _ _ _ h => h) (Or.inr ⟨by kernel_rfl, rfl⟩) hHeld ?_
  refine wpAnyH_take (i := 34) (oi := ⟨some 74, .call { callee := .builtin .len, args := #[.tmp 73], argTypes := #[25] }, _, _, _, some (32, true)⟩) (v := undef) rfl (by kernel_rfl) (by kernel_rfl) (by kernel_rfl) (fun _ _ _ h => h) (Or.inr ⟨by kernel_rfl, rfl⟩) hHeld ?_
  refine wpAnyH_take (i := 35) (oi := ⟨some 75, .binOp .neq 3 (.tmp 74) (.const (.int .i64 0)) 3, _, _, _, some (32, true)⟩) (v := undef) rfl (by kernel_rfl) (by kernel_rfl) (by kernel_rfl) (fun _ _ _ h => h) (Or.inr ⟨by kernel_rfl, rfl⟩) hHeld ?_
  refine wpAnyH_take (i := 36) (oi := ⟨some 76, .pick (.tmp 72) (.tmp 75) (.const (.bool false)), _, _, _, some (29, false)⟩) (v := .bool false) rfl (by kernel_rfl) (by kernel_rfl) (by kernel_rfl) (fun _ _ _ h => h) (Or.inl ⟨by kernel_rfl, by intro W hW; go_simp⟩) hHeld ?_
  refine wpAnyH_take (i := 37) (oi := ⟨some 77, .pick (.tmp 69) (.const (.bool true)) (.tmp 76), _, _, _, none⟩) (v := .bool false) rfl (by kernel_rfl) (by kernel_rfl) (by kernel_rfl) (fun _ _ _ h => h) (Or.inl ⟨by kernel_rfl, by intro W hW; go_simp⟩) hHeld ?_
  refine wpAnyH_done (by kernel_rfl) ?_ _
  simp only [Act.put, List.setIfInBounds_toArray, List.set_cons_zero, List.set_cons_succ]
  clear hHeld
  replace HBC := hid (below_on HBC.out HD.out)
  clear HD HSF
  go_upto_region 9 with (first
    | ((with_reducible refine wpList_load_at 24 _ rfl ?_ g7 0 ?_ (jC sa (.slice pi ni ki)) (.struct (Tryz.prog.fieldsOf 24)) ?_ underJrn rfl ?_ ?_); exact rfl; exact rfl; exact (HCI.out.below HBC.out).wholeJ; exact sizeJ)
    | (go_at_call 14; refine (HCY.out _ HBC.out).mono ?_; rintro e wq ⟨vy, my, rfl, hr9, he9, hb9⟩; obtain ⟨py, ky, hvy, _⟩ := hr9.buf.form; subst hvy; have HSY := hid HBC.out.size; have HV : Hid (WJ _ _ wq (.slice py my.length ky) my) := hid (hr9.wj (by have h9 := congrArg List.length he9; rw [rcs_len, rcs_len] at h9; have := HLA.out; omega)); have HQY := hid he9; replace HBC := hid (below_on HBC.out hb9); clear hr9 he9 hb9)
    | ((with_reducible refine wpList_allocJ rfl rfl ?_); intro wz gy hz9 hb9 hg9; have HZ := hid hz9; have HZB := hid hb9; have HZG := hid hg9; clear hz9 hb9 hg9)
    | ((with_reducible refine wpList_storeJ rfl rfl _ _ rfl gy ?_ (s := sa) (v := .slice py my.length ky) ?_ rfl HZ.out ?_); exact rfl; exact rfl; intro wy h9 o9; have hbo := below_tr HZB.out (o9.below HZB.out.size (fun i e => by have := HZG.out; omega)); replace HBC := hid (below_on HBC.out hbo); replace HV := hid (HV.out.on hbo); have HU := hid hbo.size; have HCY2 := hid h9; clear h9 o9 hbo HZ HZB HZG))
  have HMY : Hid (∀ W, Below wy.heap.size wy W → Calls Tryz.prog 11 #[.agg (jC sa (.slice py my.length ky)), .agg (jC sa (.slice pa na ka))] W fun e w' => e = .returned (.bool true) ∧ Below W.heap.size W w') := hid (fun W hW => by have h9 := rjsame_any sa sa _ _ my la W (HV.out.rl.below hW) (HA5.out W (below_on HBC.out hW)); rw [HQY.out, decide_eq_true rfl] at h9; exact h9)
  have HBD := hid (Below.refl wy.heap.size wy)
  go_upto_region 11 with (first
    | ((with_reducible refine wpList_load_at 24 _ rfl ?_ gy 0 ?_ (jC sa (.slice py my.length ky)) (.struct (Tryz.prog.fieldsOf 24)) ?_ underJrn rfl ?_ ?_); exact rfl; exact rfl; exact HCY2.out.wholeJ; exact sizeJ)
    | ((with_reducible refine wpList_load_at 24 _ rfl ?_ ga 0 ?_ (jC sa (.slice pa na ka)) (.struct (Tryz.prog.fieldsOf 24)) ?_ underJrn rfl ?_ ?_); exact rfl; exact rfl; exact (HF.out.ca.below HBC.out).wholeJ; exact sizeJ)
    | (go_at_call 11; refine (HMY.out _ HBD.out).mono ?_; rintro e wm ⟨rfl, hb9⟩; replace HBC := hid (below_on HBC.out hb9); replace HV := hid (HV.out.on hb9); replace HCY2 := hid (HCY2.out.below hb9); replace HBD := hid (below_on HBD.out hb9); clear hb9))
  go_upto_region 12 with (first
    | ((with_reducible refine wpList_load_at 24 _ rfl ?_ gy 0 ?_ (jC sa (.slice py my.length ky)) (.struct (Tryz.prog.fieldsOf 24)) ?_ underJrn rfl ?_ ?_); exact rfl; exact rfl; exact HCY2.out.wholeJ; exact sizeJ)
    | (go_at_call 15; refine (over_any sa _ my _ _ _ HV.out.ov (by have := HU.out; have := HBD.out.size; omega)).mono ?_; rintro e wo ⟨rfl, o9⟩; replace HBC := hid (below_tr HBC.out (o9.below HBC.out.size (fun i e => Nat.le_trans HSY.out e.1))); clear o9 HV HCY2 HBD))
  go_upto_region 13 with (first
    | (go_at_call 16; refine (HRD1.out _ HBC.out).mono ?_; rintro e wqj ⟨sj, vj, mj, rfl, hr9, he9, hn9, hb9⟩; obtain ⟨pj, cj, hv9, _⟩ := hr9.buf.form; subst hv9; have HSj := hid HBC.out.size; have HTj := hid hb9.size; replace HBC := hid (below_on HBC.out hb9); have HQj := hid he9; have HVj := hid (hr9.wj hn9); clear hr9 he9 hn9 hb9)
    | ((with_reducible refine wpList_allocJ rfl rfl ?_); intro wzj gj hz9 hb9 hg9; have HZ := hid hz9; have HZB := hid hb9; have HGj := hid hg9; clear hz9 hb9 hg9)
    | ((with_reducible refine wpList_storeJ rfl rfl _ _ rfl gj ?_ (s := sj) (v := .slice pj mj.length cj) ?_ rfl HZ.out ?_); exact rfl; exact rfl; intro wyj h9 o9; have hbo := below_tr HZB.out (o9.below HZB.out.size (fun i e => by have := HGj.out; omega)); replace HBC := hid (below_on HBC.out hbo); replace HVj := hid (HVj.out.on hbo); have HUj := hid hbo.size; have HCj := hid h9; clear h9 o9 hbo HZ HZB))
  go_upto_region 14 with (first
    | (go_at_call 17; refine (HRD2.out _ HBC.out).mono ?_; rintro e wqz ⟨sz, vz, mz, rfl, hr9, he9, hn9, hb9⟩; obtain ⟨pz9, cz, hv9, _⟩ := hr9.buf.form; subst hv9; have HSz := hid HBC.out.size; have HTz := hid hb9.size; replace HBC := hid (below_on HBC.out hb9); replace HVj := hid (HVj.out.on hb9); replace HCj := hid (HCj.out.below hb9); have HQz := hid he9; have HVz := hid (hr9.wj hn9); clear hr9 he9 hn9 hb9)
    | ((with_reducible refine wpList_allocJ rfl rfl ?_); intro wzz gz hz9 hb9 hg9; have HZ := hid hz9; have HZB := hid hb9; have HGz := hid hg9; clear hz9 hb9 hg9)
    | ((with_reducible refine wpList_storeJ rfl rfl _ _ rfl gz ?_ (s := sz) (v := .slice pz9 mz.length cz) ?_ rfl HZ.out ?_); exact rfl; exact rfl; intro wyz h9 o9; have hbo := below_tr HZB.out (o9.below HZB.out.size (fun i e => by have := HGz.out; omega)); replace HBC := hid (below_on HBC.out hbo); replace HVj := hid (HVj.out.on hbo); replace HCj := hid (HCj.out.below hbo); replace HVz := hid (HVz.out.on hbo); have HUz := hid hbo.size; have HCz := hid h9; clear h9 o9 hbo HZ HZB))
  have HMJ : Hid (∀ W, Below wyz.heap.size wyz W → Calls Tryz.prog 11 #[.agg (jC sj (.slice pj mj.length cj)), .agg (jC sz (.slice pz9 mz.length cz))] W fun e w' => e = .returned (.bool true) ∧ Below W.heap.size W w') := hid (fun W hW => by have h9 := rjsame_any sj sz _ _ mj mz W (HVj.out.rl.below hW) (HVz.out.rl.below hW); rw [decide_eq_true (HQj.out.trans HQz.out.symm)] at h9; exact h9)
  have HBD := hid (Below.refl wyz.heap.size wyz)
  go_upto_region 15 with (first
    | ((with_reducible refine wpList_load_at 24 _ rfl ?_ gj 0 ?_ (jC sj (.slice pj mj.length cj)) (.struct (Tryz.prog.fieldsOf 24)) ?_ underJrn rfl ?_ ?_); exact rfl; exact rfl; exact HCj.out.wholeJ; exact sizeJ)
    | ((with_reducible refine wpList_load_at 24 _ rfl ?_ gz 0 ?_ (jC sz (.slice pz9 mz.length cz)) (.struct (Tryz.prog.fieldsOf 24)) ?_ underJrn rfl ?_ ?_); exact rfl; exact rfl; exact HCz.out.wholeJ; exact sizeJ)
    | (go_at_call 11; refine (HMJ.out _ HBD.out).mono ?_; rintro e wm2 ⟨rfl, hb9⟩; replace HBC := hid (below_on HBC.out hb9); replace HVj := hid (HVj.out.on hb9); replace HCj := hid (HCj.out.below hb9); replace HVz := hid (HVz.out.on hb9); replace HCz := hid (HCz.out.below hb9); replace HBD := hid (below_on HBD.out hb9); clear hb9))
  go_upto_region 16 with (first
    | ((with_reducible refine wpList_load_at 24 _ rfl ?_ gj 0 ?_ (jC sj (.slice pj mj.length cj)) (.struct (Tryz.prog.fieldsOf 24)) ?_ underJrn rfl ?_ ?_); exact rfl; exact rfl; exact HCj.out.wholeJ; exact sizeJ)
    | (go_at_call 15; refine (over_any sj _ mj _ _ _ HVj.out.ov (by have := HUj.out; have := HTz.out; have := HUz.out; have := HBD.out.size; omega)).mono ?_; rintro e wo2 ⟨rfl, o9⟩; replace HBC := hid (below_tr HBC.out (o9.below HBC.out.size (fun i e => Nat.le_trans HSj.out e.1))); clear o9 HVj HVz HCj HCz HBD))
  go_wp2_with (first
    | ((with_reducible refine wpList_load_at 24 _ rfl ?_ g7 0 ?_ (jC sa (.slice pi ni ki)) (.struct (Tryz.prog.fieldsOf 24)) ?_ underJrn rfl ?_ ?_); exact rfl; exact rfl; exact (HCI.out.below HBC.out).wholeJ; exact sizeJ)
    | ((with_reducible refine wpList_load_at 24 _ rfl ?_ ga 0 ?_ (jC sa (.slice pa na ka)) (.struct (Tryz.prog.fieldsOf 24)) ?_ underJrn rfl ?_ ?_); exact rfl; exact rfl; exact (HF.out.ca.below HBC.out).wholeJ; exact sizeJ)
    | (go_at_call 11; refine (HM3.out _ HBC.out).mono ?_; rintro e wf1 ⟨rfl, hb9⟩; replace HBC := hid (below_on HBC.out hb9); clear hb9)
    | (go_at_call 18; refine (HKP.out _ HBC.out).mono ?_; rintro e wf2 ⟨rfl, hb9⟩; replace HBC := hid (below_on HBC.out hb9); clear hb9)
    | (go_at_call 19; refine (HAW.out _ HBC.out).mono ?_; rintro e wf3 ⟨rfl, hb9⟩; replace HBC := hid (below_on HBC.out hb9); clear hb9))
  go_ret
  exact ⟨rfl, below_on HF.out.below HBC.out⟩
#print axioms jtells_ok
end Go.Proofs.YtcbmimjjpkkoeaaGreatDoor
