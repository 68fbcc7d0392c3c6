/- The walk of StripeMends: of any shards that are not large, whichever are there, Mend, Join, Sound and the errors are the document's own; what is handed in stays, and the answers lie in memory of their own. No conditions. -/
import Derived.Test.YtapgdenodhcliaaTf
import Derived.Deep.Grids
namespace Go.Proofs.Ytapgdenodhcliaa
open Go.ChangeShapes Go.WideShapes Go.ChangeAt Go.RowKit

/-- What is told of a list of bools that came in. -/
def IsBools (w : World) (a : Option Addr) (len : Nat) : Prop := ∃ H : Nat → Bool, BoolsAt w a len H
theorem bools_open {H : Type} {enc : TypeId × Value → H} {w : World} {held : Bool} {fuel : Nat} {a : Option Addr} {len cap : Nat} {x : DataW H × List MemPlace}
    (h : DataW.trod enc Try.prog w 0 (fun _ => true) held fuel 35 (Value.slice a len cap).cells.toList = some x) : IsBools w a len := by
  rcases Go.Deep.open_bools Try.underlying35 Try.underlying4 (by kernel_rfl) h with ⟨hcs, _⟩ | ⟨b, l, c, B, hcs, _, hl, _, _, hcell⟩
  · simp [Value.cells] at hcs
    obtain ⟨rfl, rfl, rfl⟩ := hcs
    exact ⟨fun _ => false, .inl rfl⟩
  · simp [Value.cells] at hcs
    obtain ⟨rfl, rfl, rfl⟩ := hcs
    by_cases h0 : len = 0
    · exact ⟨fun _ => false, .inl h0⟩
    · obtain ⟨b', o', rfl⟩ := plain_addr (hcell 0 (by omega))
      exact ⟨B, .inr ⟨b', o', rfl, fun i hi => by have := hcell i (by omega); rwa [add_plain'] at this⟩⟩
theorem OwnB.keep {B : Nat} {w w' : World} {g n : Nat} {H : Nat → Bool} (h : OwnB B w g n H) (hb : Below w.heap.size w w') : OwnB B w' g n H := own_keep h (hb.block g (own_ge h).2)
theorem OwnB.lent {B : Nat} {w : World} {g n : Nat} {H : Nat → Bool} (h : OwnB B w g (n + 3) (lentH n H)) : BoolsAt w (some ⟨g, 0, none⟩) n H := .inr ⟨g, 0, rfl, fun i hi => by
  have := own_cell (V := fun j => .bool (lentH n H j)) h i (by omega)
  unfold lentH at this
  rw [if_pos hi] at this
  rw [Nat.zero_add]; exact this⟩
/-- A list that the call has made, or one of no room. -/
def OwnU (B : Nat) (w : World) (p : Option Addr) (g n : Nat) (x : Nat → K) : Prop := n ≠ 0 → p = some ⟨g, 0, none⟩ ∧ w.ownsRow B 5 1 (.slice (some ⟨g, 0, none⟩) n n) n (vals n fun j => kv (x j))
theorem OwnU.keep {B : Nat} {w w' : World} {p : Option Addr} {g n : Nat} {x : Nat → K} (h : OwnU B w p g n x) (hb : Below w.heap.size w w') : OwnU B w' p g n x := fun q => ⟨(h q).1, own_keep (h q).2 (hb.block g (own_ge (h q).2).2)⟩
theorem OwnU.str {B : Nat} {w : World} {p : Option Addr} {g n : Nat} {x : Nat → K} (h : OwnU B w p g n x) : StrAt w p n (fun j => (x j).val) := by
  by_cases q : n = 0
  · exact .inl q
  · exact .inr ⟨g, 0, (h q).1, fun j hj => by rw [Nat.zero_add]; exact own_cell (V := fun j => kv (x j)) (h q).2 j hj⟩

set_option maxRecDepth 100000 in
set_option maxHeartbeats 8000000 in
theorem mends_all (a : Option Addr) (n c : Nat) (b : Option Addr) (nh ch : Nat) (k m s : Int) (w : World) (h1 : IsMat w a n) (h2 : IsBools w b nh) (hk : (Lit.int .i64 k).wf = true) (hm : (Lit.int .i64 m).wf = true) :
    Calls Try.prog 4 #[.slice a n c, .slice b nh ch, .int .i64 k, .int .i64 m, .int .i64 s] w fun e w' => e = .returned (.bool true) ∧ Below w.heap.size w w' := by
  obtain ⟨A, L, C, S, hS⟩ := h1
  obtain ⟨H, hH⟩ := h2
  have RS := hid hS
  have RH := hid hH
  have HK := hid hk
  have HM := hid hm
  clear hS hH hk hm
  go_enter Try.func4, Try.ntmps4
  go_wp2_with fail
  refine (large3_any a n c A L C w RS.out.top).mono ?_
  rintro e w' ⟨rfl, hw⟩
  have hw2 := hw.symm
  subst hw2
  clear hw
  cases gb : big3 n L with
  | true =>
    go_wp2
    go_ret
    exact ⟨rfl, Below.refl _ _⟩
  | false =>
    obtain ⟨hn, hLL⟩ := big3_not gb
    have HLL : Hid (∀ i, i < n → L i ≤ 70000) := hid (fun i hi => by have := hLL i hi; omega)
    clear gb hLL
    by_cases hnh : 40 < nh
    · go_wp2
      go_ret
      exact ⟨rfl, Below.refl _ _⟩
    · have CM := hid (cntM_le k m n nh H L)
      have LM : Hid (∀ i, i < cnt (errMU k m n nh H L) (k.toNat + m.toNat) → lenMU k m H L ≤ 65536) := hid (fun i hi => lenM_le hi)
      have CJ := hid (cntJ_le k m s n nh H L)
      obtain ⟨N, hN⟩ : ∃ N, N = cnt (errMU k m n nh H L) (k.toNat + m.toNat) := ⟨_, rfl⟩
      obtain ⟨l, hl⟩ : ∃ l, l = lenMU k m H L := ⟨_, rfl⟩
      obtain ⟨M, hM⟩ : ∃ M, M = cnt (errJU k m s n nh H L) s.toNat := ⟨_, rfl⟩
      rw [← hN] at CM LM
      rw [← hl] at LM
      rw [← hM] at CJ
      have NN := hid hN
      have NL := hid hl
      have NM := hid hM
      clear hN hl hM
      have hN16 := CM.out
      have hM6 := CJ.out
      go_wp2_with fail
      refine (lentLists2_any a n c A L C S w (by omega) HLL.out RS.out).mono ?_
      rintro e w1 ⟨vi, Gi, rfl, hi1, hb1⟩
      obtain ⟨pi, ci, rfl, hci⟩ := own_len hi1.top
      have B1 := hid hb1
      have I1 := hid hi1
      have hs1 := hb1.size
      clear hb1 hi1
      go_wp2_with fail
      refine (lentT_any b nh ch H w1 (by omega) (RH.out.keep (Stays.of_below B1.out))).mono ?_
      rintro e w2 ⟨rfl, ht2, hb2⟩
      have B2 := hid (B1.out.then hb2)
      have I2 := hid (OwnV.stay I1.out hb2)
      have T2 := hid ht2
      have GI : Hid (∀ i, i < n → w.heap.size ≤ Gi i ∧ Gi i < w1.heap.size) := hid (fun i hi => own_ge (OwnV.row I1.out i hi))
      have hs2 := hb2.size
      clear hb2 ht2 I1 B1
      go_wp2_with fail
      refine (mendU pi _ n nh ci _ k m _ L _ S H w2 HK.out HM.out (LentAt.toMatAt I2.out) T2.out.lent).mono ?_
      rintro e w3 ⟨ux, cx, Gx, rfl, hx3, hb3⟩
      rw [← NN.out] at hx3 ⊢
      rw [← NL.out] at hx3
      have B3 := hid (B2.out.then hb3)
      have I3 := hid (OwnV.stay I2.out hb3)
      have T3 := hid (T2.out.keep hb3)
      have X3 := hid hx3
      have GX : Hid (∀ i, i < N → w2.heap.size ≤ Gx i ∧ Gx i < w3.heap.size) := hid (fun i hi => own_ge (hx3.row i hi))
      have hs3 := hb3.size
      clear hb3 hx3 I2 B2 T2
      go_wp2_with fail
      refine (rmendU a b n nh c ch k m A L C S H w3 HK.out HM.out (RS.out.keep (Stays.of_below B3.out)) (RH.out.keep (Stays.of_below B3.out))).mono ?_
      rintro e w4 ⟨uy, cy, Gy, rfl, hy4, hb4⟩
      rw [← NN.out] at hy4 ⊢
      rw [← NL.out] at hy4
      have B4 := hid (B3.out.then hb4)
      have I4 := hid (OwnV.stay I3.out hb4)
      have T4 := hid (T3.out.keep hb4)
      have X4 := hid (OwnV.stay X3.out hb4)
      have Y4 := hid hy4
      have hs4 := hb4.size
      clear hb4 hy4 I3 B3 T3 X3
      go_wp2_with fail
      refine (joinU pi _ n nh ci _ k m s _ L _ S H w4 HK.out HM.out (LentAt.toMatAt I4.out) T4.out.lent).mono ?_
      rintro e w5 ⟨pu, gu, rfl, hu5, hb5⟩
      rw [← NM.out] at hu5 ⊢
      have B5 := hid (B4.out.then hb5)
      have I5 := hid (OwnV.stay I4.out hb5)
      have T5 := hid (T4.out.keep hb5)
      have X5 := hid (OwnV.stay X4.out hb5)
      have Y5 := hid (OwnV.stay Y4.out hb5)
      have U5 : Hid (OwnU w4.heap.size w5 pu gu M (jndU k m s H S)) := hid hu5
      have hs5 := hb5.size
      clear hb5 hu5 I4 B4 T4 X4 Y4
      go_wp2_with fail
      refine (rjoinU a b n nh c ch k m s A L C S H w5 HK.out HM.out (RS.out.keep (Stays.of_below B5.out)) (RH.out.keep (Stays.of_below B5.out))).mono ?_
      rintro e w6 ⟨pz, cz, rfl, hz6, hb6⟩
      rw [← NM.out] at hz6 ⊢
      have B6 := hid (B5.out.then hb6)
      have I6 := hid (OwnV.stay I5.out hb6)
      have T6 := hid (T5.out.keep hb6)
      have X6 := hid (OwnV.stay X5.out hb6)
      have Y6 := hid (OwnV.stay Y5.out hb6)
      have U6 := hid (U5.out.keep hb6)
      have Z6 := hid hz6
      have hs6 := hb6.size
      clear hb6 hz6 I5 B5 T5 X5 Y5 U5
      go_wp2_with fail
      refine (soundU pi n ci k m _ L _ S w6 HK.out HM.out (LentAt.toMatAt I6.out) (by omega) hci).mono ?_
      rintro e w7 ⟨rfl, hb7⟩
      have B7 := hid (B6.out.then hb7)
      have I7 := hid (OwnV.stay I6.out hb7)
      have T7 := hid (T6.out.keep hb7)
      have X7 := hid (OwnV.stay X6.out hb7)
      have Y7 := hid (OwnV.stay Y6.out hb7)
      have U7 := hid (U6.out.keep hb7)
      have Z7 := hid (Z6.out.keep (Stays.of_below hb7))
      have hs7 := hb7.size
      clear hb7 I6 B6 T6 X6 Y6 U6 Z6
      go_wp2_with fail
      refine (rsoundU a n c k m A L C S w7 HK.out HM.out (RS.out.keep (Stays.of_below B7.out))).mono ?_
      rintro e w8 ⟨rfl, hb8⟩
      have B8 := hid (B7.out.then hb8)
      have I8 := hid (OwnV.stay I7.out hb8)
      have T8 := hid (T7.out.keep hb8)
      have X8 := hid (OwnV.stay X7.out hb8)
      have Y8 := hid (OwnV.stay Y7.out hb8)
      have U8 := hid (U7.out.keep hb8)
      have Z8 := hid (Z7.out.keep (Stays.of_below hb8))
      have hs8 := hb8.size
      clear hb8 I7 B7 T7 X7 Y7 U7 Z7
      have s1 : (errMU k m n nh H L != errMU k m n nh H L) = false := by simp
      have s2 : (errJU k m s n nh H L != errJU k m s n nh H L) = false := by simp
      have s3 : (sndU k m n L S != sndU k m n L S) = false := by simp
      have s4 : (errSU k m n L != errSU k m n L) = false := by simp
      go_wp2_with fail
      refine (sameLists_true ux uy N cx cy _ _ (fun _ => l) _ _ _ _ w8 (by omega) (X8.out.toMatAt (fun _ _ => ⟨Nat.le_refl _, Nat.le_refl _⟩) (fun _ _ _ _ => rfl)) (Y8.out.toMatAt (fun _ _ => ⟨Nat.le_refl _, Nat.le_refl _⟩) (fun _ _ _ _ => rfl)) (fun _ _ _ _ => rfl)).mono ?_
      rintro e w9 ⟨rfl, hb9⟩
      have B9 := hid (B8.out.then hb9)
      have I9 := hid (OwnV.stay I8.out hb9)
      have T9 := hid (T8.out.keep hb9)
      have X9 := hid (OwnV.stay X8.out hb9)
      have U9 := hid (U8.out.keep hb9)
      have Z9 := hid (Z8.out.keep (Stays.of_below hb9))
      have hs9 := hb9.size
      clear hb9 I8 B8 T8 X8 Y8 U8 Z8
      go_wp2_with fail
      refine (same_true _ _ M _ _ (fun j => (jndU k m s H S j).val) w9 U9.out.str Z9.out).mono ?_
      rintro e w' ⟨rfl, hw⟩
      have hw2 := hw.symm
      subst hw2
      clear hw Z9
      go_wp2_with fail
      refine (keptLists_any w.heap.size _ a n c Gi A L C S w9 (by omega) HLL.out I9.out (RS.out.keep (Stays.of_below B9.out))).mono ?_
      rintro e wA ⟨rfl, hbA⟩
      have BA := hid (B9.out.then hbA)
      have IA := hid (OwnV.stay I9.out hbA)
      have TA := hid (T9.out.keep hbA)
      have XA := hid (OwnV.stay X9.out hbA)
      have UA := hid (U9.out.keep hbA)
      have hsA := hbA.size
      clear hbA I9 B9 T9 X9 U9
      go_wp2_with fail
      refine (keptT_any w1.heap.size w1.heap.size nh ch b H wA (by omega) TA.out (RH.out.keep (Stays.of_below BA.out))).mono ?_
      rintro e wB ⟨rfl, hbB⟩
      have BB := hid (BA.out.then hbB)
      have IB := hid (OwnV.stay IA.out hbB)
      have XB := hid (OwnV.stay XA.out hbB)
      have UB := hid (UA.out.keep hbB)
      have hsB := hbB.size
      clear hbB IA BA TA XA UA
      have hszB := BB.out.size
      have GU : Hid (M ≠ 0 → w4.heap.size ≤ gu ∧ gu < wB.heap.size) := hid (fun q => own_ge (UB.out q).2)
      have A0 := ap_start wB w.heap.size hszB
      have hal : Below wB.heap.size wB (wB.alloc (.cells #[] 22)) := (Below.refl _ _).alloc (Nat.le_refl _) _
      obtain ⟨vC, wC, rC, oC, gC, tC⟩ := join_run A0.top (XB.out.stay hal).top slice_oneA (by omega) (by simp; omega)
      have APC := ap_join (A2 := fun i => some ⟨Gx i, 0, none⟩) (L2 := fun _ => l) (C2 := fun _ => l) (G2 := Gx) A0 (fun i hi _ => ⟨rfl, own_base ((XB.out.stay hal).row i hi) (by omega)⟩) (fun i j hi hj _ _ q => XB.out.inj i j hi hj q) (fun i j hi => absurd hi (by omega)) gC oC
      have hzB : (wB.alloc (.cells #[] 22)).heap.size = wB.heap.size + 1 := by simp
      have hbC : Below wB.heap.size wB wC := Below.grown hal gC (by omega) (fun z q => Nat.le_of_eq (by simpa [Value.ownBlock] using q))
      have hsC := gC.size
      have hvC : ∀ z, vC.ownBlock = some z → wB.heap.size ≤ z := fun z q => by
        rcases tC with e | e
        · rw [e] at q; have q2 : wB.heap.size = z := by simpa [Value.ownBlock] using q
          omega
        · rw [e, hzB] at q; have q2 : wB.heap.size + 1 = z := by simpa using q
          omega
      obtain ⟨vD, wD, rD, oD, gD, tD⟩ := one_run (.slice pu M M) rfl APC.top (by omega) (by omega)
      have halC : Below wC.heap.size wC (wC.alloc (.cells #[.slice pu M M] 22)) := (Below.refl _ _).alloc (Nat.le_refl _) _
      have UC := (UB.out.keep hbC).keep halC
      have APD := ap_join (A2 := fun _ => pu) (L2 := fun _ => M) (C2 := fun _ => M) (G2 := fun _ => gu) (X2 := fun _ => jndU k m s H S) (m := 1) (APC.stay halC) (fun i hi q => ⟨(UC q).1, own_base (UC q).2 (by omega)⟩) (fun i j hi hj _ _ _ => by omega) (fun i j hi hj _ q9 q => by
        unfold two at q
        rw [if_neg (by omega)] at q
        have g1 := GX.out (i - 0) (by omega)
        have g2 := GU.out q9
        have q' : Gx (i - 0) = gu := q
        omega) gD (by exact oD)
      have hbD : Below wB.heap.size wB wD := Below.grown (hbC.alloc (by omega) _) gD (by simp; omega) (fun z q => hvC z q)
      have hsD := gD.size
      have hzC : (wC.alloc (.cells #[.slice pu M M] 22)).heap.size = wC.heap.size + 1 := by simp
      have hvD : ∀ z, vD.ownBlock = some z → wB.heap.size ≤ z := fun z q => by
        rcases tD with e | e
        · rw [e] at q; exact hvC z q
        · rw [e] at q; have q2 : wC.heap.size + 1 = z := by simpa using q
          omega
      have ID := OwnV.stay IB.out hbD
      obtain ⟨vE, wE, rE, oE, gE, tE⟩ := join_run APD.top ID.top slice_one (by omega) (by omega)
      have APE := ap_join (A2 := fun i => some ⟨Gi i, 0, none⟩) (L2 := L) (C2 := fun i => L i + 3) (G2 := Gi) APD (fun i hi _ => ⟨rfl, ID.row i hi⟩) (fun i j hi hj _ _ q => ID.inj i j hi hj q) (fun i j hi hj c1 _ q => by
        have g2 := GI.out j hj
        unfold two at q c1
        by_cases q1 : i < 0 + N
        · rw [if_pos q1, if_neg (by omega)] at q
          have g1 := GX.out (i - 0) (by omega)
          have q' : Gx (i - 0) = Gi j := q
          omega
        · rw [if_neg q1] at q c1
          have g1 := GU.out c1
          have q' : gu = Gi j := q
          omega) gE oE
      have hbE : Below wB.heap.size wB wE := Below.grown hbD gE (by omega) (fun z q => hvD z q)
      have HAP := hid APE
      have HRC := hid rC
      have HRD := hid rD
      have HRE := hid rE
      have BE := hid (BB.out.then hbE)
      have HCC : Hid (∀ i, i < 0 + N + 1 + n → two (0 + N + 1) (two (0 + N) (two 0 (fun _ => 0) fun _ => l) (fun _ => M)) (fun i => L i + 3) i ≤ 70003) := hid (fun i hi => by
        unfold two
        by_cases q : i < 0 + N + 1
        · rw [if_pos q]
          by_cases q2 : i < 0 + N
          · rw [if_pos q2, if_neg (by omega)]; show l ≤ 70003; have := LM.out (i - 0) (by omega); omega
          · rw [if_neg q2]; show M ≤ 70003; omega
        · rw [if_neg q]; show L (i - (0 + N + 1)) + 3 ≤ 70003; have := HLL.out (i - (0 + N + 1)) (by omega); omega)
      have HGE : Hid (∀ i, i < 0 + N + 1 + n → two (0 + N + 1) (two (0 + N) (two 0 (fun _ => 0) fun _ => l) (fun _ => M)) (fun i => L i + 3) i ≠ 0 → w.heap.size ≤ two (0 + N + 1) (two (0 + N) (two 0 (fun _ => 0) Gx) (fun _ => gu)) Gi i) := hid (fun i hi hne => (own_ge (APE.row i hi hne).2).1)
      clear APC APD APE A0 rC oC gC tC rD oD gD tD rE oE gE tE hvC hvD hal halC hbC hbD hbE ID UC IB XB UB
      go_wp2_with (first | (at_builtin; refine wpList_append_run (.tmp 124) (.tmp 125) 24 rfl (by first | rfl | simp [Region.wanted, yielded]) _ _ vC rfl rfl HRC.out ?_) | (at_builtin; refine wpList_append_run (.tmp 126) (.tmp 128) 24 rfl (by first | rfl | simp [Region.wanted, yielded]) _ _ vD rfl rfl HRD.out ?_) | (at_builtin; refine wpList_append_run (.tmp 129) (.tmp 130) 24 rfl (by first | rfl | simp [Region.wanted, yielded]) _ _ vE rfl rfl HRE.out ?_))
      refine (apartG_any w.heap.size vE (0 + N + 1 + n) _ _ _ _ _ wE (by omega) HCC.out HAP.out).mono ?_
      rintro e wF ⟨rfl, hsF⟩
      have BF := hid (hsF.below BE.out BE.out.size (fun z ⟨r, hr, hc, q⟩ => by rw [q]; exact HGE.out r hr hc))
      clear hsF
      go_wp2_with fail
      refine (awake_any wF).mono ?_
      rintro e wG ⟨rfl, hbG⟩
      have BG := hid (BF.out.then hbG)
      clear hbG
      go_wp2
      go_ret
      exact ⟨rfl, BG.out⟩
end Go.Proofs.Ytapgdenodhcliaa
