/- Contracts of Of of package digest and of the document's own answer: the digest of texts' digests, or the error. -/
import Derived.Test.YtfhjioedelpgiaaDoorRc
import Derived.Test.YtfhjioedelpgiaaDoorSj
namespace Go.Proofs.YtfhjioedelpgiaaDoor
open Go Go.RowKit

/-- A list of lists of bytes in memory. -/
def LsAt (w : World) (p : Option Addr) (n : Nat) (A : Nat → Option Addr) (L C : Nat → Nat) (X : Nat → Nat → Nat) : Prop :=
  n = 0 ∨ ∃ b o, p = some ⟨b, o, none⟩ ∧ ∀ i, i < n → w.cell? ⟨b, o + i, none⟩ = some (.slice (A i) (L i) (C i)) ∧ StrAt w (A i) (L i) (X i) ∧ L i ≤ C i ∧ (A i = none → L i = 0 ∧ C i = 0) ∧ ∀ j, j < L i → X i j < 256
theorem LsAt.below {w w' : World} {p : Option Addr} {n : Nat} {A : Nat → Option Addr} {L C : Nat → Nat} {X : Nat → Nat → Nat} (h : LsAt w p n A L C X) (hb : Below w.heap.size w w') : LsAt w' p n A L C X := by
  rcases h with h | ⟨b, o, rfl, hr⟩
  · exact .inl h
  · refine .inr ⟨b, o, rfl, fun i hi => ?_⟩
    obtain ⟨h1, h2, h3⟩ := hr i hi
    exact ⟨(hb.cell (p := ⟨b, o + i, none⟩) (show b < w.heap.size from cell_lt h1)).trans h1, h2.below hb, h3⟩
theorem LsAt.at {w : World} {p : Option Addr} {n : Nat} {A : Nat → Option Addr} {L C : Nat → Nat} {X : Nat → Nat → Nat} (h : LsAt w p n A L C X) (k : Nat) (hk : k < n) :
    ∃ b o, p = some ⟨b, o, none⟩ ∧ w.cell? ⟨b, o + k, none⟩ = some (.slice (A k) (L k) (C k)) ∧ StrAt w (A k) (L k) (X k) ∧ L k ≤ C k ∧ (A k = none → L k = 0 ∧ C k = 0) ∧ ∀ j, j < L k → X k j < 256 := by
  rcases h with h | ⟨b, o, rfl, hr⟩
  · omega
  · exact ⟨b, o, rfl, hr k hk⟩
def allS (L : Nat → Nat) (X : Nat → Nat → Nat) (j : Nat) : Nat := sha (L (j / 32)) (X (j / 32)) (j % 32)
theorem allS_lt (L : Nat → Nat) (X : Nat → Nat → Nat) (j : Nat) : allS L X j < 256 := sha_lt _ _ _
theorem allS_step (L : Nat → Nat) (X : Nat → Nat → Nat) (k i : Nat) (h : i < 32 * k + 32) : (if i < 32 * k then allS L X i else sha (L k) (X k) (i - 32 * k)) = allS L X i := by
  by_cases e : i < 32 * k
  · rw [if_pos e]
  · rw [if_neg e]; unfold allS
    rw [show i / 32 = k by omega, show i % 32 = i - 32 * k by omega]
/-- What Of tells. -/
def ofF (n : Nat) (L : Nat → Nat) (X : Nat → Nat → Nat) : Nat → Nat := if 4096 < n then zB else sha (32 * n) (allS L X)
def ofE (n : Nat) : Int := if 4096 < n then 3 else 0
set_option maxRecDepth 100000 in
set_option maxHeartbeats 1000000 in
theorem of_many (p : Option Addr) (n c : Nat) (w : World) (hn : 4096 < n) (L : Nat → Nat) (X : Nat → Nat → Nat) :
    Calls Tryd.prog 8 #[.slice p n c] w fun e w' => e = .returned (.tuple #[.agg (aB 32 (ofF n L X)), .int .i64 (ofE n)]) ∧ Below w.heap.size w w' := by
  have e1 : ofF n L X = zB := by unfold ofF; rw [if_pos hn]
  have e2 : ofE n = 3 := by unfold ofE; rw [if_pos hn]
  have HE : Hid (ofF n L X = zB ∧ ofE n = 3) := ⟨e1, e2⟩
  have hn' : (4096 : Int) < (n : Int) := by omega
  have HR := hid (CAt.new w (aB 32 zB) 24)
  have HB : Hid (Below w.heap.size w (w.alloc (.cells (aB 32 zB) 24))) := (Below.refl _ _).alloc (by omega) _
  clear e1 e2 hn
  go_enter Tryd.func8, Tryd.ntmps8
  go_wp2_with (first
    | refine wpList_alloc_row rfl 24 rfl _ zero32 ?_
    | refine wpList_build_to rfl 24 _ rfl (aB 32 zB) (by kernel_rfl) ?_
    | refine wpList_store_row rfl 24 _ _ rfl _ _ rfl rfl _ _ HR.out (size32 _) (by simp only [aB_size]) (aB_one _ _) ?_)
  refine ret_row2 rfl _ _ _ _ _ _ rfl rfl rfl (HR.out.row _) Tryd.underlying24 rfl (size32 _) ⟨?_, below_setRow HB.out (by omega) _⟩
  rw [HE.out.1, HE.out.2]
  rfl
set_option maxRecDepth 100000 in
set_option maxHeartbeats 1000000 in
theorem of_few (p : Option Addr) (n c : Nat) (A : Nat → Option Addr) (L C : Nat → Nat) (X : Nat → Nat → Nat) (w : World) (hn : n ≤ 4096) (hL : ∀ i, i < n → L i ≤ 400000) (hT : LsAt w p n A L C X) :
    Calls Tryd.prog 8 #[.slice p n c] w fun e w' => e = .returned (.tuple #[.agg (aB 32 (ofF n L X)), .int .i64 (ofE n)]) ∧ Below w.heap.size w w' := by
  have e1 : ofF n L X = sha (32 * n) (allS L X) := by unfold ofF; rw [if_neg (by omega)]
  have e2 : ofE n = 0 := by unfold ofE; rw [if_neg (by omega)]
  have HE : Hid (ofF n L X = sha (32 * n) (allS L X) ∧ ofE n = 0) := ⟨e1, e2⟩
  have hn' : (n : Int) ≤ 4096 := by omega
  have HT := hid hT
  have HL := hid hL
  have HN := hid hn
  have HR := hid (CAt.new w (aB 32 zB) 24)
  have HB0 : Hid (Below w.heap.size w (w.alloc (.cells (aB 32 zB) 24))) := (Below.refl _ _).alloc (by omega) _
  clear e1 e2 hT hL
  go_enter Tryd.func8, Tryd.ntmps8
  go_wp2_with (refine wpList_alloc_row rfl 24 rfl _ zero32 ?_)
  go_loopw [4, 14] (fun v i wr => ∃ k : Nat, k ≤ n ∧ i = .int .i64 k ∧ RsM w wr v (32 * k) (allS L X)) (fun _ i _ => (n - intOf i).toNat)
  case atStart => exact ⟨0, by omega, rfl, Buf.nil _ _ _, HR.out, HB0.out⟩
  case round =>
    clear HR HB0
    obtain ⟨k, hk, rfl, hm⟩ := hrel
    by_cases hlt : k < n
    · have hlt' : (k : Int) < (n : Int) := by omega
      obtain ⟨b, o, rfl, hc, hst, hlc, hpn, hbd⟩ := (HT.out.below hm.below).at k hlt
      have HST := hid hst
      have HLC := hid hlc
      have HPN := hid hpn
      have HBD := hid hbd
      have HM := hid hm
      have HLk := hid (HL.out k hlt)
      clear hm hst hlc hpn hbd
      go_upto_region 8 with (first
        | (go_at_call 20; refine (sum_any _ (L k) _ (X k) _ (by have := HLk.out; omega) HLC.out HST.out HBD.out).mono ?_; rintro e w1 ⟨rfl, hb1⟩; have HF1 := hid (HM.out.buf.below hb1); have HR1 := hid (HM.out.res.below hb1 HM.out.res.lt); have HB1 := hid (HM.out.below.trans (hb1.mono HM.out.below.size)); clear hb1)
        | refine wpList_alloc_row rfl 24 rfl _ zero32 ?_
        | refine wpList_store_row rfl 24 _ _ rfl _ _ rfl rfl _ _ (CAt.new _ _ _) (size32 _) (by simp only [aB_size]) (aB_one _ _) ?_)
      obtain ⟨D, hD⟩ : ∃ D : Nat → Nat, D = sha (L k) (X k) := ⟨_, rfl⟩
      rw [← hD]
      have HD := hid hD
      clear hD
      have hlr := HR1.out.lt
      have hw1 : w.heap.size + 1 ≤ w1.heap.size := hlr
      have c2 : CAt ((w1.alloc (.cells (aB 32 zB) 24)).setRow w1.heap.size (aB 32 D)) w1.heap.size (aB 32 D) 24 := (CAt.new _ _ _).row _
      have b2 : Below w1.heap.size w1 ((w1.alloc (.cells (aB 32 zB) 24)).setRow w1.heap.size (aB 32 D)) := below_setRow ((Below.refl _ _).alloc (by omega) _) (by omega) _
      have f2 := HF1.out.below b2
      have s2 : StrAt ((w1.alloc (.cells (aB 32 zB) 24)).setRow w1.heap.size (aB 32 D)) (some ⟨w1.heap.size, 0, none⟩) 32 D := .inr ⟨_, _, rfl, row_of_CAt c2 32 (by omega)⟩
      obtain ⟨v3, w3, hr3, f3, b3⟩ := f2.app _ 32 32 _ s2 (fun e => by cases e) (by have := HN.out; omega) (Nat.le_trans hw1 b2.size)
      have m3 : RsM w w3 v3 (32 * k + 32) (allS L X) := ⟨f3.congr (fun i hi => by rw [HD.out]; exact allS_step L X k i hi), (HR1.out.below b2 hlr).below b3 (by omega), (HB1.out.trans (b2.mono (by omega))).trans (b3.mono (by omega))⟩
      have HR3 := hid hr3
      have HM3 := hid m3
      clear hlr hw1 c2 b2 f2 s2 hr3 f3 b3 m3
      generalize ((w1.alloc (.cells (aB 32 zB) 24)).setRow w1.heap.size (aB 32 D)) = w2 at *
      go_wp2_with (refine wpList_append_eq rfl _ _ 26 rfl _ _ rfl rfl _ _ HR3.out ?_)
      go_roundw
      case rel => exact ⟨k + 1, by omega, by go_num, by rw [show 32 * (k + 1) = 32 * k + 32 by omega]; exact HM3.out⟩
      case measure => simp [intOf]; omega
    · have e : k = n := by omega
      have hge : ¬ (k : Int) < (n : Int) := by omega
      obtain ⟨pv, cv, rfl, hcv, hst, hpn⟩ := hm.buf.str
      have h6 : 32 * k ≤ 400000 := by omega
      generalize hN : 32 * k = N at *
      have HST := hid hst
      have HCV := hid hcv
      have HPN := hid hpn
      have HM := hid hm
      have HK := hid e
      have HNN := hid hN.symm
      have HN6 := hid h6
      clear h6
      clear hm hst hcv hpn e hN
      go_wp2_with (first
        | (go_at_call 20; refine (sum_any _ N _ (allS L X) _ (by have := HN6.out; omega) HCV.out HST.out (fun i _ => allS_lt L X i)).mono ?_; rintro e w1 ⟨rfl, hb1⟩; have HR1 := hid (HM.out.res.below hb1 HM.out.res.lt); have HB1 := hid (HM.out.below.trans (hb1.mono HM.out.below.size)); clear hb1)
        | refine wpList_store_row rfl 24 _ _ rfl _ _ rfl rfl _ _ HR1.out (size32 _) (by simp only [aB_size]) (aB_one _ _) ?_)
      refine ret_row2 rfl _ _ _ _ _ _ rfl rfl rfl (HR1.out.row _) Tryd.underlying24 rfl (size32 _) ⟨?_, below_setRow HB1.out (by omega) _⟩
      rw [HE.out.1, HE.out.2, HNN.out, HK.out]
      rfl
theorem of_any (p : Option Addr) (n c : Nat) (A : Nat → Option Addr) (L C : Nat → Nat) (X : Nat → Nat → Nat) (w : World) (hL : ∀ i, i < n → L i ≤ 400000) (hT : LsAt w p n A L C X) :
    Calls Tryd.prog 8 #[.slice p n c] w fun e w' => e = .returned (.tuple #[.agg (aB 32 (ofF n L X)), .int .i64 (ofE n)]) ∧ Below w.heap.size w w' := by
  by_cases h : 4096 < n
  · exact of_many p n c w h L X
  · exact of_few p n c A L C X w (by omega) hL hT
set_option maxRecDepth 100000 in
set_option maxHeartbeats 1000000 in
theorem rof_many (p : Option Addr) (n c : Nat) (w : World) (hn : 4096 < n) (L : Nat → Nat) (X : Nat → Nat → Nat) :
    Calls Tryd.prog 9 #[.slice p n c] w fun e w' => e = .returned (.tuple #[.agg (aB 32 (ofF n L X)), .int .i64 (ofE n)]) ∧ Below w.heap.size w w' := by
  have e1 : ofF n L X = zB := by unfold ofF; rw [if_pos hn]
  have e2 : ofE n = 3 := by unfold ofE; rw [if_pos hn]
  have HE : Hid (ofF n L X = zB ∧ ofE n = 3) := ⟨e1, e2⟩
  have hn' : (4096 : Int) < (n : Int) := by omega
  have HR := hid (CAt.new w (aB 32 zB) 24)
  have HB : Hid (Below w.heap.size w (w.alloc (.cells (aB 32 zB) 24))) := (Below.refl _ _).alloc (by omega) _
  clear e1 e2 hn
  go_enter Tryd.func9, Tryd.ntmps9
  go_wp2_with (first
    | refine wpList_alloc_row rfl 24 rfl _ zero32 ?_
    | refine wpList_build_to rfl 24 _ rfl (aB 32 zB) (by kernel_rfl) ?_
    | refine wpList_store_row rfl 24 _ _ rfl _ _ rfl rfl _ _ HR.out (size32 _) (by simp only [aB_size]) (aB_one _ _) ?_)
  refine ret_row2 rfl _ _ _ _ _ _ rfl rfl rfl (HR.out.row _) Tryd.underlying24 rfl (size32 _) ⟨?_, below_setRow HB.out (by omega) _⟩
  rw [HE.out.1, HE.out.2]
  rfl
set_option maxRecDepth 100000 in
set_option maxHeartbeats 1000000 in
theorem rof_few (p : Option Addr) (n c : Nat) (A : Nat → Option Addr) (L C : Nat → Nat) (X : Nat → Nat → Nat) (w : World) (hn : n ≤ 4096) (hL : ∀ i, i < n → L i ≤ 400000) (hT : LsAt w p n A L C X) :
    Calls Tryd.prog 9 #[.slice p n c] w fun e w' => e = .returned (.tuple #[.agg (aB 32 (ofF n L X)), .int .i64 (ofE n)]) ∧ Below w.heap.size w w' := by
  have e1 : ofF n L X = sha (32 * n) (allS L X) := by unfold ofF; rw [if_neg (by omega)]
  have e2 : ofE n = 0 := by unfold ofE; rw [if_neg (by omega)]
  have HE : Hid (ofF n L X = sha (32 * n) (allS L X) ∧ ofE n = 0) := ⟨e1, e2⟩
  have hn' : (n : Int) ≤ 4096 := by omega
  have HT := hid hT
  have HL := hid hL
  have HN := hid hn
  have HR := hid (CAt.new w (aB 32 zB) 24)
  have HB0 : Hid (Below w.heap.size w (w.alloc (.cells (aB 32 zB) 24))) := (Below.refl _ _).alloc (by omega) _
  clear e1 e2 hT hL
  go_enter Tryd.func9, Tryd.ntmps9
  go_wp2_with (refine wpList_alloc_row rfl 24 rfl _ zero32 ?_)
  go_loopw [4, 5] (fun v i wr => ∃ k : Nat, k ≤ n ∧ i = .int .i64 k ∧ RsM w wr v (32 * k) (allS L X)) (fun _ i _ => (n - intOf i).toNat)
  case atStart => exact ⟨0, by omega, rfl, Buf.nil _ _ _, HR.out, HB0.out⟩
  case round =>
    clear HR HB0
    obtain ⟨k, hk, rfl, hm⟩ := hrel
    by_cases hlt : k < n
    · have hlt' : (k : Int) < (n : Int) := by omega
      obtain ⟨b, o, rfl, hc, hst, hlc, hpn, hbd⟩ := (HT.out.below hm.below).at k hlt
      have HST := hid hst
      have HLC := hid hlc
      have HPN := hid hpn
      have HBD := hid hbd
      have HM := hid hm
      have HLk := hid (HL.out k hlt)
      clear hm hst hlc hpn hbd
      go_upto_region 8 with (first
        | (go_at_call 23; refine (rsum_any _ (L k) _ (X k) _ (by have := HLk.out; omega) HPN.out HST.out HBD.out).mono ?_; rintro e w1 ⟨rfl, hb1⟩; have HF1 := hid (HM.out.buf.below hb1); have HR1 := hid (HM.out.res.below hb1 HM.out.res.lt); have HB1 := hid (HM.out.below.trans (hb1.mono HM.out.below.size)); clear hb1)
        | refine wpList_alloc_row rfl 24 rfl _ zero32 ?_
        | refine wpList_store_row rfl 24 _ _ rfl _ _ rfl rfl _ _ (CAt.new _ _ _) (size32 _) (by simp only [aB_size]) (aB_one _ _) ?_)
      obtain ⟨D, hD⟩ : ∃ D : Nat → Nat, D = sha (L k) (X k) := ⟨_, rfl⟩
      rw [← hD]
      have HD := hid hD
      clear hD
      have hlr := HR1.out.lt
      have hw1 : w.heap.size + 1 ≤ w1.heap.size := hlr
      have c2 : CAt ((w1.alloc (.cells (aB 32 zB) 24)).setRow w1.heap.size (aB 32 D)) w1.heap.size (aB 32 D) 24 := (CAt.new _ _ _).row _
      have b2 : Below w1.heap.size w1 ((w1.alloc (.cells (aB 32 zB) 24)).setRow w1.heap.size (aB 32 D)) := below_setRow ((Below.refl _ _).alloc (by omega) _) (by omega) _
      have f2 := HF1.out.below b2
      have s2 : StrAt ((w1.alloc (.cells (aB 32 zB) 24)).setRow w1.heap.size (aB 32 D)) (some ⟨w1.heap.size, 0, none⟩) 32 D := .inr ⟨_, _, rfl, row_of_CAt c2 32 (by omega)⟩
      obtain ⟨v3, w3, hr3, f3, b3⟩ := f2.app _ 32 32 _ s2 (fun e => by cases e) (by have := HN.out; omega) (Nat.le_trans hw1 b2.size)
      have m3 : RsM w w3 v3 (32 * k + 32) (allS L X) := ⟨f3.congr (fun i hi => by rw [HD.out]; exact allS_step L X k i hi), (HR1.out.below b2 hlr).below b3 (by omega), (HB1.out.trans (b2.mono (by omega))).trans (b3.mono (by omega))⟩
      have HR3 := hid hr3
      have HM3 := hid m3
      clear hlr hw1 c2 b2 f2 s2 hr3 f3 b3 m3
      generalize ((w1.alloc (.cells (aB 32 zB) 24)).setRow w1.heap.size (aB 32 D)) = w2 at *
      go_wp2_with (refine wpList_append_eq rfl _ _ 26 rfl _ _ rfl rfl _ _ HR3.out ?_)
      go_roundw
      case rel => exact ⟨k + 1, by omega, by go_num, by rw [show 32 * (k + 1) = 32 * k + 32 by omega]; exact HM3.out⟩
      case measure => simp [intOf]; omega
    · have e : k = n := by omega
      have hge : ¬ (k : Int) < (n : Int) := by omega
      obtain ⟨pv, cv, rfl, hcv, hst, hpn⟩ := hm.buf.str
      have h6 : 32 * k ≤ 400000 := by omega
      generalize hN : 32 * k = N at *
      have HST := hid hst
      have HCV := hid hcv
      have HPN := hid hpn
      have HM := hid hm
      have HK := hid e
      have HNN := hid hN.symm
      have HN6 := hid h6
      clear h6
      clear hm hst hcv hpn e hN
      go_wp2_with (first
        | (go_at_call 23; refine (rsum_any _ N _ (allS L X) _ (by have := HN6.out; omega) HPN.out HST.out (fun i _ => allS_lt L X i)).mono ?_; rintro e w1 ⟨rfl, hb1⟩; have HR1 := hid (HM.out.res.below hb1 HM.out.res.lt); have HB1 := hid (HM.out.below.trans (hb1.mono HM.out.below.size)); clear hb1)
        | refine wpList_store_row rfl 24 _ _ rfl _ _ rfl rfl _ _ HR1.out (size32 _) (by simp only [aB_size]) (aB_one _ _) ?_)
      refine ret_row2 rfl _ _ _ _ _ _ rfl rfl rfl (HR1.out.row _) Tryd.underlying24 rfl (size32 _) ⟨?_, below_setRow HB1.out (by omega) _⟩
      rw [HE.out.1, HE.out.2, HNN.out, HK.out]
      rfl
theorem rof_any (p : Option Addr) (n c : Nat) (A : Nat → Option Addr) (L C : Nat → Nat) (X : Nat → Nat → Nat) (w : World) (hL : ∀ i, i < n → L i ≤ 400000) (hT : LsAt w p n A L C X) :
    Calls Tryd.prog 9 #[.slice p n c] w fun e w' => e = .returned (.tuple #[.agg (aB 32 (ofF n L X)), .int .i64 (ofE n)]) ∧ Below w.heap.size w w' := by
  by_cases h : 4096 < n
  · exact rof_many p n c w h L X
  · exact rof_few p n c A L C X w (by omega) hL hT

end Go.Proofs.YtfhjioedelpgiaaDoor
