/- Contracts of Mend, Join and Sound of package stripe, in one form for all shards: the answer in new memory, or the error's number; what was there is as it was. -/
import Derived.Test.YtapgdenodhcliaaSh
namespace Go.Proofs.Ytapgdenodhcliaa
open Go.RowKit

theorem ret_be {a b : Bool} {c d : Int} (h : a = b) (h2 : c = d) : Ending.returned (.tuple #[.bool a, .int .i64 c]) = .returned (.tuple #[.bool b, .int .i64 d]) := by rw [h, h2]
theorem lenSt_le {H : Nat → Bool} {L : Nat → Nat} {z : Int} (hz : z ≤ 65536) : ∀ n, (∀ i, i < n → H i = true → L i ≤ 65536) → lenSt H L z n ≤ 65536
  | 0, _ => hz
  | i + 1, h => by
    rw [lenSt_succ]
    by_cases e : H i = true ∧ lenSt H L z i < 0
    · rw [if_pos e]; have := h i (by omega) e.1; omega
    · rw [if_neg e]; exact lenSt_le hz i (fun j hj => h j (by omega))
/-- What is wrong with shards, how many are there with it. -/
def errMd (k m ns nh : Nat) (H : Nat → Bool) (L : Nat → Nat) (z : Int) : Int := if errMt ns nh (k + m) H L z ≠ 0 then errMt ns nh (k + m) H L z else if cn H (k + m) < k then 10 else 0
theorem errMd_bad {k m ns nh : Nat} {H : Nat → Bool} {L : Nat → Nat} {z : Int} (h : errMt ns nh (k + m) H L z ≠ 0) : errMd k m ns nh H L z = errMt ns nh (k + m) H L z := by unfold errMd; rw [if_pos h]
theorem errMd_few {k m ns nh : Nat} {H : Nat → Bool} {L : Nat → Nat} {z : Int} (h : errMt ns nh (k + m) H L z = 0) (h2 : cn H (k + m) < k) : errMd k m ns nh H L z = 10 := by unfold errMd; rw [if_neg (by omega), if_pos h2]
theorem errMd_ok {k m ns nh : Nat} {H : Nat → Bool} {L : Nat → Nat} {z : Int} (h : errMt ns nh (k + m) H L z = 0) (h2 : k ≤ cn H (k + m)) : errMd k m ns nh H L z = 0 := by unfold errMd; rw [if_neg (by omega), if_neg (by omega)]

set_option maxRecDepth 100000 in
set_option maxHeartbeats 1000000 in
theorem mend_err (pS pH : Option Addr) (ns nh cS cH : Nat) (k m : Int) (w : World) (hk : -9223372036854775808 ≤ k) (hk' : k ≤ 9223372036854775807) (hm : -9223372036854775808 ≤ m) (hm' : m ≤ 9223372036854775807) (h : k < 1 ∨ m < 1 ∨ 16 < k + m) :
    Calls Try.prog 21 #[.slice pS ns cS, .slice pH nh cH, .int .i64 k, .int .i64 m] w fun e w' => e = .returned (.tuple #[.slice none 0 0, .int .i64 5]) ∧ w' = w := by
  go_enter Try.func21, Try.ntmps21
  go_wp2_with fail
  refine (code_err k m w hk hk' hm hm' h).mono ?_
  rintro e w' ⟨rfl, hw⟩
  have hw2 := hw.symm
  subst hw2
  clear hw h
  go_wp2
  go_ret2
  exact ⟨rfl, rfl⟩

set_option maxRecDepth 100000 in
set_option maxHeartbeats 4000000 in
theorem mend_any (pS pH : Option Addr) (ns nh cS cH k m : Nat) (AS : Nat → Option Addr) (L CS : Nat → Nat) (S : Nat → Nat → K) (H : Nat → Bool) (w : World) (hS : MatAt w pS ns AS L CS S) (hH : BoolsAt w pH nh H) (h0 : 1 ≤ k) (h1 : 1 ≤ m) (h : k + m ≤ 16) :
    Calls Try.prog 21 #[.slice pS ns cS, .slice pH nh cH, .int .i64 k, .int .i64 m] w fun e w' => Below w.heap.size w w' ∧ ((errMd k m ns nh H L (-1) ≠ 0 ∧ e = .returned (.tuple #[.slice none 0 0, .int .i64 (errMd k m ns nh H L (-1))])) ∨
      (errMd k m ns nh H L (-1) = 0 ∧ ∃ g G, e = .returned (.tuple #[.slice (some ⟨g, 0, none⟩) (k + m) (k + m), .int .i64 0]) ∧ OwnMat w.heap.size w' g (k + m) (k + m) (lenSt H L (-1) (k + m)).toNat G (fun _ => (lenSt H L (-1) (k + m)).toNat) (mdd k (k + m) H S))) := by
  have RS := hid hS
  have RH := hid hH
  clear hS hH
  go_enter Try.func21, Try.ntmps21
  go_wp2_with fail
  refine (code_any k m w h0 h1 h).mono ?_
  rintro e w1 ⟨gC, cC, GC, QC, rfl, hmC, hb1⟩
  have MC := hid hmC.toMat
  have B1 := hid hb1
  have RS1 := hid (RS.out.keep (Stays.of_below hb1))
  have RH1 := hid (RH.out.keep (Stays.of_below hb1))
  have hsz := hb1.size
  clear hb1 hmC RS RH
  have HCAST : Hid (((k : Int) + (m : Int)) = ((k + m : Nat) : Int)) := by show ((k : Int) + (m : Int)) = ((k + m : Nat) : Int); omega
  go_wp2_with fail
  rw [HCAST.out]
  refine (matchS_any _ _ ns _ nh _ (k + m) AS L CS H (-1) w1 (by omega) (by omega) RS1.out.top RH1.out).mono ?_
  rintro e w' ⟨rfl, hw⟩
  have hw2 := hw.symm
  subst hw2
  clear hw
  by_cases he : errMt ns nh (k + m) H L (-1) = 0
  · obtain ⟨rfl, rfl, hL1, hL2⟩ := errMt_zero he
    have EO : Hid (k ≤ cn H (k + m) → errMd k m (k + m) (k + m) H L (-1) = 0) := errMd_ok he
    have EF : Hid (cn H (k + m) < k → errMd k m (k + m) (k + m) H L (-1) = 10) := errMd_few he
    have hle := lenSt_le (z := -1) (by omega) (k + m) hL1
    have HL : Hid (∀ i, i < k + m → H i = true → L i = (lenSt H L (-1) (k + m)).toNat) := fun i hi hq => by have := hL2 i hi hq; omega
    rw [he]
    clear he hL1 hL2
    go_wp2_with fail
    refine (remake_any _ _ pS pH (k + m) k m (lenSt H L (-1) (k + m)).toNat _ _ _ _ _ _ AS _ _ L CS S H w1 MC.out MC.out RS1.out RH1.out h0 h (by omega) (by omega) (by omega) HL.out).mono ?_
    rintro e w2 ⟨hb2, ⟨hc, rfl⟩ | ⟨hc, g, G, rfl, hm2⟩⟩
    · have B2 := hid (B1.out.then hb2)
      have E := hid (EF.out hc)
      clear hb2
      go_wp2
      go_ret2
      exact ⟨B2.out, .inl ⟨by rw [E.out]; decide, ret_se rfl E.out.symm⟩⟩
    · have B2 := hid (B1.out.then hb2)
      have E := hid (EO.out hc)
      have M2 := hid (hm2.base hsz)
      clear hb2 hm2
      go_wp2
      go_ret2
      exact ⟨B2.out, .inr ⟨E.out, g, G, rfl, M2.out⟩⟩
  · have he' : (errMt ns nh (k + m) H L (-1) != 0) = true := by simpa using he
    have E := hid (errMd_bad he)
    have NE := hid he
    clear he
    go_wp2
    go_ret2
    exact ⟨B1.out, .inl ⟨by rw [E.out]; exact NE.out, ret_se rfl E.out.symm⟩⟩

set_option maxRecDepth 100000 in
set_option maxHeartbeats 1000000 in
theorem join_err (pS pH : Option Addr) (ns nh cS cH : Nat) (k m s : Int) (w : World) (hk : -9223372036854775808 ≤ k) (hk' : k ≤ 9223372036854775807) (hm : -9223372036854775808 ≤ m) (hm' : m ≤ 9223372036854775807) (h : k < 1 ∨ m < 1 ∨ 16 < k + m) :
    Calls Try.prog 23 #[.slice pS ns cS, .slice pH nh cH, .int .i64 k, .int .i64 m, .int .i64 s] w fun e w' => e = .returned (.tuple #[.slice none 0 0, .int .i64 5]) ∧ w' = w := by
  go_enter Try.func23, Try.ntmps23
  go_wp2_with fail
  refine (code_err k m w hk hk' hm hm' h).mono ?_
  rintro e w' ⟨rfl, hw⟩
  have hw2 := hw.symm
  subst hw2
  clear hw h
  go_wp2
  go_ret2
  exact ⟨rfl, rfl⟩
set_option maxRecDepth 100000 in
set_option maxHeartbeats 1000000 in
theorem join_size (pS pH : Option Addr) (ns nh cS cH k m : Nat) (s : Int) (w : World) (h0 : 1 ≤ k) (h1 : 1 ≤ m) (h : k + m ≤ 16) (hs : s < 0 ∨ 65536 < s) :
    Calls Try.prog 23 #[.slice pS ns cS, .slice pH nh cH, .int .i64 k, .int .i64 m, .int .i64 s] w fun e w' => e = .returned (.tuple #[.slice none 0 0, .int .i64 5]) ∧ Below w.heap.size w w' := by
  go_enter Try.func23, Try.ntmps23
  go_wp2_with fail
  refine (code_any k m w h0 h1 h).mono ?_
  rintro e w1 ⟨gC, cC, GC, QC, rfl, hmC, hb1⟩
  have B1 := hid hb1
  clear hb1 hmC
  go_wp2_with fail
  refine (length_err s (k : Int) w1 (by omega)).mono ?_
  rintro e w' ⟨rfl, hw⟩
  have hw2 := hw.symm
  subst hw2
  clear hw hs
  go_wp2
  go_ret2
  exact ⟨rfl, B1.out⟩

set_option maxRecDepth 100000 in
set_option maxHeartbeats 4000000 in
theorem joinS_any (pS pH : Option Addr) (ns nh cS cH k m s : Nat) (AS : Nat → Option Addr) (L CS : Nat → Nat) (S : Nat → Nat → K) (H : Nat → Bool) (w : World) (hS : MatAt w pS ns AS L CS S) (hH : BoolsAt w pH nh H) (h0 : 1 ≤ k) (h1 : 1 ≤ m) (h : k + m ≤ 16) (hs : s ≤ 65536) :
    Calls Try.prog 23 #[.slice pS ns cS, .slice pH nh cH, .int .i64 k, .int .i64 m, .int .i64 s] w fun e w' => Below w.heap.size w w' ∧ ((errMd k m ns nh H L ((lgt s k : Nat) : Int) ≠ 0 ∧ e = .returned (.tuple #[.slice none 0 0, .int .i64 (errMd k m ns nh H L ((lgt s k : Nat) : Int))])) ∨
      (errMd k m ns nh H L ((lgt s k : Nat) : Int) = 0 ∧ ∃ g, e = .returned (.tuple #[.slice (some ⟨g, 0, none⟩) s s, .int .i64 0]) ∧ w'.ownsRow w.heap.size 5 1 (.slice (some ⟨g, 0, none⟩) s s) s (vals s fun j => kv (jnd (lgt s k) (mdd k (k + m) H S) j)))) := by
  have RS := hid hS
  have RH := hid hH
  have hll := lgt_le s k hs h0
  clear hS hH
  go_enter Try.func23, Try.ntmps23
  go_wp2_with fail
  refine (code_any k m w h0 h1 h).mono ?_
  rintro e w1 ⟨gC, cC, GC, QC, rfl, hmC, hb1⟩
  have MC := hid hmC.toMat
  have B1 := hid hb1
  have RS1 := hid (RS.out.keep (Stays.of_below hb1))
  have RH1 := hid (RH.out.keep (Stays.of_below hb1))
  have hsz := hb1.size
  have hcC := own_le hmC.top
  clear hb1 hmC RS RH
  have HCAST : Hid (((k : Int) + (m : Int)) = ((k + m : Nat) : Int)) := by show ((k : Int) + (m : Int)) = ((k + m : Nat) : Int); omega
  go_wp2_with fail
  refine (length_ok s k w1 (by omega) h0 (by omega)).mono ?_
  rintro e w' ⟨rfl, hw⟩
  have hw2 := hw.symm
  subst hw2
  clear hw
  go_wp2_with fail
  rw [HCAST.out]
  refine (matchS_any _ _ ns _ nh _ (k + m) AS L CS H ((lgt s k : Nat) : Int) w1 (by omega) (by omega) RS1.out.top RH1.out).mono ?_
  rintro e w' ⟨rfl, hw⟩
  have hw2 := hw.symm
  subst hw2
  clear hw
  by_cases he : errMt ns nh (k + m) H L ((lgt s k : Nat) : Int) = 0
  · obtain ⟨rfl, rfl, hL1, hL2⟩ := errMt_zero he
    have EO : Hid (k ≤ cn H (k + m) → errMd k m (k + m) (k + m) H L ((lgt s k : Nat) : Int) = 0) := errMd_ok he
    have EF : Hid (cn H (k + m) < k → errMd k m (k + m) (k + m) H L ((lgt s k : Nat) : Int) = 10) := errMd_few he
    have HL : Hid (∀ i, i < k + m → H i = true → L i = lgt s k) := fun i hi hq => by
      have h2 := hL2 i hi hq
      rw [lenSt_ge (by omega)] at h2
      omega
    have hsl := run_hi24 (some ⟨gC, 0, none⟩) (k + m) cC k (by omega) (by omega)
    rw [he]
    clear he hL1 hL2
    go_wp2_with fail
    refine (remake_any _ _ pS pH k k m (lgt s k) _ _ _ _ _ _ AS _ _ L CS S H w1 (MC.out.first k (by omega)) MC.out RS1.out RH1.out h0 h h0 (by omega) hll HL.out).mono ?_
    rintro e w2 ⟨hb2, ⟨hc, rfl⟩ | ⟨hc, g, G, rfl, hm2⟩⟩
    · have B2 := hid (B1.out.then hb2)
      have E := hid (EF.out hc)
      clear hb2
      go_wp2
      go_ret2
      exact ⟨B2.out, .inl ⟨by rw [E.out]; decide, ret_se rfl E.out.symm⟩⟩
    · have B2 := hid (B1.out.then hb2)
      have E := hid (EO.out hc)
      have M2 := hid hm2.toMat
      have hsz2 := B2.out.size
      clear hb2 hm2
      go_wp2_with fail
      refine (joined_any _ k (lgt s k) _ s _ _ (mdd k (k + m) H S) w2 (by omega) hll hs (lgt_room s k h0) M2.out).mono ?_
      rintro e w3 ⟨g3, rfl, ho3, hb3⟩
      have B3 := hid (B2.out.then hb3)
      have O3 := hid (own_base ho3 hsz2)
      clear ho3 hb3
      go_wp2
      go_ret2
      exact ⟨B3.out, .inr ⟨E.out, g3, rfl, O3.out⟩⟩
  · have he' : (errMt ns nh (k + m) H L ((lgt s k : Nat) : Int) != 0) = true := by simpa using he
    have E := hid (errMd_bad he)
    have NE := hid he
    clear he
    go_wp2
    go_ret2
    exact ⟨B1.out, .inl ⟨by rw [E.out]; exact NE.out, ret_se rfl E.out.symm⟩⟩

set_option maxRecDepth 100000 in
set_option maxHeartbeats 1000000 in
theorem sound_err (pS : Option Addr) (ns cS : Nat) (k m : Int) (w : World) (hk : -9223372036854775808 ≤ k) (hk' : k ≤ 9223372036854775807) (hm : -9223372036854775808 ≤ m) (hm' : m ≤ 9223372036854775807) (h : k < 1 ∨ m < 1 ∨ 16 < k + m) :
    Calls Try.prog 25 #[.slice pS ns cS, .int .i64 k, .int .i64 m] w fun e w' => e = .returned (.tuple #[.bool false, .int .i64 5]) ∧ w' = w := by
  go_enter Try.func25, Try.ntmps25
  go_wp2_with fail
  refine (code_err k m w hk hk' hm hm' h).mono ?_
  rintro e w' ⟨rfl, hw⟩
  have hw2 := hw.symm
  subst hw2
  clear hw h
  go_wp2
  go_ret2
  exact ⟨rfl, rfl⟩
/-- Sound's answer. -/
def sndV (k m ns : Nat) (L : Nat → Nat) (S : Nat → Nat → K) : Bool := if errMt ns ns (k + m) (fun _ => true) L (-1) = 0 then sndB k m (lenSt (fun _ => true) L (-1) (k + m)).toNat S else false
set_option maxRecDepth 100000 in
set_option maxHeartbeats 4000000 in
theorem sound_any (pS : Option Addr) (ns cS k m : Nat) (AS : Nat → Option Addr) (L CS : Nat → Nat) (S : Nat → Nat → K) (w : World) (hS : MatAt w pS ns AS L CS S) (hns : ns ≤ 100) (hcS : ns ≤ cS) (h0 : 1 ≤ k) (h1 : 1 ≤ m) (h : k + m ≤ 16) :
    Calls Try.prog 25 #[.slice pS ns cS, .int .i64 k, .int .i64 m] w fun e w' => e = .returned (.tuple #[.bool (sndV k m ns L S), .int .i64 (errMt ns ns (k + m) (fun _ => true) L (-1))]) ∧ Below w.heap.size w w' := by
  have RS := hid hS
  clear hS
  go_enter Try.func25, Try.ntmps25
  go_wp2_with fail
  refine (code_any k m w h0 h1 h).mono ?_
  rintro e w1 ⟨gC, cC, GC, QC, rfl, hmC, hb1⟩
  have MC := hid hmC.toMat
  have B1 := hid hb1
  have hcC := own_le hmC.top
  clear hb1 hmC
  have HCAST : Hid (((k : Int) + (m : Int)) = ((k + m : Nat) : Int)) := by show ((k : Int) + (m : Int)) = ((k + m : Nat) : Int); omega
  go_wp2_with fail
  refine (all_any ns w1 (by omega)).mono ?_
  rintro e w2 ⟨gH, rfl, hoH, hb2⟩
  have MC2 := hid (MC.out.keep (Stays.of_below hb2))
  have B2 := hid (B1.out.then hb2)
  have RH2 := hid hoH.at
  have RS2 := hid (RS.out.keep (Stays.of_below B2.out))
  clear hoH hb2 MC B1 RS
  go_wp2_with fail
  rw [HCAST.out]
  refine (matchS_any _ _ ns _ ns _ (k + m) AS L CS (fun _ => true) (-1) w2 (by omega) (by omega) RS2.out.top RH2.out).mono ?_
  rintro e w' ⟨rfl, hw⟩
  have hw2 := hw.symm
  subst hw2
  clear hw RH2
  by_cases he : errMt ns ns (k + m) (fun _ => true) L (-1) = 0
  · obtain ⟨rfl, _, hL1, hL2⟩ := errMt_zero he
    have hle := lenSt_le (z := -1) (by omega) (k + m) hL1
    have MS : Hid (MatAt w2 pS (k + m) AS (fun _ => (lenSt (fun _ => true) L (-1) (k + m)).toNat) CS S) := RS2.out.even (fun i hi => by have := hL2 i hi rfl; omega)
    have hll : (lenSt (fun _ => true) L (-1) (k + m)).toNat ≤ 65536 := by omega
    have EV : Hid (sndV k m (k + m) L S = sndB k m (lenSt (fun _ => true) L (-1) (k + m)).toNat S) := by
      show sndV k m (k + m) L S = _
      unfold sndV; rw [if_pos he]
    obtain ⟨l, hl⟩ : ∃ l, l = (lenSt (fun _ => true) L (-1) (k + m)).toNat := ⟨_, rfl⟩
    rw [← hl] at MS EV hll
    obtain ⟨bS, oS, rfl, hcs⟩ := MS.out.top.pos (by omega)
    have hs1 := run_lo24 gC 0 (k + m) cC k (by omega) (by omega)
    rw [Nat.zero_add, show k + m - k = m by omega] at hs1
    have hs2 := run_hi24 (some ⟨bS, oS, none⟩) (k + m) cS k (by omega) (by omega)
    have hs3 := run_lo24 bS oS (k + m) cS k (by omega) (by omega)
    rw [show k + m - k = m by omega] at hs3
    have MC3 := hid (show MatAt w2 (some ⟨gC, k, none⟩) m _ (fun _ => k) _ (fun i j => codeX k (k + i) j) from (by have h1 := MC2.out.sub k m (by omega); rw [Nat.zero_add] at h1; exact h1))
    have MS1 := hid ((MS.out.first k (by omega)).keep (Stays.of_below (Below.refl _ _).drew))
    have MS2 := hid ((MS.out.sub k m (by omega)).keep (Stays.of_below (Below.refl _ _).drew))
    have MC4 := hid (MC3.out.keep (Stays.of_below (Below.refl _ _).drew))
    have HE := hid he
    rw [he]
    clear he hL1 hL2 hle hl RS2 hcs MC2 MS
    go_wp2_with fail
    go_region_held3 (fun w' => True) (trivial) (first | (go_at_call 36; refine (combine_any _ _ m k l _ _ _ _ _ _ (fun i j => codeX k (k + i) j) S _ (by exact MC4.out) (by exact MS1.out) h1 (by omega) h0 (by omega) hll).mono ?_; rintro e w3 ⟨gM, GM, rfl, hmM, hb3⟩) | (go_at_call 49; refine (equalFunc_any _ _ m l _ _ _ _ _ _ (pr k (fun i j => codeX k (k + i) j) S) (fun i j => S (k + i) j) _ (by omega) (by exact hmM.toMat) (by exact MS2.out.keep (Stays.of_below hb3))).mono ?_; rintro e w4 ⟨rfl, rfl⟩))
    have B3 := hid (B2.out.then ((Below.refl _ _).drew.trans hb3))
    clear hmM hb3
    go_wp2
    go_ret2
    exact ⟨ret_be EV.out.symm HE.out.symm, B3.out⟩
  · have he' : (errMt ns ns (k + m) (fun _ => true) L (-1) != 0) = true := by simpa using he
    have EV : Hid (sndV k m ns L S = false) := by
      show sndV k m ns L S = false
      unfold sndV; rw [if_neg he]
    clear he
    go_wp2
    go_ret2
    exact ⟨ret_be EV.out.symm rfl, B2.out⟩
end Go.Proofs.Ytapgdenodhcliaa
