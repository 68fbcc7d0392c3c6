/- Mend, Join and Sound, the program's and the document's own, in one form for all inputs. -/
import Derived.Test.YtapgdenodhcliaaTe
namespace Go.Proofs.Ytapgdenodhcliaa
open Go.RowKit

/-- k and m may not be. -/
abbrev badKM (k m : Int) : Prop := k < 1 ∨ m < 1 ∨ 16 < k + m
/-- Mend's error. -/
def errMU (k m : Int) (ns nh : Nat) (H : Nat → Bool) (L : Nat → Nat) : Int := if badKM k m then 5 else errMd k.toNat m.toNat ns nh H L (-1)
/-- How long the shards are that Mend tells. -/
def lenMU (k m : Int) (H : Nat → Bool) (L : Nat → Nat) : Nat := (lenSt H L (-1) (k.toNat + m.toNat)).toNat
def mddU (k m : Int) (H : Nat → Bool) (S : Nat → Nat → K) : Nat → Nat → K := mdd k.toNat (k.toNat + m.toNat) H S
theorem mendU (pS pH : Option Addr) (ns nh cS cH : Nat) (k m : Int) (AS : Nat → Option Addr) (L CS : Nat → Nat) (S : Nat → Nat → K) (H : Nat → Bool) (w : World) (hk : (Lit.int .i64 k).wf = true) (hm : (Lit.int .i64 m).wf = true) (hS : MatAt w pS ns AS L CS S) (hH : BoolsAt w pH nh H) :
    Calls Try.prog 21 #[.slice pS ns cS, .slice pH nh cH, .int .i64 k, .int .i64 m] w fun e w' => ∃ u cu G, e = .returned (.tuple #[.slice u (cnt (errMU k m ns nh H L) (k.toNat + m.toNat)) cu, .int .i64 (errMU k m ns nh H L)]) ∧ OwnV w.heap.size w' (.slice u (cnt (errMU k m ns nh H L) (k.toNat + m.toNat)) cu) (cnt (errMU k m ns nh H L) (k.toNat + m.toNat)) G (fun _ => lenMU k m H L) (fun _ => lenMU k m H L) (fun _ => lenMU k m H L) (fun _ => lenMU k m H L) (mddU k m H S) ∧ Below w.heap.size w w' := by
  obtain ⟨b1, b2⟩ := bounds_i64 hk
  obtain ⟨b3, b4⟩ := bounds_i64 hm
  by_cases h : badKM k m
  · have e : errMU k m ns nh H L = 5 := by unfold errMU; rw [if_pos h]
    rw [e]
    exact (mend_err pS pH ns nh cS cH k m w b1 b2 b3 b4 h).mono (fun e w' ⟨h1, h2⟩ => ⟨none, 0, fun _ => 0, h1, OwnV.nil, by rw [h2]; exact Below.refl _ _⟩)
  · have h' := h
    unfold badKM at h'
    obtain ⟨K1, rfl⟩ : ∃ K1 : Nat, k = K1 := ⟨k.toNat, by omega⟩
    obtain ⟨M1, rfl⟩ : ∃ M1 : Nat, m = M1 := ⟨m.toNat, by omega⟩
    have e : errMU K1 M1 ns nh H L = errMd K1 M1 ns nh H L (-1) := by unfold errMU; rw [if_neg h]; rfl
    rw [e]
    refine (mend_any pS pH ns nh cS cH K1 M1 AS L CS S H w hS hH (by omega) (by omega) (by omega)).mono (fun e w' ⟨hb, hh⟩ => ?_)
    rcases hh with ⟨hne, h1⟩ | ⟨hz, g, G, h1, h2⟩
    · have e0 : cnt (errMd K1 M1 ns nh H L (-1)) ((K1 : Int).toNat + (M1 : Int).toNat) = 0 := by unfold cnt; rw [if_neg hne]
      rw [e0]
      exact ⟨none, 0, fun _ => 0, h1, OwnV.nil, hb⟩
    · rw [hz]
      exact ⟨some ⟨g, 0, none⟩, K1 + M1, G, h1, h2.toV, hb⟩
theorem rmendU (pS pH : Option Addr) (ns nh cS cH : Nat) (k m : Int) (AS : Nat → Option Addr) (L CS : Nat → Nat) (S : Nat → Nat → K) (H : Nat → Bool) (w : World) (hk : (Lit.int .i64 k).wf = true) (hm : (Lit.int .i64 m).wf = true) (hS : MatAt w pS ns AS L CS S) (hH : BoolsAt w pH nh H) :
    Calls Try.prog 22 #[.slice pS ns cS, .slice pH nh cH, .int .i64 k, .int .i64 m] w fun e w' => ∃ u cu G, e = .returned (.tuple #[.slice u (cnt (errMU k m ns nh H L) (k.toNat + m.toNat)) cu, .int .i64 (errMU k m ns nh H L)]) ∧ OwnV w.heap.size w' (.slice u (cnt (errMU k m ns nh H L) (k.toNat + m.toNat)) cu) (cnt (errMU k m ns nh H L) (k.toNat + m.toNat)) G (fun _ => lenMU k m H L) (fun _ => lenMU k m H L) (fun _ => lenMU k m H L) (fun _ => lenMU k m H L) (mddU k m H S) ∧ Below w.heap.size w w' := by
  obtain ⟨b1, b2⟩ := bounds_i64 hk
  obtain ⟨b3, b4⟩ := bounds_i64 hm
  by_cases h : badKM k m
  · have e : errMU k m ns nh H L = 5 := by unfold errMU; rw [if_pos h]
    rw [e]
    exact (rmend_err pS pH ns nh cS cH k m w b1 b2 b3 b4 h).mono (fun e w' ⟨h1, h2⟩ => ⟨none, 0, fun _ => 0, h1, OwnV.nil, by rw [h2]; exact Below.refl _ _⟩)
  · have h' := h
    unfold badKM at h'
    obtain ⟨K1, rfl⟩ : ∃ K1 : Nat, k = K1 := ⟨k.toNat, by omega⟩
    obtain ⟨M1, rfl⟩ : ∃ M1 : Nat, m = M1 := ⟨m.toNat, by omega⟩
    have e : errMU K1 M1 ns nh H L = errMd K1 M1 ns nh H L (-1) := by unfold errMU; rw [if_neg h]; rfl
    rw [e]
    refine (rmend_any pS pH ns nh cS cH K1 M1 AS L CS S H w hS hH (by omega) (by omega) (by omega)).mono (fun e w' ⟨hb, hh⟩ => ?_)
    rcases hh with ⟨hne, h1⟩ | ⟨hz, g, cp, G, h1, h2⟩
    · have e0 : cnt (errMd K1 M1 ns nh H L (-1)) ((K1 : Int).toNat + (M1 : Int).toNat) = 0 := by unfold cnt; rw [if_neg hne]
      rw [e0]
      exact ⟨none, 0, fun _ => 0, h1, OwnV.nil, hb⟩
    · rw [hz]
      exact ⟨some ⟨g, 0, none⟩, cp, G, h1, h2.toV, hb⟩
/-- Join's error. -/
def errJU (k m s : Int) (ns nh : Nat) (H : Nat → Bool) (L : Nat → Nat) : Int := if badKM k m ∨ s < 0 ∨ 65536 < s then 5 else errMd k.toNat m.toNat ns nh H L ((lgt s.toNat k.toNat : Nat) : Int)
def jndU (k m s : Int) (H : Nat → Bool) (S : Nat → Nat → K) : Nat → K := jnd (lgt s.toNat k.toNat) (mdd k.toNat (k.toNat + m.toNat) H S)
theorem joinU (pS pH : Option Addr) (ns nh cS cH : Nat) (k m s : Int) (AS : Nat → Option Addr) (L CS : Nat → Nat) (S : Nat → Nat → K) (H : Nat → Bool) (w : World) (hk : (Lit.int .i64 k).wf = true) (hm : (Lit.int .i64 m).wf = true) (hS : MatAt w pS ns AS L CS S) (hH : BoolsAt w pH nh H) :
    Calls Try.prog 23 #[.slice pS ns cS, .slice pH nh cH, .int .i64 k, .int .i64 m, .int .i64 s] w fun e w' => ∃ p g, e = .returned (.tuple #[.slice p (cnt (errJU k m s ns nh H L) s.toNat) (cnt (errJU k m s ns nh H L) s.toNat), .int .i64 (errJU k m s ns nh H L)]) ∧ (cnt (errJU k m s ns nh H L) s.toNat ≠ 0 → p = some ⟨g, 0, none⟩ ∧ w'.ownsRow w.heap.size 5 1 (.slice (some ⟨g, 0, none⟩) (cnt (errJU k m s ns nh H L) s.toNat) (cnt (errJU k m s ns nh H L) s.toNat)) (cnt (errJU k m s ns nh H L) s.toNat) (vals (cnt (errJU k m s ns nh H L) s.toNat) fun j => kv (jndU k m s H S j))) ∧ Below w.heap.size w w' := by
  obtain ⟨b1, b2⟩ := bounds_i64 hk
  obtain ⟨b3, b4⟩ := bounds_i64 hm
  by_cases h : badKM k m
  · have e : errJU k m s ns nh H L = 5 := by unfold errJU; rw [if_pos (.inl h)]
    rw [e]
    exact (join_err pS pH ns nh cS cH k m s w b1 b2 b3 b4 h).mono (fun e w' ⟨h1, h2⟩ => ⟨none, 0, h1, fun q => absurd rfl q, by rw [h2]; exact Below.refl _ _⟩)
  · have h' := h
    unfold badKM at h'
    obtain ⟨K1, rfl⟩ : ∃ K1 : Nat, k = K1 := ⟨k.toNat, by omega⟩
    obtain ⟨M1, rfl⟩ : ∃ M1 : Nat, m = M1 := ⟨m.toNat, by omega⟩
    by_cases hs : s < 0 ∨ 65536 < s
    · have e : errJU K1 M1 s ns nh H L = 5 := by unfold errJU; rw [if_pos (.inr hs)]
      rw [e]
      exact (join_size pS pH ns nh cS cH K1 M1 s w (by omega) (by omega) (by omega) hs).mono (fun e w' ⟨h1, h2⟩ => ⟨none, 0, h1, fun q => absurd rfl q, h2⟩)
    · obtain ⟨S1, rfl⟩ : ∃ S1 : Nat, s = S1 := ⟨s.toNat, by omega⟩
      have e : errJU K1 M1 S1 ns nh H L = errMd K1 M1 ns nh H L ((lgt S1 K1 : Nat) : Int) := by unfold errJU; rw [if_neg (fun q => q.elim h hs)]; rfl
      rw [e]
      refine (joinS_any pS pH ns nh cS cH K1 M1 S1 AS L CS S H w hS hH (by omega) (by omega) (by omega) (by omega)).mono (fun e w' ⟨hb, hh⟩ => ?_)
      rcases hh with ⟨hne, h1⟩ | ⟨hz, g, h1, h2⟩
      · have e0 : cnt (errMd K1 M1 ns nh H L ((lgt S1 K1 : Nat) : Int)) (S1 : Int).toNat = 0 := by unfold cnt; rw [if_neg hne]
        rw [e0]
        exact ⟨none, 0, h1, fun q => absurd rfl q, hb⟩
      · rw [hz]
        exact ⟨some ⟨g, 0, none⟩, g, h1, fun _ => ⟨rfl, h2⟩, hb⟩
theorem rjoinU (pS pH : Option Addr) (ns nh cS cH : Nat) (k m s : Int) (AS : Nat → Option Addr) (L CS : Nat → Nat) (S : Nat → Nat → K) (H : Nat → Bool) (w : World) (hk : (Lit.int .i64 k).wf = true) (hm : (Lit.int .i64 m).wf = true) (hS : MatAt w pS ns AS L CS S) (hH : BoolsAt w pH nh H) :
    Calls Try.prog 24 #[.slice pS ns cS, .slice pH nh cH, .int .i64 k, .int .i64 m, .int .i64 s] w fun e w' => ∃ p c, e = .returned (.tuple #[.slice p (cnt (errJU k m s ns nh H L) s.toNat) c, .int .i64 (errJU k m s ns nh H L)]) ∧ StrAt w' p (cnt (errJU k m s ns nh H L) s.toNat) (fun j => (jndU k m s H S j).val) ∧ Below w.heap.size w w' := by
  obtain ⟨b1, b2⟩ := bounds_i64 hk
  obtain ⟨b3, b4⟩ := bounds_i64 hm
  by_cases h : badKM k m
  · have e : errJU k m s ns nh H L = 5 := by unfold errJU; rw [if_pos (.inl h)]
    rw [e]
    exact (rjoin_err pS pH ns nh cS cH k m s w b1 b2 b3 b4 h).mono (fun e w' ⟨h1, h2⟩ => ⟨none, 0, h1, .inl rfl, by rw [h2]; exact Below.refl _ _⟩)
  · have h' := h
    unfold badKM at h'
    obtain ⟨K1, rfl⟩ : ∃ K1 : Nat, k = K1 := ⟨k.toNat, by omega⟩
    obtain ⟨M1, rfl⟩ : ∃ M1 : Nat, m = M1 := ⟨m.toNat, by omega⟩
    by_cases hs : s < 0 ∨ 65536 < s
    · have e : errJU K1 M1 s ns nh H L = 5 := by unfold errJU; rw [if_pos (.inr hs)]
      rw [e]
      exact (rjoin_size pS pH ns nh cS cH K1 M1 s w (by omega) (by omega) (by omega) hs).mono (fun e w' ⟨h1, h2⟩ => ⟨none, 0, h1, .inl rfl, by rw [h2]; exact Below.refl _ _⟩)
    · obtain ⟨S1, rfl⟩ : ∃ S1 : Nat, s = S1 := ⟨s.toNat, by omega⟩
      have e : errJU K1 M1 S1 ns nh H L = errMd K1 M1 ns nh H L ((lgt S1 K1 : Nat) : Int) := by unfold errJU; rw [if_neg (fun q => q.elim h hs)]; rfl
      rw [e]
      refine (rjoin_any pS pH ns nh cS cH K1 M1 S1 AS L CS S H w hS hH (by omega) (by omega) (by omega) (by omega)).mono (fun e w' ⟨hb, hh⟩ => ?_)
      rcases hh with ⟨hne, h1⟩ | ⟨hz, p, c, h1, h2⟩
      · have e0 : cnt (errMd K1 M1 ns nh H L ((lgt S1 K1 : Nat) : Int)) (S1 : Int).toNat = 0 := by unfold cnt; rw [if_neg hne]
        rw [e0]
        exact ⟨none, 0, h1, .inl rfl, hb⟩
      · rw [hz]
        exact ⟨p, c, h1, h2, hb⟩
/-- Sound's answer and error. -/
def sndU (k m : Int) (ns : Nat) (L : Nat → Nat) (S : Nat → Nat → K) : Bool := if badKM k m then false else sndV k.toNat m.toNat ns L S
def errSU (k m : Int) (ns : Nat) (L : Nat → Nat) : Int := if badKM k m then 5 else errMt ns ns (k.toNat + m.toNat) (fun _ => true) L (-1)
theorem soundU (pS : Option Addr) (ns cS : Nat) (k m : Int) (AS : Nat → Option Addr) (L CS : Nat → Nat) (S : Nat → Nat → K) (w : World) (hk : (Lit.int .i64 k).wf = true) (hm : (Lit.int .i64 m).wf = true) (hS : MatAt w pS ns AS L CS S) (hns : ns ≤ 100) (hcS : ns ≤ cS) :
    Calls Try.prog 25 #[.slice pS ns cS, .int .i64 k, .int .i64 m] w fun e w' => e = .returned (.tuple #[.bool (sndU k m ns L S), .int .i64 (errSU k m ns L)]) ∧ Below w.heap.size w w' := by
  obtain ⟨b1, b2⟩ := bounds_i64 hk
  obtain ⟨b3, b4⟩ := bounds_i64 hm
  by_cases h : badKM k m
  · unfold sndU errSU
    rw [if_pos h, if_pos h]
    exact (sound_err pS ns cS k m w b1 b2 b3 b4 h).mono (fun e w' ⟨h1, h2⟩ => ⟨h1, by rw [h2]; exact Below.refl _ _⟩)
  · unfold sndU errSU
    rw [if_neg h, if_neg h]
    unfold badKM at h
    obtain ⟨K1, rfl⟩ : ∃ K1 : Nat, k = K1 := ⟨k.toNat, by omega⟩
    obtain ⟨M1, rfl⟩ : ∃ M1 : Nat, m = M1 := ⟨m.toNat, by omega⟩
    exact sound_any pS ns cS K1 M1 AS L CS S w hS hns hcS (by omega) (by omega) (by omega)
theorem rsoundU (pS : Option Addr) (ns cS : Nat) (k m : Int) (AS : Nat → Option Addr) (L CS : Nat → Nat) (S : Nat → Nat → K) (w : World) (hk : (Lit.int .i64 k).wf = true) (hm : (Lit.int .i64 m).wf = true) (hS : MatAt w pS ns AS L CS S) :
    Calls Try.prog 26 #[.slice pS ns cS, .int .i64 k, .int .i64 m] w fun e w' => e = .returned (.tuple #[.bool (sndU k m ns L S), .int .i64 (errSU k m ns L)]) ∧ Below w.heap.size w w' := by
  obtain ⟨b1, b2⟩ := bounds_i64 hk
  obtain ⟨b3, b4⟩ := bounds_i64 hm
  by_cases h : badKM k m
  · unfold sndU errSU
    rw [if_pos h, if_pos h]
    exact (rsound_err pS ns cS k m w b1 b2 b3 b4 h).mono (fun e w' ⟨h1, h2⟩ => ⟨h1, by rw [h2]; exact Below.refl _ _⟩)
  · unfold sndU errSU
    rw [if_neg h, if_neg h]
    unfold badKM at h
    obtain ⟨K1, rfl⟩ : ∃ K1 : Nat, k = K1 := ⟨k.toNat, by omega⟩
    obtain ⟨M1, rfl⟩ : ∃ M1 : Nat, m = M1 := ⟨m.toNat, by omega⟩
    exact rsound_any pS ns cS K1 M1 AS L CS S w hS (by omega) (by omega) (by omega)
/-- How many and how long. -/
theorem cntM_le (k m : Int) (ns nh : Nat) (H : Nat → Bool) (L : Nat → Nat) : cnt (errMU k m ns nh H L) (k.toNat + m.toNat) ≤ 16 := by
  unfold cnt
  by_cases e : errMU k m ns nh H L = 0
  · rw [if_pos e]
    unfold errMU at e
    by_cases h : badKM k m
    · rw [if_pos h] at e; exact absurd e (by decide)
    · unfold badKM at h; omega
  · rw [if_neg e]; omega
theorem lenM_le {k m : Int} {ns nh i : Nat} {H : Nat → Bool} {L : Nat → Nat} (h : i < cnt (errMU k m ns nh H L) (k.toNat + m.toNat)) : lenMU k m H L ≤ 65536 := by
  obtain ⟨e, _⟩ := cnt_pos h
  unfold errMU at e
  by_cases h1 : badKM k m
  · rw [if_pos h1] at e; exact absurd e (by decide)
  · rw [if_neg h1] at e
    have ht : errMt ns nh (k.toNat + m.toNat) H L (-1) = 0 := Classical.byContradiction (fun q => by rw [errMd_bad q] at e; exact q e)
    have := lenSt_le (z := -1) (by omega) _ (errMt_zero ht).2.2.1
    unfold lenMU; omega
theorem cntJ_le (k m s : Int) (ns nh : Nat) (H : Nat → Bool) (L : Nat → Nat) : cnt (errJU k m s ns nh H L) s.toNat ≤ 65536 := by
  unfold cnt
  by_cases e : errJU k m s ns nh H L = 0
  · rw [if_pos e]
    unfold errJU at e
    by_cases h : badKM k m ∨ s < 0 ∨ 65536 < s
    · rw [if_pos h] at e; exact absurd e (by decide)
    · omega
  · rw [if_neg e]; omega
end Go.Proofs.Ytapgdenodhcliaa
