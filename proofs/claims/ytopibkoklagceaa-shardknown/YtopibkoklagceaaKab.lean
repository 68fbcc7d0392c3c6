/- Texts laid into one: the remark ahead of each part says what is proved there. -/
import Derived.Test.YtopibkoklagceaaPaa
import Derived.Test.YtopibkoklagceaaPab
import Derived.Test.YtopibkoklagceaaPac
import Derived.Test.YtopibkoklagceaaPad
import Derived.Test.YtopibkoklagceaaPae
import Derived.Test.YtopibkoklagceaaPaf
import Derived.Test.YtopibkoklagceaaPag
import Derived.Test.YtopibkoklagceaaPah
import Derived.Test.YtopibkoklagceaaPai
import Derived.Test.YtopibkoklagceaaPaj
import Derived.Test.YtopibkoklagceaaPak
import Derived.Test.YtopibkoklagceaaPal
import Derived.Test.YtopibkoklagceaaPam
import Derived.Test.YtopibkoklagceaaPan
import Derived.Test.YtopibkoklagceaaPao
import Derived.Test.YtopibkoklagceaaPap
import Derived.Test.YtopibkoklagceaaPaq
import Derived.Test.YtopibkoklagceaaPar
import Derived.Test.YtopibkoklagceaaPas
import Derived.Test.YtopibkoklagceaaPat
import Derived.Test.YtopibkoklagceaaPau
import Derived.Test.YtopibkoklagceaaPav
import Derived.Test.YtopibkoklagceaaKaa
/- The chapter's examples, reckoned. -/
namespace Go.Proofs.Ytopibkoklagceaa
open Go Go.RowKit

theorem shd0 : shd 2 abc 0 = [97, 98] := by decide +kernel
/-- The first file, with its last byte turned. -/
def tur : List Nat := (flL (shd 2 abc 0)).set 33 99
theorem tur_bad : sdB (U.lgt abc.length 2) ⟨0, tur⟩ = false := by
  unfold tur
  rw [shd0]
  decide +kernel
theorem f0_33 : (flL (shd 2 abc 0)).getD 33 0 = 98 := by rw [shd0]; decide +kernel
theorem tur_ne : tur ≠ flL (shd 2 abc 0) := fun e => by
  have h := congrArg (fun l => l.getD 33 0) e
  simp only [f0_33] at h
  unfold tur at h
  rw [List.getD_eq_getElem?_getD, List.getElem?_set_self (by rw [abc_fls_len]; omega)] at h
  simp at h
theorem tur_len : tur.length = 34 := by unfold tur; rw [List.length_set, abc_fls_len]
theorem tur_lt : ∀ z ∈ tur, z < 256 := fun z hz => by
  unfold tur at hz
  rcases List.mem_or_eq_of_mem_set hz with h | rfl
  · exact flL_lt (shd_lt 2 abc 0) z h
  · omega
theorem kn_few (f : List Nat) : rdrE (ofR 3 2 1 (dig abc)) [] [⟨6, []⟩, ⟨12, []⟩, ⟨0, f⟩] = 10 ∧ rdrB (ofR 3 2 1 (dig abc)) [] [⟨6, []⟩, ⟨12, []⟩, ⟨0, f⟩] = [] := by
  refine ab_few _ rfl ?_
  rw [cs3, sd_off _ 6 [] (by decide), sd_off _ 12 [] (by decide)]
  cases sdB (U.lgt abc.length 2) ⟨0, f⟩ <;> decide
theorem kn_may (l : List Cp) (hl : l.length = 3) : mayB (ofR 3 2 1 (dig abc)) [] l.length = true := by
  rw [hl]; exact mayB_of (dig_len _) (by omega) (by omega) (by omega) (by omega) (by omega) (by decide)
theorem kn_part : prtE (ofR 3 2 1 (dig abc)) [] ((fls 2 1 abc).map fun L => ⟨0, L⟩) 1 2 = 0 ∧ prtB (ofR 3 2 1 (dig abc)) [] ((fls 2 1 abc).map fun L => ⟨0, L⟩) 1 2 = [98] := by
  unfold prtE prtB
  rw [kn_may _ (by rw [List.length_map, fls3_len]), if_pos rfl, if_pos rfl, ab_all.1, ab_all.2]
  have e : (ofR 3 2 1 (dig abc)).size = 3 := rfl
  rw [e, if_neg (by omega), if_neg (by omega)]
  exact ⟨rfl, rfl⟩
theorem kn_past : prtE (ofR 3 2 1 (dig abc)) [] ((fls 2 1 abc).map fun L => ⟨0, L⟩) 2 4 = 5 ∧ prtB (ofR 3 2 1 (dig abc)) [] ((fls 2 1 abc).map fun L => ⟨0, L⟩) 2 4 = [] := by
  unfold prtE prtB
  rw [kn_may _ (by rw [List.length_map, fls3_len]), if_pos rfl, if_pos rfl]
  have e : (ofR 3 2 1 (dig abc)).size = 3 := rfl
  rw [e, if_pos (by omega), if_pos (by omega)]
  exact ⟨rfl, rfl⟩
theorem kn_stts : stts [⟨0, tur⟩, ⟨0, flL (shd 2 abc 1)⟩, ⟨0, flL (shd 2 abc 2)⟩] (fls 2 1 abc) = [3, 1, 1] := by
  rw [fls3]
  show [sttN ⟨0, tur⟩ (flL (shd 2 abc 0)), sttN ⟨0, flL (shd 2 abc 1)⟩ (flL (shd 2 abc 1)), sttN ⟨0, flL (shd 2 abc 2)⟩ (flL (shd 2 abc 2))] = _
  unfold sttN
  rw [if_pos rfl, if_neg tur_ne, if_pos rfl, if_pos rfl, if_pos rfl, if_pos rfl]
theorem kn_name : nmB ⟨#[97]⟩ ⟨#[120]⟩ = false := by decide
/-- A byte of bytes of the call's own is written. -/
theorem Buf.setAt {B : Nat} {w : World} {g n c : Nat} {L : List Nat} (h : Buf B w (.slice (some ⟨g, 0, none⟩) n c) L) (i v : Nat) : Buf B (w.setCell ⟨g, i, none⟩ (u8 v)) (.slice (some ⟨g, 0, none⟩) n c) (L.set i v) := by
  have hl := h.cap.1
  rcases h.2 with ⟨e, _⟩ | ⟨g2, cap, cur, e, hB, hg, h1, h2, h3, h4⟩
  · cases e
  cases e
  have hc : CAt w g cur 5 := hg
  refine ⟨by simp, .inr ⟨g, c, cur.setIfInBounds i (u8 v), by simp, hB, hc.set i _, by simpa using h1, h2, by simpa using h3, ?_⟩⟩
  rw [Array.toList_setIfInBounds, List.take_set, List.length_set, h4, List.map_set]
theorem Buf.at_ {B : Nat} {w : World} {po : Option Addr} {n c : Nat} {L : List Nat} (h : Buf B w (.slice po n c) L) (h0 : 0 < n) : ∃ g, po = some ⟨g, 0, none⟩ ∧ B ≤ g ∧ (∃ cs, CAt w g cs 5) ∧ (∀ i, i < n → w.cell? ⟨g, i, none⟩ = some (u8 (L.getD i 0))) ∧ ∀ i, w.frozen? ⟨g, i, none⟩ = false := by
  have hl := h.cap.1
  have hb := h.bl
  rcases h.2 with ⟨e, _⟩ | ⟨g, cap, cur, e, hB, hg, h1, h2, h3, h4⟩
  · cases e; omega
  cases e
  have hc : CAt w g cur 5 := hg
  refine ⟨g, rfl, hB, ⟨cur, hc⟩, fun i hi => ?_, fun i => hc.free i⟩
  rcases hb with hb | ⟨b, o, e, hb⟩
  · rw [hb] at hl hi; simp at hl hi
  · cases e
    have := hb i (by omega)
    rwa [Nat.zero_add] at this
end Go.Proofs.Ytopibkoklagceaa
