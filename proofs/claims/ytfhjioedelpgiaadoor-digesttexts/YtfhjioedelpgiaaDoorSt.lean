/- A list of texts in memory; contract of Tags of package digest: the tag of tags, or the errors. -/
import Derived.Test.YtfhjioedelpgiaaDoorSk
import Derived.Test.YtfhjioedelpgiaaDoorSj
import Derived.Test.YtfhjioedelpgiaaDoorShelf
namespace Go.Proofs.YtfhjioedelpgiaaDoor
open Go Go.RowKit

/-- A list of texts in memory. -/
def TxtAt (w : World) (p : Option Addr) (n : Nat) (S : Nat → ByteArray) : Prop := n = 0 ∨ ∃ b o, p = some ⟨b, o, none⟩ ∧ ∀ i, i < n → w.cell? ⟨b, o + i, none⟩ = some (.string (S i))
theorem TxtAt.below {w w' : World} {p : Option Addr} {n : Nat} {S : Nat → ByteArray} (h : TxtAt w p n S) (hb : Below w.heap.size w w') : TxtAt w' p n S := by
  rcases Nat.eq_zero_or_pos n with h0 | h0
  · exact .inl h0
  · rcases h with h | ⟨b, o, rfl, hr⟩
    · omega
    · exact .inr ⟨b, o, rfl, fun i hi => (hb.cell (p := ⟨b, o + i, none⟩) (show b < w.heap.size from cell_lt (hr 0 h0))).trans (hr i hi)⟩
def allF (S : Nat → ByteArray) (j : Nat) : Nat := sayF (sg (S (j / 16))) (j % 16)
theorem allF_lt (S : Nat → ByteArray) (j : Nat) : allF S j < 256 := sayF_lt _ _
theorem allF_step (S : Nat → ByteArray) (k i : Nat) (h : i < 16 * k + 16) : (if i < 16 * k then allF S i else sayF (sg (S k)) (i - 16 * k)) = allF S i := by
  by_cases e : i < 16 * k
  · rw [if_pos e]
  · rw [if_neg e]; unfold allF
    rw [show i / 16 = k by omega, show i % 16 = i - 16 * k by omega]
def allOk (n : Nat) (S : Nat → ByteArray) : Bool := (List.range n).all fun i => okS (S i) 32
theorem allOk_iff (n : Nat) (S : Nat → ByteArray) : allOk n S = true ↔ ∀ i, i < n → okS (S i) 32 = true := by unfold allOk; rw [List.all_eq_true]; simp
/-- What Tags tells. -/
def tgE (n : Nat) (S : Nat → ByteArray) : Int := if 32 < n then 3 else if allOk n S then 0 else 4
def tgS (n : Nat) (S : Nat → ByteArray) : ByteArray := if tgE n S = 0 then strN 32 (hexF (sha (16 * n) (allF S))) ++ ⟨#[45]⟩ ++ ⟨(Lib.decDigits n).toArray⟩ else ⟨#[]⟩
theorem str_new {w : World} {p : Option Addr} {n : Nat} {S : Nat → ByteArray} (h : TxtAt w p n S) (k : Nat) (hk : k < n) : ∃ b o, p = some ⟨b, o, none⟩ ∧ w.cell? ⟨b, o + k, none⟩ = some (.string (S k)) := by
  rcases h with h | ⟨b, o, rfl, hr⟩
  · omega
  · exact ⟨b, o, rfl, hr k hk⟩
theorem dec_len (n : Nat) (h : n < 100) : (Lib.decDigits n).length ≤ 2 := by
  by_cases h1 : n < 10
  · rw [Lib.decDigits_one h1]; simp
  · rw [Lib.decDigits_two h1 h]; simp
set_option maxRecDepth 100000 in
set_option maxHeartbeats 1000000 in
theorem tags_any (p : Option Addr) (n c : Nat) (S : Nat → ByteArray) (w : World) (hn : n ≤ 1000) (hT : TxtAt w p n S) :
    Calls Tryd.prog 12 #[.slice p n c] w fun e w' => e = .returned (.tuple #[.string (tgS n S), .int .i64 (tgE n S)]) ∧ Below w.heap.size w w' := by
  by_cases h32 : 32 < n
  · have e1 : tgE n S = 3 := by unfold tgE; rw [if_pos h32]
    have e2 : tgS n S = ⟨#[]⟩ := by unfold tgS; rw [e1]; rfl
    have HE : Hid (tgE n S = 3 ∧ tgS n S = ⟨#[]⟩) := ⟨e1, e2⟩
    have h32' : (32 : Int) < (n : Int) := by omega
    clear e1 e2 hT
    go_enter Tryd.func12, Tryd.ntmps12
    go_wp2
    go_ret2
    refine ⟨?_, Below.refl _ _⟩
    rw [HE.out.1, HE.out.2]; rfl
  · have h32' : ¬ (32 : Int) < (n : Int) := by omega
    have HT := hid hT
    have H32 := hid h32
    have hn' : (n : Int) ≤ 32 := by omega
    clear hT h32
    go_enter Tryd.func12, Tryd.ntmps12
    go_wp2
    go_loopw [4, 14] (fun v i wr => ∃ k : Nat, k ≤ n ∧ i = .int .i64 k ∧ (∀ j, j < k → okS (S j) 32 = true) ∧ Buf w.heap.size wr v (16 * k) (allF S) ∧ Below w.heap.size w wr) (fun _ i _ => (n - intOf i).toNat)
    case atStart => exact ⟨0, by omega, rfl, fun j hj => by omega, Buf.nil _ _ _, Below.refl _ _⟩
    case round =>
      obtain ⟨k, hk, rfl, hall, hbuf, hb⟩ := hrel
      have HA := hid hall
      have HF := hid hbuf
      have HB := hid hb
      clear hall hbuf hb
      by_cases hlt : k < n
      · have hlt' : (k : Int) < (n : Int) := by omega
        obtain ⟨b, o, rfl, hc⟩ := str_new (HT.out.below HB.out) k hlt
        by_cases hok : okS (S k) 32 = true
        · have HK := hid hok
          clear hok
          go_upto_region 10 with (go_at_call 24; refine (said_any _ 32 (by decide) (by decide) _).mono ?_; rintro e w1 ⟨p1, n1, rfl, hst, hn1, _, hb1⟩; rw [HK.out])
          have hn16 : n1 = 16 := by have := hn1 HK.out; omega
          subst hn16
          have hF1 := HF.out.below hb1
          have hB1 : w.heap.size ≤ w1.heap.size := Nat.le_trans HB.out.size hb1.size
          have hp1 : p1 = none → 16 = 0 ∧ 16 = 0 := fun e => by
            rcases hst with h | ⟨b', o', e', _⟩
            · omega
            · rw [e] at e'; cases e'
          obtain ⟨v', w2, hr, hbuf2, hb2⟩ := hF1.app p1 16 16 _ hst hp1 (by omega) hB1
          have HF2 := hid (hbuf2.congr (fun i hi => allF_step S k i hi))
          have HB2 := hid ((HB.out.trans (hb1.mono HB.out.size)).trans hb2)
          have HR := hid hr
          clear hbuf2 hb2 hF1 hB1 hp1 hst hn1 hb1 hr
          go_wp2_with (refine wpList_append_eq rfl _ _ 26 rfl _ _ rfl rfl _ _ HR.out ?_)
          go_roundw
          case rel =>
            refine ⟨k + 1, by omega, by go_num, fun j hj => ?_, ?_, HB2.out⟩
            · by_cases e : j = k
              · rw [e]; exact HK.out
              · exact HA.out j (by omega)
            · rw [show 16 * (k + 1) = 16 * k + 16 by omega]; exact HF2.out
          case measure => simp [intOf]; omega
        · have hok' : okS (S k) 32 = false := by simpa using hok
          have e0 : allOk n S = false := by
            cases ha : allOk n S with
            | false => rfl
            | true => exact absurd ((allOk_iff n S).1 ha k hlt) hok
          have e1 : tgE n S = 4 := by unfold tgE; rw [if_neg H32.out, e0]; rfl
          have e2 : tgS n S = ⟨#[]⟩ := by unfold tgS; rw [e1]; rfl
          have HE : Hid (tgE n S = 4 ∧ tgS n S = ⟨#[]⟩ ∧ okS (S k) 32 = false) := ⟨e1, e2, hok'⟩
          clear e0 e1 e2 hok hok'
          go_wp2_with (go_at_call 24; refine (said_any _ 32 (by decide) (by decide) _).mono ?_; rintro e w1 ⟨p1, n1, rfl, hst, hn1, _, hb1⟩; rw [HE.out.2.2]; have HB2 := hid (HB.out.trans (hb1.mono HB.out.size)); clear hb1 hst hn1)
          go_ret2
          refine ⟨?_, HB2.out⟩
          rw [HE.out.1, HE.out.2.1]; rfl
      · have e : k = n := by omega
        have e0 : allOk n S = true := (allOk_iff n S).2 (fun i hi => HA.out i (by omega))
        have e1 : tgE n S = 0 := by unfold tgE; rw [if_neg H32.out, e0]; rfl
        have e2 : tgS n S = strN 32 (hexF (sha (16 * n) (allF S))) ++ ⟨#[45]⟩ ++ ⟨(Lib.decDigits n).toArray⟩ := by unfold tgS; rw [e1]; rfl
        have HE : Hid (tgE n S = 0 ∧ tgS n S = strN 32 (hexF (sha (16 * n) (allF S))) ++ ⟨#[45]⟩ ++ ⟨(Lib.decDigits n).toArray⟩) := ⟨e1, e2⟩
        obtain ⟨pv, cv, rfl, hcv, hst, _⟩ := HF.out.str
        have HS : Hid (StrAt wr pv (16 * n) (allF S) ∧ 16 * n ≤ cv) := by rw [← e]; exact ⟨hst, hcv⟩
        have hge : ¬ (k : Int) < (n : Int) := by omega
        have h16 : 16 * k = 16 * n := by omega
        have HN : Hid (n < 100 ∧ 16 * n ≤ 1000000) := by constructor <;> (have := H32.out; omega)
        rw [h16]
        have hz1 := strN_size 32 (hexF (sha (16 * n) (allF S)))
        have hz2 := dec_len n HN.out.1
        clear e e0 e1 e2 hst hcv h16 HF
        go_wp2_with (first
          | (go_at_call 21; refine (tag_any _ _ _ (allF S) _ HN.out.2 HS.out.2 HS.out.1 (fun i _ => allF_lt S i)).mono ?_; rintro e w1 ⟨rfl, hb1⟩; have HB2 := hid (HB.out.trans (hb1.mono HB.out.size)); clear hb1)
          | (go_at_call 26; refine (Tryd.strconv_Itoa_small n HN.out.1 _).mono ?_; rintro e w' ⟨rfl, rfl⟩))
        go_ret2
        refine ⟨?_, HB2.out⟩
        rw [HE.out.1, HE.out.2]
        rfl
end Go.Proofs.YtfhjioedelpgiaaDoor
