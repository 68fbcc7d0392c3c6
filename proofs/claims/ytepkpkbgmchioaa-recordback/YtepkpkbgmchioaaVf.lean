/- Contracts of the document's Uint, Text, ReadUint and ReadText. -/
import Derived.Test.YtepkpkbgmchioaaVe
namespace Go.Proofs.Ytepkpkbgmchioaa
open Go Go.RowKit

theorem Buf.one (w : World) (k : Nat) (B : Nat) (hB : B ≤ w.heap.size) : Buf B (w.alloc (.cells #[u8 k] 5)) (.slice (some ⟨w.heap.size, 0, none⟩) 1 1) [k] :=
  ⟨rfl, Or.inr ⟨w.heap.size, 1, #[u8 k], rfl, hB, at_new _ _, Nat.le_refl _, by unfold maxLen; omega, rfl, rfl⟩⟩
theorem Buf.base {B C : Nat} {w : World} {v : Value} {L : List Nat} (h : Buf B w v L) (hC : C ≤ B) : Buf C w v L := own_base h hC
theorem Buf.capn {B : Nat} {w : World} {n c : Nat} {L : List Nat} (h : Buf B w (.slice none n c) L) : c = 0 := by
  rcases h.2 with ⟨h, _⟩ | ⟨g, _, _, h, _⟩
  · simp at h; exact h.2
  · simp at h
set_option maxRecDepth 100000 in
theorem rUint_k (k : Nat) : ∀ (n : Nat) (w : World), n < 128 ^ (k + 1) → n ≤ 1099511627776 → Calls Try.prog 12 #[i64 n] w (BufS w.heap.size w (nb n)) := by
  induction k with
  | zero =>
    intro n w hk hn
    have hlt : (n : Int) < 128 := by omega
    have HB := hid (Buf.one w n w.heap.size (Nat.le_refl _))
    go_enter Try.func12, Try.ntmps12
    go_wp2_with fail
    go_ret
    rw [nb_lt (by omega)]
    exact ⟨_, rfl, HB.out, below_al _ _⟩
  | succ k ih =>
    intro n w hk hn
    by_cases hlt : (n : Int) < 128
    · have HB := hid (Buf.one w n w.heap.size (Nat.le_refl _))
      go_enter Try.func12, Try.ntmps12
      go_wp2_with fail
      go_ret
      rw [nb_lt (by omega)]
      exact ⟨_, rfl, HB.out, below_al _ _⟩
    · have h128 : n / 128 < 128 ^ (k + 1) := by rw [Nat.pow_succ] at hk; exact Nat.div_lt_of_lt_mul (by rw [Nat.mul_comm]; exact hk)
      have HB := hid (Buf.one w (n % 128 + 128) w.heap.size (Nat.le_refl _))
      have HIH := hid (ih (n / 128) (w.alloc (.cells #[u8 (n % 128 + 128)] 5)) h128 (by omega))
      have hc : (n : Int) % 128 + 128 = ((n % 128 + 128 : Nat) : Int) := by omega
      have hlen := nb_le (n := n / 128) (by omega)
      have e0 : nb n = (n % 128 + 128) :: nb (n / 128) := nb_ge (by omega)
      have HE := hid e0
      generalize hcc : n % 128 + 128 = cc at *
      clear e0 ih h128
      go_enter Try.func12, Try.ntmps12
      go_wp2_with (first
        | (go_at_call 12; refine (HIH.out).mono ?_; rintro e w2 ⟨v2, rfl, hb2, hw2⟩; obtain ⟨po2, c2, rfl⟩ := hb2.form; obtain ⟨v3, w3, hr3, hb3, hg3⟩ := (HB.out.below hw2).app po2 c2 _ hb2.bl (fun e => by subst e; exact hb2.capn) (by simp; omega) (by have := hw2.size; rw [size_al] at this; omega); have HRUN := hid hr3; clear hr3)
        | (at_builtin; refine wpList_append_run _ _ 22 22 rfl rfl _ _ _ rfl rfl HRUN.out ?_))
      go_ret
      rw [HE.out]
      exact ⟨v3, rfl, hb3, below_grown (below_on (below_al _ _) hw2) hg3 (Nat.le_refl _) (fun b hb => by cases hb; exact Nat.le_refl _)⟩
theorem rUint_any (n : Nat) (w : World) (hn : n ≤ 1099511627776) : Calls Try.prog 12 #[i64 n] w (BufS w.heap.size w (nb n)) := rUint_k 5 n w (by omega) hn
theorem rText_any (s : ByteArray) (w : World) (hn : s.size ≤ 65536) : Calls Try.prog 13 #[.string s] w (BufS w.heap.size w (tb (lst s))) := by
  go_enter Try.func13, Try.ntmps13
  go_wp2_with (first
    | (go_at_call 12; refine (rUint_any s.size w (by omega)).mono ?_; rintro e w1 ⟨v1, rfl, hb1, hw1⟩; have hlen := nb_le (n := s.size) (by omega); obtain ⟨v2, w2, hr, hb2, hw2⟩ := hb1.appS s (by omega) hw1.size; have HRUN := hid hr; clear hr)
    | (at_builtin; refine wpList_append_run _ _ 22 9 rfl rfl _ _ _ rfl rfl HRUN.out ?_))
  go_ret
  refine ⟨v2, rfl, ?_, below_tr hw1 hw2⟩
  unfold tb; rw [lst_len]; exact hb2
#print axioms rText_any
end Go.Proofs.Ytepkpkbgmchioaa
