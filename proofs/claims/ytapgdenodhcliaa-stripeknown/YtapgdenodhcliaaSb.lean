/- Contracts of Length and part of package stripe: how long shards are, or the error's number; the bytes laid into shards in new memory, with noughts behind them; what was there is as it was. -/
import Derived.Test.YtapgdenodhcliaaSa
import Derived.Test.YtapgdenodhcliaaYd
namespace Go.Proofs.Ytapgdenodhcliaa
open Go.RowKit

set_option maxHeartbeats 400000 in
theorem length_err (s k : Int) (w : World) (h : s < 0 ∨ 65536 < s ∨ k < 1 ∨ 16 ≤ k) :
    Calls Try.prog 12 #[.int .i64 s, .int .i64 k] w fun e w' => e = .returned (.tuple #[.int .i64 0, .int .i64 5]) ∧ w' = w := by
  by_cases h1 : s < 0
  · go_enter Try.func12, Try.ntmps12
    go_wp2
    go_ret2
    exact ⟨rfl, rfl⟩
  by_cases h2 : 65536 < s
  · go_enter Try.func12, Try.ntmps12
    go_wp2
    go_ret2
    exact ⟨rfl, rfl⟩
  by_cases h3 : k < 1
  · go_enter Try.func12, Try.ntmps12
    go_wp2
    go_ret2
    exact ⟨rfl, rfl⟩
  · have h4 : 16 ≤ k := by omega
    go_enter Try.func12, Try.ntmps12
    go_wp2
    go_ret2
    exact ⟨rfl, rfl⟩

theorem lgt_div (s k : Nat) (_h : 1 ≤ k) : Int.tdiv ((s : Int) + (k : Int) - 1) (k : Int) = ((lgt s k : Nat) : Int) := by
  unfold lgt
  rw [show (s : Int) + (k : Int) - 1 = ((s + k - 1 : Nat) : Int) by omega]
  exact Int.ofNat_tdiv _ _ |>.symm
theorem lgt_le (s k : Nat) (h1 : s ≤ 65536) (h2 : 1 ≤ k) : lgt s k ≤ 65536 := by
  unfold lgt
  have : (s + k - 1) / k < 65537 := by
    rw [Nat.div_lt_iff_lt_mul (by omega)]
    have : 65537 ≤ 65537 * k := Nat.le_mul_of_pos_right _ (by omega)
    have e : 65537 * k = 65536 * k + k := by omega
    have : 65536 ≤ 65536 * k := Nat.le_mul_of_pos_right _ (by omega)
    omega
  omega
set_option maxHeartbeats 400000 in
theorem length_ok (s k : Nat) (w : World) (h1 : s ≤ 65536) (h2 : 1 ≤ k) (h3 : k ≤ 15) :
    Calls Try.prog 12 #[.int .i64 s, .int .i64 k] w fun e w' => e = .returned (.tuple #[.int .i64 ((lgt s k : Nat) : Int), .int .i64 0]) ∧ w' = w := by
  have hd := lgt_div s k h2
  have hw : IntKind.i64.wrap ((s : Int) + (k : Int)) = (s : Int) + (k : Int) := by rw [IntKind.wrap_i64]; omega
  have hk : (k : Int) ≠ 0 := by omega
  have hle := lgt_le s k h1 h2
  go_enter Try.func12, Try.ntmps12
  go_wp2
  go_ret2
  exact ⟨ret_ie (by first | rfl | (unfold wrap64; omega)) rfl, rfl⟩
/-- k shards of that length have room for all bytes. -/
theorem lgt_room (s k : Nat) (h2 : 1 ≤ k) : s ≤ k * lgt s k := by
  unfold lgt
  have := Nat.div_add_mod (s + k - 1) k
  have := Nat.mod_lt (s + k - 1) (show k > 0 by omega)
  omega

/-- A part of a list from l on. -/
theorem run_lo22 (p : Option Addr) (n c l : Nat) (hl : l ≤ n) : ∃ p2 : Option Addr, (∀ w : World, (Instr.slice 22 (.slice p n c) (some (.int .i64 (l : Int))) none none).run Try.prog w = .ok (.slice p2 (n - l) (c - l)) w) ∧ (∀ b o, p = some ⟨b, o, none⟩ → l < c → p2 = some ⟨b, o + l, none⟩) := by
  have hr : ∀ w, (Instr.slice 22 (.slice p n c) (some (.int .i64 (l : Int))) none none).run Try.prog w = .ok (sliced p l n c 1) w := fun w => by
    rw [run_slice_l (P := Try.prog) w 22 p n c under41 .i64 (l : Int) (by omega) (by omega), size41]
    simp [Result.andThen]
  cases p with
  | none => exact ⟨none, fun w => by rw [hr]; simp [sliced], fun b o e => by cases e⟩
  | some a =>
    by_cases e : c = l
    · exact ⟨some a, fun w => by rw [hr]; simp [sliced, e], fun b o _ q => by omega⟩
    · refine ⟨some (a.add l), fun w => by rw [hr]; simp [sliced, e], fun b o q _ => ?_⟩
      cases q
      rw [add_plain']
theorem StrAt.drop {w : World} {p p2 : Option Addr} {n c l : Nat} {x : Nat → Nat} (h : StrAt w p n x) (hc : n ≤ c) (hp : ∀ b o, p = some ⟨b, o, none⟩ → l < c → p2 = some ⟨b, o + l, none⟩) : StrAt w p2 (n - l) (fun j => x (l + j)) := by
  by_cases h0 : n - l = 0
  · exact .inl h0
  · rcases h with h | ⟨b, o, rfl, hr⟩
    · omega
    · exact .inr ⟨b, o + l, hp b o rfl (by omega), fun i hi => by rw [Nat.add_assoc]; exact hr (l + i) (by omega)⟩
theorem StrAt.short {w : World} {p : Option Addr} {n n' : Nat} {x : Nat → Nat} (h : StrAt w p n x) (hn : n' ≤ n) : StrAt w p n' x := by
  by_cases h0 : n' = 0
  · exact .inl h0
  · rcases h with h | ⟨b, o, rfl, hr⟩
    · omega
    · exact .inr ⟨b, o, rfl, fun i hi => hr i (by omega)⟩
theorem StrAt.congr {w : World} {p : Option Addr} {n : Nat} {x y : Nat → Nat} (h : StrAt w p n x) (e : ∀ j, j < n → x j = y j) : StrAt w p n y := by
  rcases h with h | ⟨b, o, rfl, hr⟩
  · exact .inl h
  · exact .inr ⟨b, o, rfl, fun i hi => by rw [← e i hi]; exact hr i hi⟩
/-- copy into a list that lies in memory of the call's own. -/
theorem run_copyG (w : World) (b o dl dc : Nat) (p : Option Addr) (n c : Nat) (x : Nat → Nat) (hx : StrAt w p n x) (hc : ∀ j, j < dl → ∃ v, w.cell? ⟨b, o + j, none⟩ = some v) (hf : ∀ j, w.frozen? ⟨b, o + j, none⟩ = false) (ty : TypeId) :
    (Builtin.copy_ #[22, 22] ty #[.slice (some ⟨b, o, none⟩) dl dc, .slice p n c]).run Try.prog w = .ok (goInt ((min n dl : Nat) : Int)) (w.setCells b o (valN (min n dl) x)) := by
  by_cases h0 : min n dl = 0
  · rw [h0]
    exact run_copy_none (P := Try.prog) _ 22 22 ty 5 _ _ _ _ _ _ Try.underlying22 (by kernel_rfl) h0
  · rcases hx with h | ⟨b', o', rfl, hr⟩
    · omega
    · have := run_copy_cells (P := Try.prog) w 22 22 ty 5 b o dl dc ⟨b', o', none⟩ n c (valN (min n dl) x) Try.underlying22 (by kernel_rfl) (by rw [valN_len])
        (fun j v hj => by
          have hjn : j < min n dl := by
            rcases Nat.lt_or_ge j (min n dl) with q | q
            · exact q
            · rw [List.getElem?_eq_none (by rw [valN_len]; exact q)] at hj; cases hj
          rw [valN_get _ x j hjn] at hj
          cases hj
          rw [add_plain']; exact hr j (by omega))
        (fun j hj => by rw [valN_len] at hj; obtain ⟨v, hv⟩ := hc j (by omega); rw [hv]; rfl)
        (fun j _ => hf j)
        (fun v hv => by unfold valN at hv; obtain ⟨i, _, rfl⟩ := List.mem_map.1 hv; rfl)
      rw [valN_len] at this
      exact this
/-- What a copy leaves of an owned row. -/
theorem own_copied {B g N Q : Nat} : ∀ (ks : List K) (o : Nat) (w : World) (y : Nat → K), w.ownsRow B 5 1 (.slice (some ⟨g, 0, none⟩) N Q) N (vals N fun c => kv (y c)) →
    (w.setCells g o (ks.map kv)).ownsRow B 5 1 (.slice (some ⟨g, 0, none⟩) N Q) N (vals N fun c => kv (if o ≤ c ∧ c < o + ks.length then (ks[c - o]?).getD 0 else y c))
  | [], o, w, y, h => by
    rw [vals_congr (W := fun c => kv (y c)) (fun c _ => by rw [if_neg (by simp)])]; exact h
  | k :: ks, o, w, y, h => by
    have h1 := (h.stored o (kv k)).1
    rw [vals_set, vals_congr (W := fun c => kv (if c = o then k else y c)) (fun c _ => by unfold upd; by_cases e : c = o <;> simp [e])] at h1
    have ih := own_copied ks (o + 1) _ _ h1
    rw [vals_congr (W := fun c => kv (if o ≤ c ∧ c < o + (k :: ks).length then ((k :: ks)[c - o]?).getD 0 else y c)) (fun c _ => by
      congr 1
      by_cases e1 : c = o
      · subst e1
        rw [if_neg (by omega), if_pos rfl, if_pos (by simp)]; simp
      · by_cases e2 : o + 1 ≤ c ∧ c < o + 1 + ks.length
        · rw [if_pos e2, if_pos (by simp; omega), show c - o = (c - (o + 1)) + 1 by omega]; rfl
        · rw [if_neg e2, if_neg e1, if_neg (by simp; omega)])] at ih
    exact ih
theorem own_laid {B : Nat} {w : World} {g N Q : Nat} {y : Nat → K} (h : w.ownsRow B 5 1 (.slice (some ⟨g, 0, none⟩) N Q) N (vals N fun c => kv (y c))) (o n : Nat) (x : Nat → K) :
    (w.setCells g o (valN n fun j => (x j).val)).ownsRow B 5 1 (.slice (some ⟨g, 0, none⟩) N Q) N (vals N fun c => kv (if o ≤ c ∧ c < o + n then x (c - o) else y c)) := by
  rw [← ksOf_vals]
  have h1 := own_copied (ksOf n x) o w y h
  have hl : (ksOf n x).length = n := by simp [ksOf]
  rw [vals_congr (W := fun c => kv (if o ≤ c ∧ c < o + n then x (c - o) else y c)) (fun c _ => by
    congr 1
    rw [hl]
    by_cases e : o ≤ c ∧ c < o + n
    · rw [if_pos e, if_pos e, ksOf_get n x (c - o) (by omega)]
    · rw [if_neg e, if_neg e])] at h1
  exact h1
end Go.Proofs.Ytapgdenodhcliaa
