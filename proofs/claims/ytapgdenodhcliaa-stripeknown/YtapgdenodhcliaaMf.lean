/- Contracts of slices.Clone of a row and of rows, and of clone of package matrix: the copy lies in new memory; what was there is as it was. And the sums, products and inverses of bytes once more, over the type of numbers. -/
import Derived.Test.YtapgdenodhcliaaMe
import Derived.Test.YtapgdenodhcliaaLb
namespace Go.Proofs.Ytapgdenodhcliaa
open Go.RowKit

theorem mul_k (a b : K) (w : World) : Calls Try.prog 69 #[.int .u8 ((a.val : Nat) : Int), .int .u8 ((b.val : Nat) : Int)] w fun e w' => e = .returned (.int .u8 (((a * b).val : Nat) : Int)) ∧ w' = w :=
  mul_any _ _ w (by omega) (by have := a.lt; omega) (by omega) (by have := b.lt; omega)
theorem add_k (a b : K) (w : World) : Calls Try.prog 67 #[.int .u8 ((a.val : Nat) : Int), .int .u8 ((b.val : Nat) : Int)] w fun e w' => e = .returned (.int .u8 (((a + b).val : Nat) : Int)) ∧ w' = w :=
  add_any _ _ w (by omega) (by have := a.lt; omega) (by omega) (by have := b.lt; omega)
theorem invV_k (a : K) : invV a.val = (((K.iv a).val : Nat) : Int) := by
  show (if a.val = 0 then (0 : Int) else (Gf.gi a.val : Nat)) = ((if a.val = 0 then 0 else Gf.gi a.val : Nat) : Int)
  split <;> rfl
theorem inv_k (a : K) (w : World) : Calls Try.prog 66 #[.int .u8 ((a.val : Nat) : Int)] w fun e w' => e = .returned (.tuple #[.int .u8 (((K.iv a).val : Nat) : Int), .int .i64 (invE a.val)]) ∧ w' = w := by
  rw [← invV_k]
  exact inv_any _ w (by omega) (by have := a.lt; omega)

theorem add_plain' (b o j : Nat) : (⟨b, o, none⟩ : Addr).add j = ⟨b, o + j, none⟩ := by unfold Addr.add; split <;> simp_all
theorem vals_cells {w : World} {b o n : Nat} {V : Nat → Value} (h : ∀ i, i < n → w.cell? ⟨b, o + i, none⟩ = some (V i)) : ∀ j u, (vals n V)[j]? = some u → w.cell? ((⟨b, o, none⟩ : Addr).add j) = some u := fun j u hj => by
  rcases Nat.lt_or_ge j n with q | q
  · rw [vals_get n V j q] at hj; cases hj
    rw [add_plain']; exact h j q
  · rw [List.getElem?_eq_none (by rw [vals_len]; exact q)] at hj; cases hj

set_option maxRecDepth 100000 in
set_option maxHeartbeats 1000000 in
theorem cloneRow_any (b o n c : Nat) (x : Nat → K) (w : World) (h0 : 1 ≤ n) (hn : n ≤ 100) (h : RowAt w b o n fun j => (x j).val) :
    Calls Try.prog 71 #[.slice (some ⟨b, o, none⟩) n c] w fun e w' => ∃ g cp, e = .returned (.slice (some ⟨g, 0, none⟩) n cp) ∧ w.heap.size ≤ g ∧ w'.ownsRow w.heap.size 5 1 (.slice (some ⟨g, 0, none⟩) n cp) n (vals n fun j => kv (x j)) ∧ Below w.heap.size w w' := by
  obtain ⟨i0, hi0, hz0, hz1, hz2⟩ := info_parts Try.info5
  have hown := World.ownsRow_lit (base := w.heap.size) (e := 5) (size := 1) w #[] 0 (Nat.le_refl _) (by unfold maxLen; omega) rfl
  have hlt : b < w.heap.size := World.block_lt_of_cell? w _ (h 0 (by omega))
  have hcells : ∀ i, i < n → (w.alloc (.cells #[] 5)).cell? ⟨b, o + i, none⟩ = some (kv (x i)) := fun i hi => by
    rw [World.cell?_alloc_lt _ _ _ hlt]; exact h i hi
  have HCE := hid hcells
  have HOWN := hid hown
  clear hown hcells h
  have hnil := fun w => Lib.run_eql_slice_nil (P := Try.prog) w 22 5 (some ⟨b, o, none⟩) n c 0 0 Try.underlying22
  go_enter Try.func71, Try.ntmps71
  go_wp2_with (at_builtin; refine wpList_append_lies _ rfl _ _ 22 rfl w.heap.size 5 i0 (.int .u8 0) 1 1 Try.underlying22 hi0 hz0 hz1 hz2 rfl (by omega) (.slice (some ⟨w.heap.size, 0, none⟩) 0 0) 0 [] rfl HOWN.out ⟨b, o, none⟩ n c (vals n fun j => kv (x j)) rfl (by rw [vals_len]; omega) (vals_cells HCE.out) (by intro u hu; unfold vals at hu; obtain ⟨i, _, rfl⟩ := List.mem_map.1 hu; rfl) (by omega) (by unfold maxLen; omega) (by omega) (by simp) _ rfl ?_; intro gg cap w1 hown1 hgrow hat hlt2)
  have HO : Hid (w1.ownsRow w.heap.size 5 1 (.slice (some ⟨gg, 0, none⟩) n cap) n (vals n fun j => kv (x j))) := by
    have := hown1; simp only [Nat.zero_add, List.nil_append] at this; exact this
  have HB : Hid (Below w.heap.size w w1) := Below.grown ((Below.refl _ _).alloc (Nat.le_refl _) _) hgrow (by simp) (fun j hj => by simp [Value.ownBlock] at hj; omega)
  clear hown1 hgrow
  go_wp2
  go_ret
  exact ⟨gg, cap, rfl, (own_ge HO.out).1, HO.out, HB.out⟩

set_option maxRecDepth 100000 in
set_option maxHeartbeats 1000000 in
theorem cloneTop_any (b o n c : Nat) (V : Nat → Value) (hV : ∀ i, (V i).oneCell' = true) (w : World) (h0 : 1 ≤ n) (hn : n ≤ 100) (h : ∀ i, i < n → w.cell? ⟨b, o + i, none⟩ = some (V i)) :
    Calls Try.prog 83 #[.slice (some ⟨b, o, none⟩) n c] w fun e w' => ∃ g cp, e = .returned (.slice (some ⟨g, 0, none⟩) n cp) ∧ w.heap.size ≤ g ∧ w'.ownsRow w.heap.size 22 1 (.slice (some ⟨g, 0, none⟩) n cp) n (vals n V) ∧ Below w.heap.size w w' := by
  obtain ⟨i0, hi0, hz0, hz1, hz2⟩ := info_parts Try.info22
  have hown := World.ownsRow_lit (base := w.heap.size) (e := 22) (size := 1) w #[] 0 (Nat.le_refl _) (by unfold maxLen; omega) rfl
  have hlt : b < w.heap.size := World.block_lt_of_cell? w _ (h 0 (by omega))
  have hcells : ∀ i, i < n → (w.alloc (.cells #[] 22)).cell? ⟨b, o + i, none⟩ = some (V i) := fun i hi => by
    rw [World.cell?_alloc_lt _ _ _ hlt]; exact h i hi
  have HCE := hid hcells
  have HOWN := hid hown
  have HV := hid hV
  clear hown hcells h hV
  have hnil := fun w => Lib.run_eql_slice_nil (P := Try.prog) w 24 22 (some ⟨b, o, none⟩) n c 0 0 Try.underlying24
  go_enter Try.func83, Try.ntmps83
  go_wp2_with (at_builtin; refine wpList_append_lies _ rfl _ _ 24 rfl w.heap.size 22 i0 (.slice none 0 0) 1 24 Try.underlying24 hi0 hz0 hz1 hz2 rfl (by omega) (.slice (some ⟨w.heap.size, 0, none⟩) 0 0) 0 [] rfl HOWN.out ⟨b, o, none⟩ n c (vals n V) rfl (by rw [vals_len]; omega) (vals_cells HCE.out) (by intro u hu; unfold vals at hu; obtain ⟨i, _, rfl⟩ := List.mem_map.1 hu; exact HV.out i) (by omega) (by unfold maxLen; omega) (by omega) (by simp) _ rfl ?_; intro gg cap w1 hown1 hgrow hat hlt2)
  have HO : Hid (w1.ownsRow w.heap.size 22 1 (.slice (some ⟨gg, 0, none⟩) n cap) n (vals n V)) := by
    have := hown1; simp only [Nat.zero_add, List.nil_append] at this; exact this
  have HB : Hid (Below w.heap.size w w1) := Below.grown ((Below.refl _ _).alloc (Nat.le_refl _) _) hgrow (by simp) (fun j hj => by simp [Value.ownBlock] at hj; omega)
  clear hown1 hgrow
  go_wp2
  go_ret
  exact ⟨gg, cap, rfl, (own_ge HO.out).1, HO.out, HB.out⟩

set_option maxRecDepth 100000 in
set_option maxHeartbeats 1000000 in
theorem clone_any (p : Option Addr) (n m c : Nat) (A : Nat → Option Addr) (C : Nat → Nat) (X : Nat → Nat → K) (w : World) (h : MatAt w p n A (fun _ => m) C X) (h0 : 1 ≤ n) (hn : n ≤ 32) (h1 : 1 ≤ m) (hm : m ≤ 32) :
    Calls Try.prog 72 #[.slice p n c] w fun e w' => ∃ g cp G Q, e = .returned (.slice (some ⟨g, 0, none⟩) n cp) ∧ OwnMat w.heap.size w' g cp n m G Q X ∧ Below w.heap.size w w' := by
  obtain ⟨b, o, rfl, bs, os, hc, hr⟩ := h.at (by omega) (by omega)
  clear h
  have HC := hid hc
  have HR := hid hr
  clear hc hr
  go_enter Try.func72, Try.ntmps72
  go_wp2_with fail
  refine (cloneTop_any b o n c (fun i => .slice (some ⟨bs i, os i, none⟩) m (C i)) (fun _ => rfl) w (by omega) (by omega) HC.out).mono ?_
  rintro e w1 ⟨g, cp, rfl, hge, hown, hb⟩
  have HO := hid hown
  have HB := hid hb
  clear hown hb
  go_wp2_with fail
  go_loopw [9] (fun i wr => ∃ k : Nat, ∃ G Q : Nat → Nat, k ≤ n ∧ i = .int .i64 k ∧ Half w.heap.size wr g cp n m k G Q X (fun i => .slice (some ⟨bs i, os i, none⟩) m (C i)) ∧ Below w.heap.size w wr) (fun i _ => (n - intOf i).toNat)
  case atStart => exact ⟨0, fun _ => 0, fun _ => 0, by omega, rfl, ⟨by simpa using HO.out, fun i hi => absurd hi (by omega), fun i j hi => absurd hi (by omega)⟩, HB.out⟩
  case round =>
    obtain ⟨k, G, Q, hk, rfl, hh, hb⟩ := hrel
    clear HO HB
    by_cases hlt : k < n
    · have c1 : wr.cell? ⟨g, k, none⟩ = some (.slice (some ⟨bs k, os k, none⟩) m (C k)) := by rw [own_cell hh.top k hlt]; simp
      have c2 := hh.top.frozenAt k
      have r1 := (HR.out k hlt).keep (Stays.of_below hb)
      have hgl := (own_ge hh.top).2
      have hgb := (own_ge hh.top).1
      have HH := hid hh
      have HB := hid hb
      clear hh hb HR HC
      go_wp2_with fail
      refine (cloneRow_any (bs k) (os k) m (C k) (X k) wr (by omega) (by omega) r1).mono ?_
      rintro e w2 ⟨g1, cp1, rfl, hg1, hown1, hb1⟩
      have d1 := (hb1.cell (p := ⟨g, k, none⟩) hgl).trans c1
      have d2 := (hb1.frozen (p := ⟨g, k, none⟩) hgl).trans c2
      have hsz := HB.out.size
      have HP := hid (HH.out.push hb1.block g1 cp1 hg1 (own_base hown1 hsz))
      have HB2 := hid ((HB.out.trans (hb1.mono hsz)).setCell (p := ⟨g, k, none⟩) hgb (rv g1 m cp1))
      clear hown1 hb1 HH HB r1
      go_wp2
      go_roundw
      case rel => exact ⟨k + 1, upd G k g1, upd Q k cp1, by omega, by go_num, HP.out, HB2.out⟩
      case measure => simp [intOf]; omega
    · have e : k = n := by omega
      subst e
      have HO := hid hh.done
      have HB := hid hb
      clear hh hb HR HC
      go_wp2
      go_ret
      exact ⟨g, cp, G, Q, rfl, HO.out, HB.out⟩
end Go.Proofs.Ytapgdenodhcliaa
