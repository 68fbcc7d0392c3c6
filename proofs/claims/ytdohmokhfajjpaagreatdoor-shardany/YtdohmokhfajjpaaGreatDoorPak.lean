/- Texts laid into one, cut to what is needed: the remark ahead of each part says what is proved there. -/
import Derived.Test.YtdohmokhfajjpaaGreatDoorPaj
import Derived.Test.YtdohmokhfajjpaaGreatDoorPai
import Derived.WalkMore
import Derived.Deep.LoopGhost
/- Texts laid into one: the remark ahead of each part says what is proved there. -/
/- Contracts of slices.Clone of a row and of rows, and of clone of package matrix: the copy lies in new memory; what was there is as it was. And the sums, products and inverses of bytes once more, over the type of numbers. -/
namespace Go.Proofs.YtdohmokhfajjpaaGreatDoor.U
open Go.RowKit

theorem mul_k (a b : K) (w : World) : Calls Tryz.prog 62 #[.int .u8 ((a.val : Nat) : Int), .int .u8 ((b.val : Nat) : Int)] w fun e w' => e = .returned (.int .u8 (((a * b).val : Nat) : Int)) ∧ w' = w :=
 mul_any _ _ w (by omega) (by have := a.lt; omega) (by omega) (by have := b.lt; omega)
theorem add_k (a b : K) (w : World) : Calls Tryz.prog 60 #[.int .u8 ((a.val : Nat) : Int), .int .u8 ((b.val : Nat) : Int)] w fun e w' => e = .returned (.int .u8 (((a + b).val : Nat) : Int)) ∧ w' = w :=
 add_any _ _ w (by omega) (by have := a.lt; omega) (by omega) (by have := b.lt; omega)
theorem invV_k (a : K) : invV a.val = (((K.iv a).val : Nat) : Int) := by
 show (if a.val = 0 then (0 : Int) else (Gf.gi a.val : Nat)) = ((if a.val = 0 then 0 else Gf.gi a.val : Nat) : Int)
 split <;> rfl
theorem inv_k (a : K) (w : World) : Calls Tryz.prog 59 #[.int .u8 ((a.val : Nat) : Int)] w fun e w' => e = .returned (.tuple #[.int .u8 (((K.iv a).val : Nat) : Int), .int .i64 (invE a.val)]) ∧ w' = w := by
 rw [← invV_k]
 exact inv_any _ w (by omega) (by have := a.lt; omega)

theorem add_plain' (b o j : Nat) : (⟨b, o, none⟩ : Addr).add j = ⟨b, o + j, none⟩ := by unfold Addr.add; split <;> simp_all
theorem vals_cells {w : World} {b o n : Nat} {V : Nat → Value} (h : ∀ i, i < n → w.cell? ⟨b, o + i, none⟩ = some (V i)) : ∀ j u, (vals n V)[j]? = some u → w.cell? ((⟨b, o, none⟩ : Addr).add j) = some u := fun j u hj => by
 rcases Nat.lt_or_ge j n with q | q
 ·rw [vals_get n V j q] at hj; cases hj
  rw [add_plain']; exact h j q
 ·rw [List.getElem?_eq_none (by rw [vals_len]; exact q)] at hj; cases hj

set_option maxRecDepth 100000 in
set_option maxHeartbeats 1000000 in
theorem cloneRow_any (b o n c : Nat) (x : Nat → K) (w : World) (h0 : 1 ≤ n) (hn : n ≤ 100) (h : RowAt w b o n fun j => (x j).val) :
  Calls Tryz.prog 106 #[.slice (some ⟨b, o, none⟩) n c] w fun e w' => ∃ g cp, e = .returned (.slice (some ⟨g, 0, none⟩) n cp) ∧ w.heap.size ≤ g ∧ w'.ownsRow w.heap.size 5 1 (.slice (some ⟨g, 0, none⟩) n cp) n (vals n fun j => kv (x j)) ∧ Below w.heap.size w w' := by
 obtain ⟨i0, hi0, hz0, hz1, hz2⟩ := info_parts Tryz.info5
 have hown := World.ownsRow_lit (base := w.heap.size) (e := 5) (size := 1) w #[] 0 (Nat.le_refl _) (by unfold maxLen; omega) rfl
 have hlt : b < w.heap.size := World.block_lt_of_cell? w _ (h 0 (by omega))
 have hcells : ∀ i, i < n → (w.alloc (.cells #[] 5)).cell? ⟨b, o + i, none⟩ = some (kv (x i)) := fun i hi => by
  rw [World.cell?_alloc_lt _ _ _ hlt]; exact h i hi
 have HCE := hid hcells
 have HOWN := hid hown
 clear hown hcells h
 have hnil := fun w => Lib.run_eql_slice_nil (P := Tryz.prog) w 22 5 (some ⟨b, o, none⟩) n c 0 0 Tryz.underlying22
 go_enter Tryz.func106, Tryz.ntmps106
 go_wp2_with (at_builtin; refine wpList_append_lies _ rfl _ _ 22 rfl w.heap.size 5 i0 (.int .u8 0) 1 1 Tryz.underlying22 hi0 hz0 hz1 hz2 rfl (by omega) (.slice (some ⟨w.heap.size, 0, none⟩) 0 0) 0 [] rfl HOWN.out ⟨b, o, none⟩ n c (vals n fun j => kv (x j)) rfl (by rw [vals_len]; omega) (vals_cells HCE.out) (by intro u hu; unfold vals at hu; obtain ⟨i, _, rfl⟩ := List.mem_map.1 hu; rfl) (by omega) (by unfold maxLen; omega) (by omega) (by simp) _ rfl ?_; intro gg cap w1 hown1 hgrow hat hlt2)
 have HO : Hid (w1.ownsRow w.heap.size 5 1 (.slice (some ⟨gg, 0, none⟩) n cap) n (vals n fun j => kv (x j))) := by
  have := hown1; simp only [Nat.zero_add, List.nil_append] at this; exact this
 have HB : Hid (Below w.heap.size w w1) := Below.grown ((Below.refl _ _).alloc (Nat.le_refl _) _) hgrow (by simp) (fun j hj => by simp [Value.ownBlock] at hj; omega)
 clear hown1 hgrow
 go_wp2
 go_ret
 exact ⟨gg, cap, rfl, (own_ge HO.out).1, HO.out, HB.out⟩

set_option maxRecDepth 100000 in
set_option maxHeartbeats 1000000 in
theorem cloneTop_any (b o n c : Nat) (V : Nat → Value) (hV : ∀ i, (V i).oneCell' = true) (w : World) (h0 : 1 ≤ n) (hn : n ≤ 100) (h : ∀ i, i < n → w.cell? ⟨b, o + i, none⟩ = some (V i)) :
  Calls Tryz.prog 122 #[.slice (some ⟨b, o, none⟩) n c] w fun e w' => ∃ g cp, e = .returned (.slice (some ⟨g, 0, none⟩) n cp) ∧ w.heap.size ≤ g ∧ w'.ownsRow w.heap.size 22 1 (.slice (some ⟨g, 0, none⟩) n cp) n (vals n V) ∧ Below w.heap.size w w' := by
 obtain ⟨i0, hi0, hz0, hz1, hz2⟩ := info_parts Tryz.info22
 have hown := World.ownsRow_lit (base := w.heap.size) (e := 22) (size := 1) w #[] 0 (Nat.le_refl _) (by unfold maxLen; omega) rfl
 have hlt : b < w.heap.size := World.block_lt_of_cell? w _ (h 0 (by omega))
 have hcells : ∀ i, i < n → (w.alloc (.cells #[] 22)).cell? ⟨b, o + i, none⟩ = some (V i) := fun i hi => by
  rw [World.cell?_alloc_lt _ _ _ hlt]; exact h i hi
 have HCE := hid hcells
 have HOWN := hid hown
 have HV := hid hV
 clear hown hcells h hV
 have hnil := fun w => Lib.run_eql_slice_nil (P := Tryz.prog) w 25 22 (some ⟨b, o, none⟩) n c 0 0 Tryz.underlying25
 go_enter Tryz.func122, Tryz.ntmps122
 go_wp2_with (at_builtin; refine wpList_append_lies _ rfl _ _ 25 rfl w.heap.size 22 i0 (.slice none 0 0) 1 24 Tryz.underlying25 hi0 hz0 hz1 hz2 rfl (by omega) (.slice (some ⟨w.heap.size, 0, none⟩) 0 0) 0 [] rfl HOWN.out ⟨b, o, none⟩ n c (vals n V) rfl (by rw [vals_len]; omega) (vals_cells HCE.out) (by intro u hu; unfold vals at hu; obtain ⟨i, _, rfl⟩ := List.mem_map.1 hu; exact HV.out i) (by omega) (by unfold maxLen; omega) (by omega) (by simp) _ rfl ?_; intro gg cap w1 hown1 hgrow hat hlt2)
 have HO : Hid (w1.ownsRow w.heap.size 22 1 (.slice (some ⟨gg, 0, none⟩) n cap) n (vals n V)) := by
  have := hown1; simp only [Nat.zero_add, List.nil_append] at this; exact this
 have HB : Hid (Below w.heap.size w w1) := Below.grown ((Below.refl _ _).alloc (Nat.le_refl _) _) hgrow (by simp) (fun j hj => by simp [Value.ownBlock] at hj; omega)
 clear hown1 hgrow
 go_wp2
 go_ret
 exact ⟨gg, cap, rfl, (own_ge HO.out).1, HO.out, HB.out⟩

set_option maxRecDepth 100000 in
set_option maxHeartbeats 1000000 in
theorem clone_any (p : Option Addr) (n m c : Nat) (A : Nat → Option Addr) (C : Nat → Nat) (X : Nat → Nat → K) (w : World) (h : MatAt w p n A (fun _ => m) C X) (h0 : 1 ≤ n) (hn : n ≤ 32) (h1 : 1 ≤ m) (hm : m ≤ 32) :
  Calls Tryz.prog 107 #[.slice p n c] w fun e w' => ∃ g cp G Q, e = .returned (.slice (some ⟨g, 0, none⟩) n cp) ∧ OwnMat w.heap.size w' g cp n m G Q X ∧ Below w.heap.size w w' := by
 obtain ⟨b, o, rfl, bs, os, hc, hr⟩ := h.at (by omega) (by omega)
 clear h
 have HC := hid hc
 have HR := hid hr
 clear hc hr
 go_enter Tryz.func107, Tryz.ntmps107
 go_wp2_with fail
 refine (cloneTop_any b o n c (fun i => .slice (some ⟨bs i, os i, none⟩) m (C i)) (fun _ => rfl) w (by omega) (by omega) HC.out).mono ?_
 rintro e w1 ⟨g, cp, rfl, hge, hown, hb⟩
 have HO := hid hown
 have HB := hid hb
 clear hown hb
 go_wp2_with fail
 go_loopw [9] (fun i wr => ∃ k : Nat, ∃ G Q : Nat → Nat, k ≤ n ∧ i = .int .i64 k ∧ Half w.heap.size wr g cp n m k G Q X (fun i => .slice (some ⟨bs i, os i, none⟩) m (C i)) ∧ Below w.heap.size w wr) (fun i _ => (n - intOf i).toNat)
 case atStart => exact ⟨0, fun _ => 0, fun _ => 0, by omega, rfl, ⟨by simpa using HO.out, fun i hi => absurd hi (by omega), fun i j hi => absurd hi (by omega)⟩, HB.out⟩
 case round =>
  obtain ⟨k, G, Q, hk, rfl, hh, hb⟩ := hrel
  clear HO HB
  by_cases hlt : k < n
  ·have c1 : wr.cell? ⟨g, k, none⟩ = some (.slice (some ⟨bs k, os k, none⟩) m (C k)) := by rw [own_cell hh.top k hlt]; simp
   have c2 := hh.top.frozenAt k
   have r1 := (HR.out k hlt).keep (Stays.of_below hb)
   have hgl := (own_ge hh.top).2
   have hgb := (own_ge hh.top).1
   have HH := hid hh
   have HB := hid hb
   clear hh hb HR HC
   go_wp2_with fail
   refine (cloneRow_any (bs k) (os k) m (C k) (X k) wr (by omega) (by omega) r1).mono ?_
   rintro e w2 ⟨g1, cp1, rfl, hg1, hown1, hb1⟩
   have d1 := (hb1.cell (p := ⟨g, k, none⟩) hgl).trans c1
   have d2 := (hb1.frozen (p := ⟨g, k, none⟩) hgl).trans c2
   have hsz := HB.out.size
   have HP := hid (HH.out.push hb1.block g1 cp1 hg1 (own_base hown1 hsz))
   have HB2 := hid ((HB.out.trans (hb1.mono hsz)).setCell (p := ⟨g, k, none⟩) hgb (rv g1 m cp1))
   clear hown1 hb1 HH HB r1
   go_wp2
   go_roundw
   case rel => exact ⟨k + 1, upd G k g1, upd Q k cp1, by omega, by go_num, HP.out, HB2.out⟩
   case measure => simp [intOf]; omega
  ·have e : k = n := by omega
   subst e
   have HO := hid hh.done
   have HB := hid hb
   clear hh hb HR HC
   go_wp2
   go_ret
   exact ⟨g, cp, G, Q, rfl, HO.out, HB.out⟩
end Go.Proofs.YtdohmokhfajjpaaGreatDoor.U

/- Contract of exchange of package matrix: the rows, each in a block of its own, are exchanged as the plain mathematics says; no other block is touched. -/
namespace Go.Proofs.YtdohmokhfajjpaaGreatDoor.U
open Go.RowKit

/-- From w to w' nothing has turned but what the blocks of S hold. -/
structure OnlyIn (S : Nat → Prop) (w w' : World) : Prop where
 os : w'.os = w.os
 tape : w'.tape = w.tape
 output : w'.output = w.output
 size : w'.heap.size = w.heap.size
 block : ∀ k, ¬ S k → w'.heap[k]? = w.heap[k]?
theorem OnlyIn.refl (S : Nat → Prop) (w : World) : OnlyIn S w w := ⟨rfl, rfl, rfl, rfl, fun _ _ => rfl⟩
theorem OnlyIn.setCell {S : Nat → Prop} {w w' : World} (h : OnlyIn S w w') (g i : Nat) (hg : S g) (v : Value) : OnlyIn S w (w'.setCell ⟨g, i, none⟩ v) :=
 ⟨h.os, h.tape, h.output, by rw [World.size_setCell]; exact h.size, fun k hk => (Below.heap_setCell _ _ _ k (fun e => hk (by rw [e]; exact hg))).trans (h.block k hk)⟩
theorem OnlyIn.below {S : Nat → Prop} {B : Nat} {w0 w w' : World} (h : OnlyIn S w w') (hb : Below B w0 w) (hS : ∀ k, S k → B ≤ k) : Below B w0 w' :=
 ⟨h.os.trans hb.os, h.tape.trans hb.tape, h.output.trans hb.output, by rw [h.size]; exact hb.size, fun k hk => (h.block k (fun q => by have := hS k q; omega)).trans (hb.block k hk)⟩

section
variable (T : Nat → Nat → K) (i j : Nat)
def xs1 (k : Nat) : Nat → Nat → K := fun r c => if r = i ∧ c < k then xrow T i j c else up2 T i j 1 r c
theorem xs1_zero (r c : Nat) : up2 T i j 1 r c = xs1 T i j 0 r c := by unfold xs1; rw [if_neg (by omega)]
theorem xs1_val (k : Nat) : xs1 T i j k i k * K.iv (T i j) = xrow T i j k := by
 unfold xs1 xrow up2; rw [if_neg (by omega)]
 by_cases e : k = j
 ·rw [if_pos ⟨rfl, e⟩, if_pos e]
 ·rw [if_neg (fun h => e h.2), if_neg e]
theorem xs1_step (k r c : Nat) : up2 (xs1 T i j k) i k (xs1 T i j k i k * K.iv (T i j)) r c = xs1 T i j (k + 1) r c := by
 rw [xs1_val]
 unfold up2 xs1
 by_cases e : r = i ∧ c = k
 ·obtain ⟨rfl, rfl⟩ := e; simp
 ·rw [if_neg e]
  by_cases q : r = i ∧ c < k
  ·rw [if_pos q, if_pos (by omega)]
  ·rw [if_neg q, if_neg (by omega)]
def xm2 (r0 : Nat) : Nat → Nat → K := fun r c => if r < r0 ∨ r = i then xch T i j r c else T r c
theorem xm2_zero (m r c : Nat) (hc : c < m) : xs1 T i j m r c = xm2 T i j 0 r c := by
 unfold xs1 xm2
 by_cases e : r = i
 ·rw [if_pos ⟨e, hc⟩, if_pos (.inr e)]; unfold xch; rw [if_pos e]
 ·rw [if_neg (fun h => e h.1), if_neg (by omega)]; unfold up2; rw [if_neg (fun h => e h.1)]
theorem xm2_skip (r c : Nat) : xm2 T i j i r c = xm2 T i j (i + 1) r c := by
 unfold xm2
 by_cases e : r < i ∨ r = i
 ·rw [if_pos e, if_pos (by omega)]
 ·rw [if_neg e, if_neg (by omega)]
theorem xm2_done (n r c : Nat) (hr : r < n) : xm2 T i j n r c = xch T i j r c := by unfold xm2; rw [if_pos (.inl hr)]
def xs3 (r0 k : Nat) : Nat → Nat → K := fun r c => if r = r0 then (if c < k then xch T i j r0 c else if c = j then 0 else T r0 c) else xm2 T i j r0 r c
theorem xm2_at (r0 c : Nat) (h : r0 ≠ i) : xm2 T i j r0 r0 c = T r0 c := by unfold xm2; rw [if_neg (by omega)]
theorem xs3_zero (r0 r c : Nat) (h : r0 ≠ i) : up2 (xm2 T i j r0) r0 j 0 r c = xs3 T i j r0 0 r c := by
 unfold xs3
 by_cases e : r = r0
 ·subst e
  rw [if_pos rfl, if_neg (by omega)]
  unfold up2
  by_cases q : c = j
  ·rw [if_pos ⟨rfl, q⟩, if_pos q]
  ·rw [if_neg (fun hh => q hh.2), if_neg q, xm2_at T i j r c h]
 ·rw [if_neg e]; unfold up2; rw [if_neg (fun hh => e hh.1)]
theorem xs3_same (r0 k : Nat) : xs3 T i j r0 k r0 k = if k = j then 0 else T r0 k := by
 unfold xs3; rw [if_pos rfl, if_neg (Nat.lt_irrefl k)]
theorem xs3_piv (r0 k c : Nat) (h : r0 ≠ i) : xs3 T i j r0 k i c = xrow T i j c := by
 unfold xs3; rw [if_neg (fun e => h e.symm)]; unfold xm2; rw [if_pos (Or.inr rfl)]; unfold xch; rw [if_pos rfl]
theorem xs3_val (r0 k : Nat) (h : r0 ≠ i) : xs3 T i j r0 k r0 k + xm2 T i j r0 r0 j * xs3 T i j r0 k i k = xch T i j r0 k := by
 rw [xm2_at T i j r0 j h, xs3_same, xs3_piv T i j r0 k k h]
 unfold xch; rw [if_neg h]
theorem xs3_step (r0 k r c : Nat) (h : r0 ≠ i) : up2 (xs3 T i j r0 k) r0 k (xs3 T i j r0 k r0 k + xm2 T i j r0 r0 j * xs3 T i j r0 k i k) r c = xs3 T i j r0 (k + 1) r c := by
 rw [xs3_val T i j r0 k h]
 unfold up2 xs3
 by_cases e : r = r0
 ·subst e
  by_cases q : c = k
  ·subst q; simp
  ·rw [if_neg (fun hh => q hh.2), if_pos rfl, if_pos rfl]
   by_cases q2 : c < k
   ·rw [if_pos q2, if_pos (by omega)]
   ·rw [if_neg q2, if_neg (show ¬ c < k + 1 by omega)]
 ·rw [if_neg (fun hh => e hh.1), if_neg e, if_neg e]
theorem xs3_done (r0 m r c : Nat) (hc : c < m) (h : r0 ≠ i) : xs3 T i j r0 m r c = xm2 T i j (r0 + 1) r c := by
 unfold xs3
 by_cases e : r = r0
 ·subst e; rw [if_pos rfl, if_pos hc]; unfold xm2; rw [if_pos (by omega)]
 ·rw [if_neg e]; unfold xm2
  by_cases q : r < r0 ∨ r = i
  ·rw [if_pos q, if_pos (by omega)]
  ·rw [if_neg q, if_neg (by omega)]
end

set_option maxRecDepth 100000 in
set_option maxHeartbeats 4000000 in
theorem exchange_any (B g c n m i j : Nat) (G Q : Nat → Nat) (T : Nat → Nat → K) (w : World) (h : OwnMat B w g c n m G Q T) (hi : i < n) (hj : j < m) (hn : n ≤ 32) (hm : m ≤ 32) :
  Calls Tryz.prog 123 #[.slice (some ⟨g, 0, none⟩) n c, .int .i64 i, .int .i64 j] w fun e w' => e = .returned (.tuple #[]) ∧ OwnMat B w' g c n m G Q (xch T i j) ∧ OnlyIn (fun b => ∃ r, r < n ∧ b = G r) w w' := by
 have c1 := h.topCell i hi
 have c2 := h.cell i j hi hj
 have c3 := h.free i j hi
 have HM := hid ((h.set i j 1 hi).congr (fun r _ c _ => xs1_zero T i j r c))
 have HO := hid ((OnlyIn.refl (fun b => ∃ r, r < n ∧ b = G r) w).setCell (G i) j ⟨i, hi, rfl⟩ (.int .u8 (((1 : K).val : Nat) : Int)))
 clear h
 go_enter Tryz.func123, Tryz.ntmps123
 go_wp2_with (go_at_call 59; refine (inv_k _ _).mono ?_; rintro e w' ⟨rfl, hw⟩; have hw2 := hw.symm; subst hw2; clear hw)
 clear c2 c3
 go_loopw [33] (fun x wr => ∃ k : Nat, k ≤ m ∧ x = .int .i64 k ∧ OwnMat B wr g c n m G Q (xs1 T i j k) ∧ OnlyIn (fun b => ∃ r, r < n ∧ b = G r) w wr) (fun x _ => (m - intOf x).toNat)
 case atStart => exact ⟨0, by omega, rfl, HM.out, HO.out⟩
 case round =>
  clear c1 HM HO
  obtain ⟨k, hk, rfl, hmat, ho⟩ := hrel
  by_cases hlt : k < m
  ·have c2 := hmat.cell i k hi hlt
   have c3 := hmat.free i k hi
   have HM := hid ((hmat.set i k (xs1 T i j k i k * K.iv (T i j)) hi).congr (fun r _ c _ => xs1_step T i j k r c))
   have HO := hid (ho.setCell (G i) k ⟨i, hi, rfl⟩ (.int .u8 (((xs1 T i j k i k * K.iv (T i j)).val : Nat) : Int)))
   clear hmat ho
   go_wp2_with (go_at_call 62; refine (mul_k _ _ _).mono ?_; rintro e w' ⟨rfl, rfl⟩)
   go_roundw
   case rel => exact ⟨k + 1, by omega, by go_num, HM.out, HO.out⟩
   case measure => simp [intOf]; omega
  ·have HM := hid (hmat.congr (fun r _ c hc => xm2_zero T i j k r c (by omega)))
   have HO := hid ho
   clear hmat ho
   go_wp2_with fail
   go_loopw [47] (fun x wr => ∃ r : Nat, r ≤ n ∧ x = .int .i64 r ∧ OwnMat B wr g c n m G Q (xm2 T i j r) ∧ OnlyIn (fun b => ∃ r, r < n ∧ b = G r) w wr) (fun x _ => (n - intOf x).toNat)
   case atStart => exact ⟨0, by omega, rfl, HM.out, HO.out⟩
   case round =>
    clear HM HO
    obtain ⟨r, hr, rfl, hmat, ho⟩ := hrel
    by_cases hlt2 : r < n
    ·have d1 := hmat.topCell r hlt2
     by_cases e : r = i
     ·have e' : ((r : Int) == (i : Int)) = true := by rw [e]; simp
      have HM : Hid (OwnMat B wr g c n m G Q (xm2 T i j (r + 1))) := by
       rw [e] at hmat ⊢; exact hmat.congr (fun r _ c _ => xm2_skip T i j r c)
      have HO := hid ho
      clear hmat ho e
      go_wp2
      go_roundw
      case rel => exact ⟨r + 1, by omega, by go_num, HM.out, HO.out⟩
      case measure => simp [intOf]; omega
     ·have e' : ((r : Int) == (i : Int)) = false := by simp; omega
      have HE := hid e
      have d2 := hmat.cell r j hlt2 hj
      have d3 := hmat.free r j hlt2
      have HM := hid ((hmat.set r j 0 hlt2).congr (fun r' _ c _ => xs3_zero T i j r r' c e))
      have HO := hid (ho.setCell (G r) j ⟨r, hlt2, rfl⟩ (.int .u8 (((0 : K).val : Nat) : Int)))
      clear hmat ho e
      go_wp2_with fail
      clear d2 d3
      go_loopw [64] (fun x wr => ∃ l : Nat, l ≤ m ∧ x = .int .i64 l ∧ OwnMat B wr g c n m G Q (xs3 T i j r l) ∧ OnlyIn (fun b => ∃ r, r < n ∧ b = G r) w wr) (fun x _ => (m - intOf x).toNat)
      case atStart => exact ⟨0, by omega, rfl, HM.out, HO.out⟩
      case round =>
       clear HM HO d1
       obtain ⟨l, hl, rfl, hmat, ho⟩ := hrel
       by_cases hlt3 : l < m
       ·have d2 := hmat.cell r l hlt2 hlt3
        have d3 := hmat.free r l hlt2
        have d4 := hmat.cell i l hi hlt3
        have HM := hid ((hmat.set r l (xs3 T i j r l r l + xm2 T i j r r j * xs3 T i j r l i l) hlt2).congr (fun r' _ c _ => xs3_step T i j r l r' c HE.out))
        have HO := hid (ho.setCell (G r) l ⟨r, hlt2, rfl⟩ (.int .u8 (((xs3 T i j r l r l + xm2 T i j r r j * xs3 T i j r l i l).val : Nat) : Int)))
        clear hmat ho
        go_wp2_with (first | (go_at_call 62; refine (mul_k _ _ _).mono ?_; rintro e w' ⟨rfl, rfl⟩) | (go_at_call 60; refine (add_k _ _ _).mono ?_; rintro e w' ⟨rfl, rfl⟩))
        go_roundw
        case rel => exact ⟨l + 1, by omega, by go_num, HM.out, HO.out⟩
        case measure => simp [intOf]; omega
       ·have HM := hid (hmat.congr (fun r' _ c hc => xs3_done T i j r l r' c (by omega) HE.out))
        have HO := hid ho
        clear hmat ho
        go_wp2
        go_roundw
        case rel => exact ⟨r + 1, by omega, by go_num, HM.out, HO.out⟩
        case measure => simp [intOf]; omega
    ·have HM := hid (hmat.congr (fun r' hr' c _ => xm2_done T i j r r' c (by omega)))
     have HO := hid ho
     clear hmat ho
     go_wp2
     go_end0
     exact ⟨rfl, HM.out, HO.out⟩
end Go.Proofs.YtdohmokhfajjpaaGreatDoor.U

/- Contract of sweep of package matrix: the rows are swept as the plain mathematics says, the pivots' columns are told in order; nothing else that was there is touched. -/
namespace Go.Proofs.YtdohmokhfajjpaaGreatDoor.U
open Go.RowKit

theorem own_at {w : World} {B e n b : Nat} {v : Value} {xs : List Value} (h : w.ownsRow B e 1 v n xs) (hv : v.ownBlock = some b) : ∃ cur, w.heap[b]? = some (.cells cur e (0, 0)) := by
 rcases h.2 with ⟨h, _⟩ | ⟨g', cap, cur, q, _, hg, _⟩
 ·subst h; cases hv
 ·subst q; cases hv; exact ⟨cur, hg⟩
theorem own_keepV {w w' : World} {B e n : Nat} {v : Value} {xs : List Value} (h : w.ownsRow B e 1 v n xs) (hb : ∀ b, v.ownBlock = some b → w'.heap[b]? = w.heap[b]?) : w'.ownsRow B e 1 v n xs := by
 refine ⟨h.1, ?_⟩
 rcases h.2 with h2 | ⟨g', cap, cur, hv, h1, h2, h3⟩
 ·exact .inl h2
 ·exact .inr ⟨g', cap, cur, hv, h1, (hb g' (by rw [hv]; rfl)).trans h2, h3⟩
theorem own_ne {w : World} {B B' e e' n n' b : Nat} {v v' : Value} {xs ys : List Value} (h : w.ownsRow B e 1 v n xs) (h' : w.ownsRow B' e' 1 v' n' ys) (he : e ≠ e') (hv : v.ownBlock = some b) : v'.ownBlock ≠ some b := by
 intro q
 obtain ⟨cur, h1⟩ := own_at h hv
 obtain ⟨cur', h2⟩ := own_at h' q
 rw [h1] at h2; simp at h2; exact he h2.2
theorem OwnMat.grown {B B' e k : Nat} {w w' : World} {g c n m : Nat} {G Q : Nat → Nat} {X : Nat → Nat → K} {v : Value} {xs : List Value} (h : OwnMat B w g c n m G Q X) (hg : w.grownBy w' v.ownBlock) (hv : w.ownsRow B' e 1 v k xs) (h1 : e ≠ 22) (h2 : e ≠ 5) : OwnMat B w' g c n m G Q X where
 top := own_keepV h.top (fun b hb => hg.block b (by cases hb; exact (own_ge h.top).2) (fun q => own_ne h.top hv (fun z => h1 z.symm) hb q.symm))
 row := fun i hi => own_keepV (h.row i hi) (fun b hb => hg.block b (by cases hb; exact (h.ge i hi).2) (fun q => own_ne (h.row i hi) hv (fun z => h2 z.symm) hb q.symm))
 inj := h.inj
theorem OwnMat.setOther {B B' e k : Nat} {w : World} {g c n m b j : Nat} {G Q : Nat → Nat} {X : Nat → Nat → K} {v : Value} {xs : List Value} (h : OwnMat B w g c n m G Q X) (hv : w.ownsRow B' e 1 v k xs) (h1 : e ≠ 22) (h2 : e ≠ 5) (hb : v.ownBlock = some b) (u : Value) : OwnMat B (w.setCell ⟨b, j, none⟩ u) g c n m G Q X where
 top := ownsRow_setCell_other h.top (fun q => own_ne h.top hv (fun z => h1 z.symm) q hb) _
 row := fun i hi => ownsRow_setCell_other (h.row i hi) (fun q => own_ne (h.row i hi) hv (fun z => h2 z.symm) q hb) _
 inj := h.inj
theorem own_only {B B' e k : Nat} {w w' : World} {g c n m : Nat} {G Q : Nat → Nat} {X : Nat → Nat → K} {v : Value} {xs : List Value} (hv : w.ownsRow B' e 1 v k xs) (h : OwnMat B w g c n m G Q X) (ho : OnlyIn (fun b => ∃ r, r < n ∧ b = G r) w w') (h2 : e ≠ 5) : w'.ownsRow B' e 1 v k xs :=
 own_keepV hv (fun b hb => ho.block b (fun ⟨r, hr, q⟩ => own_ne hv (h.row r hr) h2 hb (by rw [q]; rfl)))
theorem own_len {w : World} {B e n : Nat} {v : Value} {xs : List Value} (h : w.ownsRow B e 1 v n xs) : ∃ p c, v = .slice p n c ∧ n ≤ c := by
 rcases h.2 with ⟨h, h2⟩ | ⟨g', cap, cur, q, _, _, hc, _⟩
 ·exact ⟨none, 0, by rw [h2]; exact h, by omega⟩
 ·exact ⟨_, cap, q, hc⟩

/-- The pivots as values. -/
def pivV (l : List Nat) : List Value := l.map fun x => .int .i64 ((x : Nat) : Int)
/-- Which columns were exchanged, as values. -/
def boolV (Q : Nat → Option Nat) : List Value := vals 32 fun j => .bool (Q j).isSome
theorem boolV_put (Q : Nat → Option Nat) (j i : Nat) : (boolV Q).set j (.bool true) = boolV (put Q j (some i)) := by
 unfold boolV; rw [vals_set]
 refine vals_congr (fun r _ => ?_)
 unfold upd put
 by_cases e : r = j
 ·rw [if_pos e, if_pos e]; rfl
 ·rw [if_neg e, if_neg e]
theorem pcol_skip {T : Nat → Nat → K} {Q : Nat → Option Nat} {i f j : Nat} (h : (Q j).isSome = true ∨ T i j = 0) : pcol T Q i (f + 1) j = pcol T Q i f (j + 1) := by
 show (if (Q j).isSome = true ∨ T i j = 0 then pcol T Q i f (j + 1) else some j) = _
 rw [if_pos h]
theorem pcol_hit {T : Nat → Nat → K} {Q : Nat → Option Nat} {i f j : Nat} (h : ¬ ((Q j).isSome = true ∨ T i j = 0)) : pcol T Q i (f + 1) j = some j := by
 show (if (Q j).isSome = true ∨ T i j = 0 then pcol T Q i f (j + 1) else some j) = _
 rw [if_neg h]

/-- What holds when the sweep has come to row k. -/
structure SwAt (B eb : Nat) (w wr : World) (g c n m : Nat) (G Q : Nat → Nat) (s : Sw) (v : Value) : Prop where
 mat : OwnMat B wr g c n m G Q s.T
 ex : wr.ownsRow w.heap.size 189 1 (.slice (some ⟨eb, 0, none⟩) 32 32) 32 (boolV s.Q)
 pv : wr.ownsRow w.heap.size 3 1 v s.l.length (pivV s.l)
 bel : Below B w wr

theorem SwAt.next {B eb : Nat} {w wr w2 w4 : World} {g c n m : Nat} {G Q : Nat → Nat} {s : Sw} {u v : Value} {T2 : Nat → Nat → K} {P2 : Nat → Option Nat} {j k : Nat} {o : Obj} (hs : SwAt B eb w wr g c n m G Q s u) (hB : B ≤ w.heap.size)
  (hm : OwnMat B w2 g c n m G Q T2) (ho : OnlyIn (fun b => ∃ r, r < n ∧ b = G r) wr w2) (hg : ((w2.setCell ⟨eb, j, none⟩ (.bool true)).alloc o).grownBy w4 u.ownBlock) (hv : w4.ownsRow w.heap.size 3 1 v (s.l.length + 1) (pivV s.l ++ [.int .i64 ((j : Nat) : Int)])) :
  SwAt B eb w w4 g c n m G Q ⟨T2, P2, put s.Q j (some k), s.l ++ [j]⟩ v := by
 have ex2 := own_only hs.ex hs.mat ho (by decide)
 have pv2 := own_only hs.pv hs.mat ho (by decide)
 have bel2 := ho.below hs.bel (fun b ⟨r, hr, q⟩ => by rw [q]; exact (hs.mat.ge r hr).1)
 have ex3 := (ex2.stored j (.bool true)).1
 rw [boolV_put _ j k] at ex3
 have pv3 := ownsRow_setCell_other pv2 (a := ⟨eb, j, none⟩) (fun q => own_ne pv2 ex2 (by decide) q rfl) (.bool true)
 have mat3 := hm.setOther ex2 (by decide) (by decide) (b := eb) (j := j) rfl (.bool true)
 have heb := own_ge hs.ex
 have bel3 := bel2.setCell (p := ⟨eb, j, none⟩) (by show B ≤ eb; omega) (.bool true)
 have hsz := bel3.size
 have mat4 : OwnMat B ((w2.setCell ⟨eb, j, none⟩ (.bool true)).alloc o) g c n m G Q T2 := mat3.keep (fun b hb => Below.heap_alloc _ _ _ hb)
 refine ⟨mat4.grown hg (pv3.alloc o) (by decide) (by decide), ?_, ?_, ?_⟩
 ·exact own_keepV (ex3.alloc o) (fun b hb => hg.block b (by cases hb; exact (own_ge (ex3.alloc o)).2) (fun q => own_ne (ex3.alloc o) (pv3.alloc o) (by decide) hb q.symm))
 ·show w4.ownsRow w.heap.size 3 1 v (s.l ++ [j]).length (pivV (s.l ++ [j]))
  have e1 : (s.l ++ [j]).length = s.l.length + 1 := by simp
  have e2 : pivV (s.l ++ [j]) = pivV s.l ++ [.int .i64 ((j : Nat) : Int)] := by simp [pivV]
  rw [e1, e2]; exact hv
 ·have hz : (w2.setCell ⟨eb, j, none⟩ (.bool true)).heap.size ≤ ((w2.setCell ⟨eb, j, none⟩ (.bool true)).alloc o).heap.size := by simp
  exact Below.grown (bel3.alloc (by omega) o) hg (by omega) (fun b hb => by have := (pv3.lt b hb).1; omega)

set_option maxRecDepth 100000 in
set_option maxHeartbeats 8000000 in
theorem sweep_any (B g c n m : Nat) (G Q : Nat → Nat) (T : Nat → Nat → K) (w : World) (h : OwnMat B w g c n m G Q T) (hn : n ≤ 32) (h1 : 1 ≤ m) (hm : m ≤ 32) :
  Calls Tryz.prog 108 #[.slice (some ⟨g, 0, none⟩) n c] w fun e w' => ∃ v, e = .returned v ∧ OwnMat B w' g c n m G Q (sw T m n).T ∧ w'.ownsRow w.heap.size 3 1 v (sw T m n).l.length (pivV (sw T m n).l) ∧ Below B w w' := by
 obtain ⟨i0, hi0, hz0, hz1, hz2⟩ := info_parts Tryz.info3
 have hBw : B ≤ w.heap.size := by have := own_ge h.top; omega
 have hlit := World.ownsRow_lit (base := w.heap.size) (e := 189) (size := 1) w #[.bool false, .bool false, .bool false, .bool false, .bool false, .bool false, .bool false, .bool false, .bool false, .bool false, .bool false, .bool false, .bool false, .bool false, .bool false, .bool false, .bool false, .bool false, .bool false, .bool false, .bool false, .bool false, .bool false, .bool false, .bool false, .bool false, .bool false, .bool false, .bool false, .bool false, .bool false, .bool false] 32 (Nat.le_refl _) (by unfold maxLen; omega) rfl
 have HS : Hid (SwAt B w.heap.size w _ g c n m G Q (sw T m 0) (.slice none 0 0)) := ⟨h.keep (fun b hb => Below.heap_alloc _ _ _ hb), hlit, World.ownsRow_nil _ _ _ _, (Below.refl _ _).alloc hBw _⟩
 clear h hlit
 go_enter Tryz.func108, Tryz.ntmps108
 go_wp2_with fail
 go_step3
 go_wp2_with fail
 go_step3
 go_wp2_with fail
 go_loopg [3, 10] n (fun gk v i wr => ∃ k : Nat, k ≤ n ∧ gk = n - k ∧ i = .int .i64 k ∧ SwAt B w.heap.size w wr g c n m G Q (sw T m k) v)
 case atStart => exact ⟨0, by omega, rfl, rfl, HS.out⟩
 case round =>
  clear HS
  obtain ⟨k, hk, hgk, rfl, hs⟩ := hrel
  have HG := hid hgk
  clear hgk
  by_cases hlt : k < n
  ·have c1 := hs.mat.topCell k hlt
   have HS := hid hs
   have HP0 : Hid (pcol (sw T m k).T (sw T m k).Q k (m - 0) 0 = pcol (sw T m k).T (sw T m k).Q k m 0) := rfl
   clear hs
   go_wp2_with fail
   go_loopg [7] m (fun gj x wy => ∃ j : Nat, j < m ∧ gj = m - j ∧ x = .int .i64 j ∧ wy = wr ∧ pcol (sw T m k).T (sw T m k).Q k (m - j) j = pcol (sw T m k).T (sw T m k).Q k m 0)
   case atStart => exact ⟨0, by omega, rfl, rfl, rfl, HP0.out⟩
   case round =>
    clear c1 HP0
    obtain ⟨j, hj, hgj, rfl, hwy, hp⟩ := hrel
    subst hwy
    have e1 : wr.cell? ⟨w.heap.size, j, none⟩ = some (.bool ((sw T m k).Q j).isSome) := own_cell (V := fun j => .bool ((sw T m k).Q j).isSome) HS.out.ex j (by omega)
    have e2 := HS.out.mat.cell k j hlt hj
    have HGJ := hid hgj
    rw [show m - j = (m - (j + 1)) + 1 by omega] at hp
    clear hgj
    by_cases hq : ((sw T m k).Q j).isSome = true
    ·have HP := hid ((pcol_skip (T := (sw T m k).T) (i := k) (f := m - (j + 1)) (Or.inl hq)).symm.trans hp)
     rw [hq] at e1
     clear hp e2 hq
     by_cases hjm : j + 1 = m
     ·have hjm' : (((j : Int) + 1) == (m : Int)) = true := by simp; omega
      have HN : Hid (sw T m (k + 1) = sw T m k) := sw_none (by have := HP.out; rw [← this, show m - (j + 1) = 0 by omega]; rfl)
      clear hjm HP
      go_wp2
      go_roundg (n - (k + 1))
      case measure => have := HG.out; omega
      case rel => exact ⟨k + 1, by omega, rfl, by go_num, by rw [HN.out]; exact HS.out⟩
     ·have hjm' : (((j : Int) + 1) == (m : Int)) = false := by simp; omega
      have hj2 : j + 1 < m := by omega
      clear hjm
      go_wp2
      go_roundg (m - (j + 1))
      case measure => have := HGJ.out; omega
      case rel => exact ⟨j + 1, by omega, rfl, by go_num, rfl, HP.out⟩
    ·by_cases ht : (sw T m k).T k j = 0
     ·have HP := hid ((pcol_skip (Q := (sw T m k).Q) (i := k) (f := m - (j + 1)) (Or.inr ht)).symm.trans hp)
      rw [show ((sw T m k).Q j).isSome = false from by simpa using hq] at e1
      have ht' : ((((sw T m k).T k j).val : Int) == 0) = true := by rw [ht]; rfl
      clear hp hq ht
      by_cases hjm : j + 1 = m
      ·have hjm' : (((j : Int) + 1) == (m : Int)) = true := by simp; omega
       have HN : Hid (sw T m (k + 1) = sw T m k) := sw_none (by have := HP.out; rw [← this, show m - (j + 1) = 0 by omega]; rfl)
       clear hjm HP
       go_wp2
       go_roundg (n - (k + 1))
       case measure => have := HG.out; omega
       case rel => exact ⟨k + 1, by omega, rfl, by go_num, by rw [HN.out]; exact HS.out⟩
      ·have hjm' : (((j : Int) + 1) == (m : Int)) = false := by simp; omega
       have hj2 : j + 1 < m := by omega
       clear hjm
       go_wp2
       go_roundg (m - (j + 1))
       case measure => have := HGJ.out; omega
       case rel => exact ⟨j + 1, by omega, rfl, by go_num, rfl, HP.out⟩
     ·have hp2 : pcol (sw T m k).T (sw T m k).Q k m 0 = some j := hp.symm.trans (pcol_hit (fun z => z.elim hq ht))
      rw [show ((sw T m k).Q j).isSome = false from by simpa using hq] at e1
      have ht' : ((((sw T m k).T k j).val : Int) == 0) = false := by
       have := K.val_ne ht; simp; omega
      have HP := hid (sw_some hp2)
      clear hp hp2 hq ht
      go_wp2_with fail
      refine (exchange_any B g c n m k j G Q (sw T m k).T wr HS.out.mat hlt hj hn hm).mono ?_
      rintro e w2 ⟨rfl, hmat2, ho2⟩
      have ex2 := own_only HS.out.ex HS.out.mat ho2 (by decide)
      have pv2 := own_only HS.out.pv HS.out.mat ho2 (by decide)
      have f1 : w2.cell? ⟨w.heap.size, j, none⟩ = some (.bool ((sw T m k).Q j).isSome) := own_cell (V := fun j => .bool ((sw T m k).Q j).isSome) ex2 j (by omega)
      have f2 := ex2.frozenAt j
      have PV3 := hid (ownsRow_setCell_other pv2 (a := ⟨w.heap.size, j, none⟩) (fun q => own_ne pv2 ex2 (by decide) q rfl) (.bool true))
      have HM2 := hid hmat2
      have HO2 := hid ho2
      have hlen := (sw_inv T n m k (by omega)).len
      have hsz2 : w.heap.size ≤ w2.heap.size := by have := HS.out.bel.size; rw [ho2.size]; exact this
      have HN : Hid (∀ q u, [Value.int .i64 ((j : Nat) : Int)][q]? = some u → ((w2.setCell ⟨w.heap.size, j, none⟩ (.bool true)).alloc (.cells #[.int .i64 ((j : Nat) : Int)] 3)).cell? ((⟨w2.heap.size, 0, none⟩ : Addr).add q) = some u) := by
       have e : (w2.setCell ⟨w.heap.size, j, none⟩ (.bool true)).heap.size = w2.heap.size := by simp
       rw [← e]
       exact World.news_of_block (cs := #[.int .i64 ((j : Nat) : Int)]) (t := 3) (fr := (0, 0)) (heap_alloc_new _ _)
      clear ex2 pv2 hmat2 ho2 e1 e2
      go_wp2_with (at_builtin; refine wpList_append_lies _ rfl _ _ 30 rfl w.heap.size 3 i0 (.int .i64 0) 1 8 Tryz.underlying30 hi0 hz0 hz1 hz2 rfl (by omega) u3 (sw T m k).l.length (pivV (sw T m k).l) rfl (PV3.out.alloc _) ⟨w2.heap.size, 0, none⟩ 1 1 [.int .i64 ((j : Nat) : Int)] rfl rfl HN.out (by intro u hu; simp at hu; subst hu; rfl) (by omega) (by unfold maxLen; omega) (by omega) (by simp; omega) _ rfl ?_; intro gg cap w4 hown4 hgrow hat hlt4)
      have HX : Hid (SwAt B w.heap.size w w4 g c n m G Q (sw T m (k + 1)) (.slice (some ⟨gg, 0, none⟩) ((sw T m k).l.length + 1) cap)) := by
       rw [HP.out]; exact HS.out.next hBw HM2.out HO2.out hgrow hown4
      clear hown4 hgrow hat hlt4 f1 f2 HN HM2 HO2 PV3
      go_wp2
      go_roundg (n - (k + 1))
      case measure => have := HG.out; omega
      case rel => exact ⟨k + 1, by omega, rfl, by go_num, HX.out⟩
  ·have e : k = n := by omega
   subst e
   have HS := hid hs
   clear hs
   go_wp2
   rw [Exit.noGoto_ret]
   go_ret
   exact ⟨u3, rfl, HS.out.mat, HS.out.pv, HS.out.bel⟩
end Go.Proofs.YtdohmokhfajjpaaGreatDoor.U

/- Contracts of ordered, Invert and Rank of package matrix: the inverse is read out of the sweep, or the error's number is told; what was there is as it was. -/
namespace Go.Proofs.YtdohmokhfajjpaaGreatDoor.U
open Go.RowKit

/-- The pivots of a list, by place. -/
def pl (l : List Nat) (i : Nat) : Nat := (l[i]?).getD 0
theorem pivV_get (l : List Nat) (i : Nat) (h : i < l.length) : (pivV l)[i]? = some (.int .i64 ((pl l i : Nat) : Int)) := by
 unfold pivV pl; rw [List.getElem?_map, List.getElem?_eq_getElem h]; rfl
theorem pivV_cell {w : World} {B g n c : Nat} {l : List Nat} (h : w.ownsRow B 3 1 (.slice (some ⟨g, 0, none⟩) n c) n (pivV l)) (i : Nat) (hi : i < n) (hl : l.length = n) : w.cell? ⟨g, i, none⟩ = some (.int .i64 ((pl l i : Nat) : Int)) := by
 rw [h.cellAt i (by omega), pivV_get l i (by omega)]

set_option maxRecDepth 100000 in
set_option maxHeartbeats 4000000 in
theorem ordered_any (B Bp g c n gp cp : Nat) (G Q : Nat → Nat) (T : Nat → Nat → K) (l : List Nat) (w : World) (h : OwnMat B w g c n n G Q T) (hp : w.ownsRow Bp 3 1 (.slice (some ⟨gp, 0, none⟩) n cp) n (pivV l)) (hl : l.length = n)
  (h0 : 1 ≤ n) (hn : n ≤ 32) (hlt : ∀ i, i < n → pl l i < n) (hinj : ∀ i j, i < n → j < n → pl l i = pl l j → i = j) :
  Calls Tryz.prog 109 #[.slice (some ⟨g, 0, none⟩) n c, .slice (some ⟨gp, 0, none⟩) n cp] w fun e w' => ∃ gi Gi Y, e = .returned (.slice (some ⟨gi, 0, none⟩) n n) ∧ OwnMat w.heap.size w' gi n n n Gi (fun _ => n) Y ∧ (∀ i, i < n → ∀ k, k < n → Y (pl l i) k = T i (pl l k)) ∧ Below w.heap.size w w' := by
 have H := hid h
 have HP := hid hp
 have HL := hid hl
 have HLT := hid hlt
 have HJ := hid hinj
 clear h hp hl hlt hinj
 go_enter Tryz.func109, Tryz.ntmps109
 go_wp2_with fail
 refine (zeros_any n n w (by omega) (by omega)).mono ?_
 rintro e w1 ⟨gi, Gi, rfl, hmat, hb⟩
 have HM := hid hmat
 have HB := hid hb
 clear hmat hb
 go_wp2_with fail
 go_loopw [17] (fun x wr => ∃ i : Nat, ∃ Y, i ≤ n ∧ x = .int .i64 i ∧ OwnMat w.heap.size wr gi n n n Gi (fun _ => n) Y ∧ (∀ r, r < i → ∀ k, k < n → Y (pl l r) k = T r (pl l k)) ∧ Below w.heap.size w wr) (fun x _ => (n - intOf x).toNat)
 case atStart => exact ⟨0, _, by omega, rfl, HM.out, fun r hr => absurd hr (by omega), HB.out⟩
 case round =>
  obtain ⟨i, Y, hi, rfl, hmat, hY, hb⟩ := hrel
  clear HM HB
  by_cases hlt : i < n
  ·have c1 := Stays.of_below hb _ _ (H.out.topCell i hlt)
   have HM := hid hmat
   have HB := hid hb
   have HY := hid hY
   clear hmat hb hY
   go_wp2_with fail
   go_loopw [24] (fun x wr => ∃ k : Nat, ∃ Y, k ≤ n ∧ x = .int .i64 k ∧ OwnMat w.heap.size wr gi n n n Gi (fun _ => n) Y ∧ (∀ r, r < i → ∀ k, k < n → Y (pl l r) k = T r (pl l k)) ∧ (∀ k', k' < k → Y (pl l i) k' = T i (pl l k')) ∧ Below w.heap.size w wr) (fun x _ => (n - intOf x).toNat)
   case atStart => exact ⟨0, Y, by omega, rfl, HM.out, HY.out, fun r hr => absurd hr (by omega), HB.out⟩
   case round =>
    clear HM HB HY c1
    obtain ⟨k, Y, hk, rfl, hmat, hY, hY2, hb⟩ := hrel
    by_cases hlt2 : k < n
    ·have hpi := HLT.out i hlt
     have hpk := HLT.out k hlt2
     have c1 := Stays.of_below hb _ _ (pivV_cell HP.out k hlt2 HL.out)
     have c2 := Stays.of_below hb _ _ (pivV_cell HP.out i hlt HL.out)
     have c3 := Stays.of_below hb _ _ (H.out.cell i (pl l k) hlt hpk)
     have c4 := hmat.topCell (pl l i) hpi
     have c5 := hmat.cell (pl l i) k hpi hlt2
     have c6 := hmat.free (pl l i) k hpi
     have hge := (hmat.ge (pl l i) hpi).1
     have b1 := (own_ge HP.out).2
     have b2 := (H.out.ge i hlt).2
     have b3 := hmat.apart (pl l i) hpi
     have C7 : Hid (∀ v, (wr.setCell ⟨Gi (pl l i), k, none⟩ v).drew.cell? ⟨gp, i, none⟩ = some (.int .i64 ((pl l i : Nat) : Int)) ∧ (wr.setCell ⟨Gi (pl l i), k, none⟩ v).drew.cell? ⟨G i, pl l k, none⟩ = some (.int .u8 ((T i (pl l k)).val : Nat)) ∧ (wr.setCell ⟨Gi (pl l i), k, none⟩ v).drew.cell? ⟨gi, pl l i, none⟩ = some (.slice (some ⟨Gi (pl l i), 0, none⟩) n n)) := fun v => by
      refine ⟨?_, ?_, ?_⟩
      ·show (wr.setCell ⟨Gi (pl l i), k, none⟩ v).cell? _ = _
       rw [World.cell?_setCell_other _ _ _ _ (by intro q; cases q; omega)]; exact c2
      ·show (wr.setCell ⟨Gi (pl l i), k, none⟩ v).cell? _ = _
       rw [World.cell?_setCell_other _ _ _ _ (by intro q; have := congrArg Addr.block q; simp at this; omega)]; exact c3
      ·show (wr.setCell ⟨Gi (pl l i), k, none⟩ v).cell? _ = _
       rw [World.cell?_setCell_other _ _ _ _ (by intro q; have := congrArg Addr.block q; simp at this; omega)]; exact c4
     have HM := hid ((hmat.set (pl l i) k (T i (pl l k)) hpi).drew)
     have HB := hid ((hb.setCell (p := ⟨Gi (pl l i), k, none⟩) hge (.int .u8 (((T i (pl l k)).val : Nat) : Int))).drew)
     have HY : Hid (∀ r, r < i → ∀ k', k' < n → up2 Y (pl l i) k (T i (pl l k)) (pl l r) k' = T r (pl l k')) := fun r hr k' hk' => by
      unfold up2
      rw [if_neg (fun q => by have := HJ.out r i (by omega) hlt q.1; omega)]; exact hY r hr k' hk'
     have HY2 : Hid (∀ k', k' < k + 1 → up2 Y (pl l i) k (T i (pl l k)) (pl l i) k' = T i (pl l k')) := fun k' hk' => by
      unfold up2
      by_cases e : k' = k
      ·rw [if_pos ⟨rfl, e⟩, e]
      ·rw [if_neg (fun q => e q.2)]; exact hY2 k' (by omega)
     clear hmat hb hY hY2 H HP HL HLT HJ
     go_wp2_with fail
     go_region_held3 (fun w' => w'.cell? ⟨gp, i, none⟩ = some (.int .i64 ((pl l i : Nat) : Int)) ∧ w'.cell? ⟨G i, pl l k, none⟩ = some (.int .u8 ((T i (pl l k)).val : Nat)) ∧ w'.cell? ⟨gi, pl l i, none⟩ = some (.slice (some ⟨Gi (pl l i), 0, none⟩) n n)) (first | exact C7.out _ | go_keep) (fail)
     go_wp2
     go_roundw
     case rel => exact ⟨k + 1, _, by omega, by go_num, HM.out, HY.out, HY2.out, HB.out⟩
     case measure => simp [intOf]; omega
    ·have HM := hid hmat
     have HB := hid hb
     have HY : Hid (∀ r, r < i + 1 → ∀ k', k' < n → Y (pl l r) k' = T r (pl l k')) := fun r hr k' hk' => by
      by_cases e : r = i
      ·rw [e]; exact hY2 k' (by omega)
      ·exact hY r (by omega) k' hk'
     clear hmat hb hY hY2 H HP HL HLT HJ
     go_wp2
     go_roundw
     case rel => exact ⟨i + 1, Y, by omega, by go_num, HM.out, HY.out, HB.out⟩
     case measure => simp [intOf]; omega
  ·have HM := hid hmat
   have HB := hid hb
   have HY : Hid (∀ r, r < n → ∀ k', k' < n → Y (pl l r) k' = T r (pl l k')) := fun r hr k' hk' => hY r (by omega) k' hk'
   clear hmat hb hY H HP HL HLT HJ
   go_wp2
   go_ret
   exact ⟨gi, Gi, Y, rfl, HM.out, HY.out, HB.out⟩
end Go.Proofs.YtdohmokhfajjpaaGreatDoor.U

/- Contracts of Invert and Rank of package matrix: the inverse is read out of the sweep and lies in new memory, or the error's number is told; what was there is as it was. -/
namespace Go.Proofs.YtdohmokhfajjpaaGreatDoor.U
open Go.RowKit

theorem pl_piv (s : Sw) : pl s.l = piv s := rfl

set_option maxRecDepth 100000 in
set_option maxHeartbeats 2000000 in
theorem invert_square (p : Option Addr) (n c : Nat) (A : Nat → Option Addr) (C : Nat → Nat) (X : Nat → Nat → K) (w : World) (h0 : 1 ≤ n) (hn : n ≤ 32) (h : MatAt w p n A (fun _ => n) C X) :
  Calls Tryz.prog 94 #[.slice p n c] w fun e w' => Below w.heap.size w w' ∧ (((sw X n n).l.length < n ∧ e = .returned (.tuple #[.slice none 0 0, .int .i64 120])) ∨
   ((sw X n n).l.length = n ∧ ∃ g G Y, e = .returned (.tuple #[.slice (some ⟨g, 0, none⟩) n n, .int .i64 0]) ∧ OwnMat w.heap.size w' g n n n G (fun _ => n) Y ∧ IsOrd (sw X n n) n Y)) := by
 have T := hid h.top
 have H := hid h
 have HE : Hid (errC n (fun _ => n) = 0) := errC_ok h0 hn h0 hn (fun _ _ => rfl)
 obtain ⟨b, o, rfl, hc⟩ := h.top.pos (by omega)
 have c0 := hc 0 (by omega)
 rw [Nat.add_zero] at c0
 clear hc h
 go_enter Tryz.func94, Tryz.ntmps94
 go_wp2_with fail
 refine (check_any _ _ _ _ _ _ _ (by omega) T.out).mono ?_
 rintro e w' ⟨rfl, hw⟩
 have hw2 := hw.symm
 subst hw2
 clear hw
 rw [HE.out]
 go_wp2_with fail
 refine (clone_any _ n n c A C X w H.out h0 hn h0 hn).mono ?_
 rintro e w1 ⟨g1, c1, G1, Q1, rfl, hm1, hb1⟩
 have HM1 := hid hm1
 have HB1 := hid hb1
 clear hm1 hb1 c0
 go_wp2_with fail
 refine (sweep_any _ g1 c1 n n G1 Q1 X w1 HM1.out hn h0 hn).mono ?_
 rintro e w2 ⟨v, rfl, hm2, hv2, hb2⟩
 obtain ⟨pv, cv, rfl, hcv⟩ := own_len hv2
 have hlen := (sw_inv X n n n (Nat.le_refl _)).len
 have HM2 := hid hm2
 have HV2 := hid hv2
 have HB2 := hid (HB1.out.trans hb2)
 clear hm2 hv2 hb2 HM1 HB1
 by_cases hlt : (sw X n n).l.length < n
 ·go_wp2
  go_ret2
  exact ⟨HB2.out, .inl ⟨by first | assumption | trivial, rfl⟩⟩
 ·have hfull : (sw X n n).l.length = n := by omega
  have HF := hid hfull
  have hv3 := HV2.out
  rw [hfull] at hv3
  have HV3 := hid hv3
  obtain ⟨gp, cp, hform, _⟩ := hv3.form (by omega)
  cases hform
  clear hv3 hfull
  rw [HF.out]
  have hself : ¬ ((n : Int) < (n : Int)) := by omega
  go_wp2_with fail
  refine (ordered_any _ _ g1 c1 n gp cv G1 Q1 (sw X n n).T (sw X n n).l w2 HM2.out HV3.out HF.out h0 hn (fun i hi => by rw [pl_piv]; exact full_lt HF.out i hi) (fun i j hi hj q => by rw [pl_piv] at q; exact full_inj HF.out i j hi hj q)).mono ?_
  rintro e w3 ⟨g, G, Y, rfl, hm3, hY, hb3⟩
  have hsz := HB2.out.size
  have HM3 := hid (hm3.base hsz)
  have HB3 := hid (HB2.out.trans (hb3.mono hsz))
  have HY := hid hY
  clear hm3 hb3 hY HM2 HV2 HV3
  go_wp2
  go_ret2
  exact ⟨HB3.out, .inr ⟨HF.out, g, G, Y, rfl, HM3.out, HY.out⟩⟩

end Go.Proofs.YtdohmokhfajjpaaGreatDoor.U
