/- Contract of Split of package stripe: all shards of the bytes lie in new memory, or the error's number is told; what was there is as it was. -/
import Derived.Test.YtapgdenodhcliaaSd
import Derived.Test.YtapgdenodhcliaaYf
namespace Go.Proofs.Ytapgdenodhcliaa
open Go.RowKit

theorem size24 (w : World) : (sizeOf (Try.prog.elem 24)).run Try.prog w = .ok 1 w := by
  obtain ⟨i0, hi0, hz0, hz1, hz2⟩ := info_parts Try.info22
  rw [show Try.prog.elem 24 = 22 by kernel_rfl]
  simp [sizeOf, typeInfo, hi0, hz1]
theorem under24 : Try.prog.underlying 24 = some (.slice (Try.prog.elem 24)) := by kernel_rfl
theorem run_lo24 (b o n c k : Nat) (hk : k ≤ n) (hc : k < c) (w : World) : (Instr.slice 24 (.slice (some ⟨b, o, none⟩) n c) (some (.int .i64 (k : Int))) none none).run Try.prog w = .ok (.slice (some ⟨b, o + k, none⟩) (n - k) (c - k)) w := by
  rw [run_slice_l (P := Try.prog) w 24 (some ⟨b, o, none⟩) n c under24 .i64 (k : Int) (by omega) (by omega), size24]
  simp [Result.andThen, sliced, show ¬ c = k by omega, add_plain']
theorem run_hi24 (p : Option Addr) (n c k : Nat) (hk : k ≤ c) (hc : 0 < c) (w : World) : (Instr.slice 24 (.slice p n c) none (some (.int .i64 (k : Int))) none).run Try.prog w = .ok (.slice p k c) w := by
  rw [run_slice_h (P := Try.prog) w 24 p n c under24 .i64 (k : Int) (by omega) (by omega), size24]
  cases p with
  | none => simp [Result.andThen, sliced, Nat.pos_iff_ne_zero.1 hc]
  | some a => obtain ⟨b, o, s⟩ := a; simp [Result.andThen, sliced, Addr.add]; try (cases s <;> simp)
/-- Some of the rows. -/
theorem MatAt.sub {w : World} {b o n : Nat} {A : Nat → Option Addr} {L C : Nat → Nat} {X : Nat → Nat → K} (h : MatAt w (some ⟨b, o, none⟩) n A L C X) (r m : Nat) (hr : r + m ≤ n) :
    MatAt w (some ⟨b, o + r, none⟩) m (fun i => A (r + i)) (fun i => L (r + i)) (fun i => C (r + i)) (fun i j => X (r + i) j) where
  top := by
    by_cases h0 : m = 0
    · exact .inl h0
    · obtain ⟨b', o', hp, hc⟩ := h.top.pos (by omega)
      cases hp
      exact .inr ⟨b, o + r, rfl, fun i hi => by rw [Nat.add_assoc]; exact hc (r + i) (by omega)⟩
  row := fun i hi => h.row (r + i) (by omega)
  le := fun i hi => h.le (r + i) (by omega)
theorem MatAt.first {w : World} {p : Option Addr} {n : Nat} {A : Nat → Option Addr} {L C : Nat → Nat} {X : Nat → Nat → K} (h : MatAt w p n A L C X) (m : Nat) (hr : m ≤ n) : MatAt w p m A L C X where
  top := by
    rcases h.top with h0 | ⟨b, o, hp, hc⟩
    · exact .inl (by omega)
    · exact .inr ⟨b, o, hp, fun i hi => hc i (by omega)⟩
  row := fun i hi => h.row i (by omega)
  le := fun i hi => h.le i (by omega)
theorem OwnMat.congrQ {B : Nat} {w : World} {g c n m : Nat} {G Q Q' : Nat → Nat} {X : Nat → Nat → K} (h : OwnMat B w g c n m G Q X) (e : ∀ i, i < n → Q i = Q' i) : OwnMat B w g c n m G Q' X where
  top := by
    have := h.top
    rwa [vals_congr (W := fun i => rv (G i) m (Q' i)) (fun i hi => by rw [e i hi])] at this
  row := fun i hi => by have := h.row i hi; rwa [e i hi] at this
  inj := h.inj
/-- Rows that are put behind others. -/
theorem ownMat_join {B B2 : Nat} {w w' : World} {g1 c1 n1 m g2 c2 n2 gg cap : Nat} {G1 Q1 G2 Q2 : Nat → Nat} {X1 X2 : Nat → Nat → K} (h1 : OwnMat B w g1 c1 n1 m G1 Q1 X1) (h2 : OwnMat B2 w g2 c2 n2 m G2 Q2 X2) (hB : B ≤ B2) (hlt : ∀ i, i < n1 → G1 i < B2)
    (hgrow : w.grownBy w' (Value.slice (some ⟨g1, 0, none⟩) n1 c1).ownBlock) (hown : w'.ownsRow B 22 1 (.slice (some ⟨gg, 0, none⟩) (n1 + n2) cap) (n1 + n2) ((vals n1 fun i => rv (G1 i) m (Q1 i)) ++ vals n2 fun i => rv (G2 i) m (Q2 i))) :
    OwnMat B w' gg cap (n1 + n2) m (two n1 G1 G2) (two n1 Q1 Q2) (two n1 X1 X2) where
  top := by
    rw [vals_append] at hown
    rwa [vals_congr (W := fun i => rv (two n1 G1 G2 i) m (two n1 Q1 Q2 i)) (fun i _ => by
      unfold two
      by_cases q : i < n1
      · rw [if_pos q, if_pos q, if_pos q]
      · rw [if_neg q, if_neg q, if_neg q])] at hown
  row := fun i hi => by
    have hk : ∀ B0 b cr mr ys, w.ownsRow B0 5 1 (.slice (some ⟨b, 0, none⟩) mr cr) mr ys → w'.ownsRow B0 5 1 (.slice (some ⟨b, 0, none⟩) mr cr) mr ys := fun B0 b cr mr ys hh =>
      own_keep hh (hgrow.block b (own_ge hh).2 (fun q => own_ne hh h1.top (by decide) rfl q.symm))
    unfold two
    by_cases q : i < n1
    · simp only [if_pos q]; exact hk _ _ _ _ _ (h1.row i q)
    · simp only [if_neg q]; exact own_base (hk _ _ _ _ _ (h2.row (i - n1) (by omega))) hB
  inj := fun i j hi hj q => by
    have hge : ∀ k, k < n2 → B2 ≤ G2 k := fun k hk => (h2.ge k hk).1
    unfold two at q
    by_cases q1 : i < n1
    · by_cases q2 : j < n1
      · rw [if_pos q1, if_pos q2] at q; exact h1.inj i j q1 q2 q
      · rw [if_pos q1, if_neg q2] at q; have := hlt i q1; have := hge (j - n1) (by omega); omega
    · by_cases q2 : j < n1
      · rw [if_neg q1, if_pos q2] at q; have := hlt j q2; have := hge (i - n1) (by omega); omega
      · rw [if_neg q1, if_neg q2] at q; have := h2.inj (i - n1) (j - n1) (by omega) (by omega) q; omega

set_option maxRecDepth 100000 in
set_option maxHeartbeats 1000000 in
theorem split_err (p : Option Addr) (n c : Nat) (k m : Int) (w : World) (hk : -9223372036854775808 ≤ k) (hk' : k ≤ 9223372036854775807) (hm : -9223372036854775808 ≤ m) (hm' : m ≤ 9223372036854775807) (h : k < 1 ∨ m < 1 ∨ 16 < k + m) :
    Calls Try.prog 10 #[.slice p n c, .int .i64 k, .int .i64 m] w fun e w' => e = .returned (.tuple #[.slice none 0 0, .int .i64 5]) ∧ w' = w := by
  go_enter Try.func10, Try.ntmps10
  go_wp2_with fail
  refine (code_err k m w hk hk' hm hm' h).mono ?_
  rintro e w' ⟨rfl, hw⟩
  have hw2 := hw.symm
  subst hw2
  clear hw h
  go_wp2
  go_ret2
  exact ⟨rfl, rfl⟩
set_option maxRecDepth 100000 in
set_option maxHeartbeats 1000000 in
theorem split_long (p : Option Addr) (n c k m : Nat) (w : World) (h0 : 1 ≤ k) (h1 : 1 ≤ m) (h : k + m ≤ 16) (hn : 65536 < n) :
    Calls Try.prog 10 #[.slice p n c, .int .i64 k, .int .i64 m] w fun e w' => e = .returned (.tuple #[.slice none 0 0, .int .i64 3]) ∧ Below w.heap.size w w' := by
  go_enter Try.func10, Try.ntmps10
  go_wp2_with fail
  refine (code_any k m w h0 h1 h).mono ?_
  rintro e w1 ⟨gC, cC, GC, QC, rfl, _, hb1⟩
  have B1 := hid hb1
  clear hb1
  go_wp2
  go_ret2
  exact ⟨rfl, B1.out⟩
theorem ash_two (k m l n : Nat) (x : Nat → K) : ∀ i, i < k + m → ∀ j, j < l → two k (dsh l n x) (pr k (fun i j => codeX k (k + i) j) (dsh l n x)) i j = ash k l n x i j := fun i _ j _ => by
  unfold two ash
  by_cases q : i < k
  · rw [if_pos q, pr_code k _ i j q]
  · rw [if_neg q]
    show pr k (codeX k) (dsh l n x) (k + (i - k)) j = _
    rw [show k + (i - k) = i by omega]

set_option maxRecDepth 100000 in
set_option maxHeartbeats 4000000 in
theorem split_ok (p : Option Addr) (n c k m : Nat) (x : Nat → K) (w : World) (h0 : 1 ≤ k) (h1 : 1 ≤ m) (h : k + m ≤ 16) (hn : n ≤ 65536) (hc : n ≤ c) (hx : StrAt w p n fun j => (x j).val) :
    Calls Try.prog 10 #[.slice p n c, .int .i64 k, .int .i64 m] w fun e w' => ∃ g cp G, e = .returned (.tuple #[.slice (some ⟨g, 0, none⟩) (k + m) cp, .int .i64 0]) ∧ OwnMat w.heap.size w' g cp (k + m) (lgt n k) G (fun _ => lgt n k) (ash k (lgt n k) n x) ∧ Below w.heap.size w w' := by
  obtain ⟨i0, hi0, hz0, hz1, hz2⟩ := info_parts Try.info22
  have HX := hid hx
  clear hx
  have hll := lgt_le n k hn h0
  go_enter Try.func10, Try.ntmps10
  go_wp2_with fail
  refine (code_any k m w h0 h1 h).mono ?_
  rintro e w1 ⟨gC, cC, GC, QC, rfl, hmC, hb1⟩
  have MC := hid hmC
  have B1 := hid hb1
  have X1 := hid (HX.out.keep (Stays.of_below hb1))
  have hcC := own_le hmC.top
  have hsz1 := hb1.size
  clear hb1 hmC HX
  go_wp2_with fail
  refine (length_ok n k w1 (by omega) h0 (by omega)).mono ?_
  rintro e w' ⟨rfl, hw⟩
  have hw2 := hw.symm
  subst hw2
  clear hw
  go_wp2_with fail
  refine (part_any p n c k (lgt n k) x w1 (by omega) hll hn hc X1.out).mono ?_
  rintro e w2 ⟨gS, GS, rfl, hmS, hb2⟩
  have MS := hid hmS
  have MC2 := hid ((MC.out.stay hb2).toMat)
  have B2 := hid (B1.out.then hb2)
  have hsl := run_lo24 gC 0 (k + m) cC k (by omega) (by omega)
  rw [Nat.zero_add, show k + m - k = m by omega] at hsl
  have HLT : Hid (∀ i, i < k → GS i < w2.heap.size) := fun i hi => (hmS.ge i hi).2
  have hgS := (own_ge hmS.top).2
  clear hmS hb2 B1 MC X1
  go_wp2_with fail
  refine (combine_any _ _ m k (lgt n k) (cC - k) k _ _ _ _ (fun i j => codeX k (k + i) j) (dsh (lgt n k) n x) w2 (by have := MC2.out.sub k m (by omega); rw [Nat.zero_add] at this; exact this) MS.out.toMat h1 (by omega) h0 (by omega) hll).mono ?_
  rintro e w3 ⟨gN, GN, rfl, hmN, hb3⟩
  have MN := hid hmN
  have MS3 := hid (MS.out.stay hb3)
  have B3 := hid (B2.out.then hb3)
  have hs12 := B2.out.size
  have hs23 := hb3.size
  clear hmN hb3 B2 MC2
  go_wp2_with (at_builtin; refine wpList_append_lies _ rfl _ _ 24 rfl w1.heap.size 22 i0 (.slice none 0 0) 1 24 Try.underlying24 hi0 hz0 hz1 hz2 rfl (by omega) (.slice (some ⟨gS, 0, none⟩) k k) k (vals k fun i => rv (GS i) (lgt n k) (lgt n k)) rfl MS3.out.top ⟨gN, 0, none⟩ m m (vals m fun i => rv (GN i) (lgt n k) (lgt n k)) rfl (by rw [vals_len]; omega) (MN.out.top.cells (g := gN) rfl) (by intro u hu; unfold vals at hu; obtain ⟨i, _, rfl⟩ := List.mem_map.1 hu; rfl) (by omega) (by unfold maxLen; omega) (by omega) (by have := (own_ge MS3.out.top); omega) _ rfl ?_; intro gg cap w4 hown4 hgrow hat hlt4)
  have HM := hid (((ownMat_join MS3.out MN.out (by have := own_ge MS.out.top; omega) HLT.out hgrow hown4).congr (ash_two k m (lgt n k) n x)).base (B' := w.heap.size) hsz1)
  have HB := hid (Below.grown B3.out hgrow (by omega) (fun b q => by
    have := (own_ge MS3.out.top).1
    have q2 : gS = b := by simpa [Value.ownBlock] using q
    omega))
  clear hown4 hgrow hat hlt4 MS MS3 MN B3 HLT
  go_wp2
  go_ret2
  exact ⟨gg, cap, rfl, ⟨_, HM.out.congrQ (fun i _ => by unfold two; split <;> rfl)⟩, HB.out⟩
end Go.Proofs.Ytapgdenodhcliaa
