/- Contract of Pick of package matrix: the rows that are picked lie in new memory, or the error's number is told; what was there is as it was. -/
import Derived.Test.YtapgdenodhcliaaMj
namespace Go.Proofs.Ytapgdenodhcliaa
open Go.RowKit

/-- n whole numbers, R, lie where the slice's value leads; one of no number may lead anywhere. -/
def IntsAt (w : World) (p : Option Addr) (n : Nat) (R : Nat → Int) : Prop := n = 0 ∨ ∃ b o, p = some ⟨b, o, none⟩ ∧ ∀ i, i < n → w.cell? ⟨b, o + i, none⟩ = some (.int .i64 (R i))
theorem IntsAt.keep {w w' : World} {p : Option Addr} {n : Nat} {R : Nat → Int} (h : IntsAt w p n R) (k : Stays w w') : IntsAt w' p n R := by
  rcases h with h | ⟨b, o, h, hc⟩
  · exact .inl h
  · exact .inr ⟨b, o, h, fun i hi => k _ _ (hc i hi)⟩
theorem IntsAt.pos {w : World} {p : Option Addr} {n : Nat} {R : Nat → Int} (h : IntsAt w p n R) (hn : 0 < n) : ∃ b o, p = some ⟨b, o, none⟩ ∧ ∀ i, i < n → w.cell? ⟨b, o + i, none⟩ = some (.int .i64 (R i)) := by
  rcases h with h | h
  · omega
  · exact h

def inR (n : Nat) (z : Int) : Prop := 0 ≤ z ∧ z < (n : Int)
instance (n : Nat) (z : Int) : Decidable (inR n z) := by unfold inR; exact inferInstance
def allIn (n k : Nat) (R : Nat → Int) : Bool := (List.range k).all fun i => decide (inR n (R i))
theorem allIn_true {n k : Nat} {R : Nat → Int} (h : ∀ i, i < k → inR n (R i)) : allIn n k R = true := by
  unfold allIn; rw [List.all_eq_true]; intro i hi; have := h i (by simpa using hi); simpa using this
theorem allIn_false {n k : Nat} {R : Nat → Int} (i : Nat) (hi : i < k) (h : ¬ inR n (R i)) : allIn n k R = false := by
  unfold allIn; rw [List.all_eq_false]; exact ⟨i, by simpa using hi, by simpa using h⟩
/-- Pick's error. -/
def errP (n : Nat) (L : Nat → Nat) (k : Nat) (R : Nat → Int) : Int := if errC n L ≠ 0 then errC n L else if 32 < k then 3 else if k = 0 then 2 else if allIn n k R = true then 0 else 5

set_option maxRecDepth 100000 in
set_option maxHeartbeats 1000000 in
theorem pick_bad (p q : Option Addr) (n c k d : Nat) (A : Nat → Option Addr) (L C : Nat → Nat) (R : Nat → Int) (w : World) (hn : n ≤ 100) (hk : k ≤ 100) (h : TopAt w p n A L C) (he : errC n L ≠ 0 ∨ 32 < k ∨ k = 0) :
    Calls Try.prog 60 #[.slice p n c, .slice q k d] w fun e w' => e = .returned (.tuple #[.slice none 0 0, .int .i64 (errP n L k R)]) ∧ w' = w := by
  by_cases h1 : errC n L = 0
  · by_cases h2 : 32 < k
    · have HE : Hid (errP n L k R = 3) := by unfold errP; rw [h1]; simp [h2]; trivial
      clear he
      go_enter Try.func60, Try.ntmps60
      go_wp2_with fail
      refine (check_any _ _ _ _ _ _ _ hn h).mono ?_
      rintro e w' ⟨rfl, hw⟩
      have hw2 := hw.symm
      subst hw2
      clear hw
      rw [h1]
      clear h1
      go_wp2
      go_ret2
      exact ⟨ret_se rfl HE.out.symm, rfl⟩
    · have h3 : k = 0 := by rcases he with q | q | q <;> omega
      subst h3
      have HE : Hid (errP n L 0 R = 2) := by unfold errP; rw [h1]; simp; trivial
      clear he
      go_enter Try.func60, Try.ntmps60
      go_wp2_with fail
      refine (check_any _ _ _ _ _ _ _ hn h).mono ?_
      rintro e w' ⟨rfl, hw⟩
      have hw2 := hw.symm
      subst hw2
      clear hw
      rw [h1]
      clear h1
      go_wp2
      go_ret2
      exact ⟨ret_se rfl HE.out.symm, rfl⟩
  · have HE : Hid (errP n L k R = errC n L) := by unfold errP; rw [if_pos h1]; trivial
    have h1' : (errC n L != 0) = true := by simpa using h1
    clear he h1
    go_enter Try.func60, Try.ntmps60
    go_wp2_with fail
    refine (check_any _ _ _ _ _ _ _ hn h).mono ?_
    rintro e w' ⟨rfl, hw⟩
    have hw2 := hw.symm
    subst hw2
    clear hw
    go_wp2
    go_ret2
    exact ⟨ret_se rfl HE.out.symm, rfl⟩

set_option maxRecDepth 100000 in
set_option maxHeartbeats 4000000 in
theorem pick_rows (p q : Option Addr) (n m c k d : Nat) (A : Nat → Option Addr) (C : Nat → Nat) (X : Nat → Nat → K) (R : Nat → Int) (w : World) (h0 : 1 ≤ n) (hn : n ≤ 32) (h1 : 1 ≤ m) (hm : m ≤ 32) (hk0 : 1 ≤ k) (hk : k ≤ 32)
    (h : MatAt w p n A (fun _ => m) C X) (hR : IntsAt w q k R) :
    Calls Try.prog 60 #[.slice p n c, .slice q k d] w fun e w' => Below w.heap.size w w' ∧ ((allIn n k R = false ∧ e = .returned (.tuple #[.slice none 0 0, .int .i64 5])) ∨
      ((∀ i, i < k → inR n (R i)) ∧ ∃ g G Q, e = .returned (.tuple #[.slice (some ⟨g, 0, none⟩) k k, .int .i64 0]) ∧ OwnMat w.heap.size w' g k k m G Q (fun i j => X (R i).toNat j))) := by
  have T := hid h.top
  have HE : Hid (errC n (fun _ => m) = 0) := errC_ok h0 hn h1 hm (fun _ _ => rfl)
  obtain ⟨b, o, rfl, bs, os, hc, hr⟩ := h.at (by omega) (by omega)
  obtain ⟨b2, o2, rfl, hc2⟩ := hR.pos (by omega)
  have HC := hid hc
  have HR := hid hr
  have HI := hid hc2
  have hmk := run_make_top k (by omega) w
  have H0 := hid (own_made w 22 (.slice none 0 0) k w.heap.size (by omega) (Nat.le_refl _))
  have hk1 : ((k : Int) == 0) = false := by simp; omega
  clear hc hr hc2 h hR
  go_enter Try.func60, Try.ntmps60
  go_wp2_with fail
  refine (check_any _ _ _ _ _ _ _ (by omega) T.out).mono ?_
  rintro e w' ⟨rfl, hw⟩
  have hw2 := hw.symm
  subst hw2
  clear hw T
  rw [HE.out]
  clear HE
  go_wp2_with fail
  clear hmk
  go_loopw [26] (fun x wr => ∃ i : Nat, ∃ G Q : Nat → Nat, i ≤ k ∧ x = .int .i64 i ∧ Half w.heap.size wr w.heap.size k k m i G Q (fun i j => X (R i).toNat j) (fun _ => .slice none 0 0) ∧ Below w.heap.size w wr ∧ ∀ r, r < i → inR n (R r)) (fun x _ => (k - intOf x).toNat)
  case atStart => exact ⟨0, fun _ => 0, fun _ => 0, by omega, rfl, ⟨by simpa using H0.out, fun i hi => absurd hi (by omega), fun i j hi => absurd hi (by omega)⟩, (Below.refl _ _).alloc (Nat.le_refl _) _, fun r hr => absurd hr (by omega)⟩
  case round =>
    clear H0
    obtain ⟨i, G, Q, hi, rfl, hh, hb, hin⟩ := hrel
    by_cases hlt : i < k
    · have c1 := Stays.of_below hb _ _ (HI.out i hlt)
      by_cases hz : R i < 0
      · have HF := hid (allIn_false (n := n) (R := R) i hlt (fun q => by unfold inR at q; omega))
        have HB := hid hb
        clear hh hb hin HC HR HI
        go_wp2
        go_ret2
        exact ⟨HB.out, .inl ⟨HF.out, rfl⟩⟩
      · by_cases hz2 : (n : Int) ≤ R i
        · have HF := hid (allIn_false (n := n) (R := R) i hlt (fun q => by unfold inR at q; omega))
          have HB := hid hb
          clear hh hb hin HC HR HI
          go_wp2
          go_ret2
          exact ⟨HB.out, .inl ⟨HF.out, rfl⟩⟩
        · obtain ⟨r, hr⟩ : ∃ r : Nat, R i = r := ⟨(R i).toNat, by omega⟩
          have hrn : r < n := by omega
          have HI2 : Hid (∀ r, r < i + 1 → inR n (R r)) := fun r' hr' => by
            by_cases e : r' = i
            · rw [e]; unfold inR; omega
            · exact hin r' (by omega)
          have hX : (fun j => X (R i).toNat j) = X r := by rw [hr]; rfl
          rw [hr] at c1
          have c2 := Stays.of_below hb _ _ (HC.out r hrn)
          have r1 := (HR.out r hrn).keep (Stays.of_below hb)
          have hgl := (own_ge hh.top).2
          have c3 : wr.cell? ⟨w.heap.size, i, none⟩ = some (.slice none 0 0) := by rw [own_cell hh.top i hlt]; simp
          have c4 := hh.top.frozenAt i
          have HH := hid hh
          have HB := hid hb
          have HX := hid hX
          clear hh hb hin HC HR HI hr hX hz hz2
          go_wp2_with fail
          refine (cloneRow_any (bs r) (os r) m (C r) (X r) wr (by omega) (by omega) r1).mono ?_
          rintro e w2 ⟨g1, cp1, rfl, hg1, hown1, hb1⟩
          have d1 := (hb1.cell (p := ⟨w.heap.size, i, none⟩) hgl).trans c3
          have d2 := (hb1.frozen (p := ⟨w.heap.size, i, none⟩) hgl).trans c4
          have hsz := HB.out.size
          have HP := hid (HH.out.push hb1.block g1 cp1 hg1 (by have := own_base hown1 hsz; rw [← HX.out] at this; exact this))
          have HB2 := hid ((HB.out.trans (hb1.mono hsz)).setCell (p := ⟨w.heap.size, i, none⟩) (Nat.le_refl _) (rv g1 m cp1))
          clear hown1 hb1 HH HB r1 c1 c2 c3 c4
          go_wp2
          go_roundw
          case rel => exact ⟨i + 1, upd G i g1, upd Q i cp1, by omega, by go_num, HP.out, HB2.out, HI2.out⟩
          case measure => simp [intOf]; omega
    · have e : i = k := by omega
      subst e
      have HO := hid hh.done
      have HB := hid hb
      have HN := hid hin
      clear hh hb HR HC HI hin
      go_wp2
      go_ret2
      exact ⟨HB.out, .inr ⟨HN.out, _, G, Q, rfl, HO.out⟩⟩
end Go.Proofs.Ytapgdenodhcliaa
