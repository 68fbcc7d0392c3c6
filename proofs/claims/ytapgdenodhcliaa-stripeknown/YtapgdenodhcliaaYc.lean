/- Texts laid into one: the remark ahead of each part says what is proved there. -/
import Derived.Test.YtapgdenodhcliaaYb
import Derived.Deep.QuietTactic
import Derived.BigQuiet
import Derived.Deep.Draws
import Derived.Deep.Matrix
import Derived.ProofKit
import Derived.OpenShut
/- Contract of Pick of package matrix: the rows that are picked lie in new memory, or the error's number is told; what was there is as it was. -/
namespace Go.Proofs.Ytapgdenodhcliaa
open Go.RowKit

/-- n whole numbers, R, lie where the slice's value leads; one of no number may lead anywhere. -/
def IntsAt (w : World) (p : Option Addr) (n : Nat) (R : Nat → Int) : Prop := n = 0 ∨ ∃ b o, p = some ⟨b, o, none⟩ ∧ ∀ i, i < n → w.cell? ⟨b, o + i, none⟩ = some (.int .i64 (R i))
theorem IntsAt.keep {w w' : World} {p : Option Addr} {n : Nat} {R : Nat → Int} (h : IntsAt w p n R) (k : Stays w w') : IntsAt w' p n R := by
  rcases h with h | ⟨b, o, h, hc⟩
  · exact .inl h
  · exact .inr ⟨b, o, h, fun i hi => k _ _ (hc i hi)⟩
theorem IntsAt.pos {w : World} {p : Option Addr} {n : Nat} {R : Nat → Int} (h : IntsAt w p n R) (hn : 0 < n) : ∃ b o, p = some ⟨b, o, none⟩ ∧ ∀ i, i < n → w.cell? ⟨b, o + i, none⟩ = some (.int .i64 (R i)) := by
  rcases h with h | h
  · omega
  · exact h

def inR (n : Nat) (z : Int) : Prop := 0 ≤ z ∧ z < (n : Int)
instance (n : Nat) (z : Int) : Decidable (inR n z) := by unfold inR; exact inferInstance
def allIn (n k : Nat) (R : Nat → Int) : Bool := (List.range k).all fun i => decide (inR n (R i))
theorem allIn_true {n k : Nat} {R : Nat → Int} (h : ∀ i, i < k → inR n (R i)) : allIn n k R = true := by
  unfold allIn; rw [List.all_eq_true]; intro i hi; have := h i (by simpa using hi); simpa using this
theorem allIn_false {n k : Nat} {R : Nat → Int} (i : Nat) (hi : i < k) (h : ¬ inR n (R i)) : allIn n k R = false := by
  unfold allIn; rw [List.all_eq_false]; exact ⟨i, by simpa using hi, by simpa using h⟩
/-- Pick's error. -/
def errP (n : Nat) (L : Nat → Nat) (k : Nat) (R : Nat → Int) : Int := if errC n L ≠ 0 then errC n L else if 32 < k then 3 else if k = 0 then 2 else if allIn n k R = true then 0 else 5

set_option maxRecDepth 100000 in
set_option maxHeartbeats 1000000 in
theorem pick_bad (p q : Option Addr) (n c k d : Nat) (A : Nat → Option Addr) (L C : Nat → Nat) (R : Nat → Int) (w : World) (hn : n ≤ 100) (hk : k ≤ 100) (h : TopAt w p n A L C) (he : errC n L ≠ 0 ∨ 32 < k ∨ k = 0) :
    Calls Try.prog 60 #[.slice p n c, .slice q k d] w fun e w' => e = .returned (.tuple #[.slice none 0 0, .int .i64 (errP n L k R)]) ∧ w' = w := by
  by_cases h1 : errC n L = 0
  · by_cases h2 : 32 < k
    · have HE : Hid (errP n L k R = 3) := by unfold errP; rw [h1]; simp [h2]; trivial
      clear he
      go_enter Try.func60, Try.ntmps60
      go_wp2_with fail
      refine (check_any _ _ _ _ _ _ _ hn h).mono ?_
      rintro e w' ⟨rfl, hw⟩
      have hw2 := hw.symm
      subst hw2
      clear hw
      rw [h1]
      clear h1
      go_wp2
      go_ret2
      exact ⟨ret_se rfl HE.out.symm, rfl⟩
    · have h3 : k = 0 := by rcases he with q | q | q <;> omega
      subst h3
      have HE : Hid (errP n L 0 R = 2) := by unfold errP; rw [h1]; simp; trivial
      clear he
      go_enter Try.func60, Try.ntmps60
      go_wp2_with fail
      refine (check_any _ _ _ _ _ _ _ hn h).mono ?_
      rintro e w' ⟨rfl, hw⟩
      have hw2 := hw.symm
      subst hw2
      clear hw
      rw [h1]
      clear h1
      go_wp2
      go_ret2
      exact ⟨ret_se rfl HE.out.symm, rfl⟩
  · have HE : Hid (errP n L k R = errC n L) := by unfold errP; rw [if_pos h1]; trivial
    have h1' : (errC n L != 0) = true := by simpa using h1
    clear he h1
    go_enter Try.func60, Try.ntmps60
    go_wp2_with fail
    refine (check_any _ _ _ _ _ _ _ hn h).mono ?_
    rintro e w' ⟨rfl, hw⟩
    have hw2 := hw.symm
    subst hw2
    clear hw
    go_wp2
    go_ret2
    exact ⟨ret_se rfl HE.out.symm, rfl⟩

set_option maxRecDepth 100000 in
set_option maxHeartbeats 4000000 in
theorem pick_rows (p q : Option Addr) (n m c k d : Nat) (A : Nat → Option Addr) (C : Nat → Nat) (X : Nat → Nat → K) (R : Nat → Int) (w : World) (h0 : 1 ≤ n) (hn : n ≤ 32) (h1 : 1 ≤ m) (hm : m ≤ 32) (hk0 : 1 ≤ k) (hk : k ≤ 32)
    (h : MatAt w p n A (fun _ => m) C X) (hR : IntsAt w q k R) :
    Calls Try.prog 60 #[.slice p n c, .slice q k d] w fun e w' => Below w.heap.size w w' ∧ ((allIn n k R = false ∧ e = .returned (.tuple #[.slice none 0 0, .int .i64 5])) ∨
      ((∀ i, i < k → inR n (R i)) ∧ ∃ g G Q, e = .returned (.tuple #[.slice (some ⟨g, 0, none⟩) k k, .int .i64 0]) ∧ OwnMat w.heap.size w' g k k m G Q (fun i j => X (R i).toNat j))) := by
  have T := hid h.top
  have HE : Hid (errC n (fun _ => m) = 0) := errC_ok h0 hn h1 hm (fun _ _ => rfl)
  obtain ⟨b, o, rfl, bs, os, hc, hr⟩ := h.at (by omega) (by omega)
  obtain ⟨b2, o2, rfl, hc2⟩ := hR.pos (by omega)
  have HC := hid hc
  have HR := hid hr
  have HI := hid hc2
  have hmk := run_make_top k (by omega) w
  have H0 := hid (own_made w 22 (.slice none 0 0) k w.heap.size (by omega) (Nat.le_refl _))
  have hk1 : ((k : Int) == 0) = false := by simp; omega
  clear hc hr hc2 h hR
  go_enter Try.func60, Try.ntmps60
  go_wp2_with fail
  refine (check_any _ _ _ _ _ _ _ (by omega) T.out).mono ?_
  rintro e w' ⟨rfl, hw⟩
  have hw2 := hw.symm
  subst hw2
  clear hw T
  rw [HE.out]
  clear HE
  go_wp2_with fail
  clear hmk
  go_loopw [26] (fun x wr => ∃ i : Nat, ∃ G Q : Nat → Nat, i ≤ k ∧ x = .int .i64 i ∧ Half w.heap.size wr w.heap.size k k m i G Q (fun i j => X (R i).toNat j) (fun _ => .slice none 0 0) ∧ Below w.heap.size w wr ∧ ∀ r, r < i → inR n (R r)) (fun x _ => (k - intOf x).toNat)
  case atStart => exact ⟨0, fun _ => 0, fun _ => 0, by omega, rfl, ⟨by simpa using H0.out, fun i hi => absurd hi (by omega), fun i j hi => absurd hi (by omega)⟩, (Below.refl _ _).alloc (Nat.le_refl _) _, fun r hr => absurd hr (by omega)⟩
  case round =>
    clear H0
    obtain ⟨i, G, Q, hi, rfl, hh, hb, hin⟩ := hrel
    by_cases hlt : i < k
    · have c1 := Stays.of_below hb _ _ (HI.out i hlt)
      by_cases hz : R i < 0
      · have HF := hid (allIn_false (n := n) (R := R) i hlt (fun q => by unfold inR at q; omega))
        have HB := hid hb
        clear hh hb hin HC HR HI
        go_wp2
        go_ret2
        exact ⟨HB.out, .inl ⟨HF.out, rfl⟩⟩
      · by_cases hz2 : (n : Int) ≤ R i
        · have HF := hid (allIn_false (n := n) (R := R) i hlt (fun q => by unfold inR at q; omega))
          have HB := hid hb
          clear hh hb hin HC HR HI
          go_wp2
          go_ret2
          exact ⟨HB.out, .inl ⟨HF.out, rfl⟩⟩
        · obtain ⟨r, hr⟩ : ∃ r : Nat, R i = r := ⟨(R i).toNat, by omega⟩
          have hrn : r < n := by omega
          have HI2 : Hid (∀ r, r < i + 1 → inR n (R r)) := fun r' hr' => by
            by_cases e : r' = i
            · rw [e]; unfold inR; omega
            · exact hin r' (by omega)
          have hX : (fun j => X (R i).toNat j) = X r := by rw [hr]; rfl
          rw [hr] at c1
          have c2 := Stays.of_below hb _ _ (HC.out r hrn)
          have r1 := (HR.out r hrn).keep (Stays.of_below hb)
          have hgl := (own_ge hh.top).2
          have c3 : wr.cell? ⟨w.heap.size, i, none⟩ = some (.slice none 0 0) := by rw [own_cell hh.top i hlt]; simp
          have c4 := hh.top.frozenAt i
          have HH := hid hh
          have HB := hid hb
          have HX := hid hX
          clear hh hb hin HC HR HI hr hX hz hz2
          go_wp2_with fail
          refine (cloneRow_any (bs r) (os r) m (C r) (X r) wr (by omega) (by omega) r1).mono ?_
          rintro e w2 ⟨g1, cp1, rfl, hg1, hown1, hb1⟩
          have d1 := (hb1.cell (p := ⟨w.heap.size, i, none⟩) hgl).trans c3
          have d2 := (hb1.frozen (p := ⟨w.heap.size, i, none⟩) hgl).trans c4
          have hsz := HB.out.size
          have HP := hid (HH.out.push hb1.block g1 cp1 hg1 (by have := own_base hown1 hsz; rw [← HX.out] at this; exact this))
          have HB2 := hid ((HB.out.trans (hb1.mono hsz)).setCell (p := ⟨w.heap.size, i, none⟩) (Nat.le_refl _) (rv g1 m cp1))
          clear hown1 hb1 HH HB r1 c1 c2 c3 c4
          go_wp2
          go_roundw
          case rel => exact ⟨i + 1, upd G i g1, upd Q i cp1, by omega, by go_num, HP.out, HB2.out, HI2.out⟩
          case measure => simp [intOf]; omega
    · have e : i = k := by omega
      subst e
      have HO := hid hh.done
      have HB := hid hb
      have HN := hid hin
      clear hh hb HR HC HI hin
      go_wp2
      go_ret2
      exact ⟨HB.out, .inr ⟨HN.out, _, G, Q, rfl, HO.out⟩⟩
end Go.Proofs.Ytapgdenodhcliaa

/- Contracts of parity and Code of package matrix: the code of k and m lies in new memory, or the error's number is told; what was there is as it was. -/
namespace Go.Proofs.Ytapgdenodhcliaa
open Go.RowKit

/-- The code of k, row by row. -/
def codeX (k : Nat) (r c : Nat) : K := if r < k then on r c else K.iv (kb r + kb c)

theorem conv_u8 (a : Nat) (h : a < 256) : ((a : Nat) : Int) = (((kb a).val : Nat) : Int) := by rw [kb_val a h]

set_option maxRecDepth 100000 in
set_option maxHeartbeats 1000000 in
theorem parity_any (k i : Nat) (w : World) (h0 : 1 ≤ k) (h : k + i ≤ 32) :
    Calls Try.prog 54 #[.int .i64 k, .int .i64 i] w fun e w' => e = .returned (.slice (some ⟨w.heap.size, 0, none⟩) k k) ∧ w'.ownsRow w.heap.size 5 1 (.slice (some ⟨w.heap.size, 0, none⟩) k k) k (vals k fun j => kv (codeX k (k + i) j)) ∧ Below w.heap.size w w' := by
  have hmk := run_make_u8 k (by omega) w
  have H0 := hid (own_made w 5 (.int .u8 0) k w.heap.size (by omega) (Nat.le_refl _))
  go_enter Try.func54, Try.ntmps54
  go_wp2
  clear hmk
  go_loopw [11] (fun x wr => ∃ j : Nat, j ≤ k ∧ x = .int .i64 j ∧ wr.ownsRow w.heap.size 5 1 (.slice (some ⟨w.heap.size, 0, none⟩) k k) k (vals k fun c => if c < j then kv (codeX k (k + i) c) else .int .u8 0) ∧ Below w.heap.size w wr) (fun x _ => (k - intOf x).toNat)
  case atStart => exact ⟨0, by omega, rfl, by simpa using H0.out, (Below.refl _ _).alloc (Nat.le_refl _) _⟩
  case round =>
    clear H0
    obtain ⟨j, hj, rfl, ho, hb⟩ := hrel
    by_cases hlt : j < k
    · have c1 : wr.cell? ⟨w.heap.size, j, none⟩ = some (.int .u8 0) := by rw [own_cell ho j hlt]; simp
      have c2 := ho.frozenAt j
      have hx : k + i ^^^ j < 256 := Gf.xor_lt _ _ (by omega) (by omega)
      have HV : Hid (invV (k + i ^^^ j) = (((codeX k (k + i) j).val : Nat) : Int)) := by
        unfold codeX; rw [if_neg (by omega)]
        have := invV_k (kb (k + i) + kb j)
        rw [K.val_add, kb_val _ (by omega), kb_val _ (by omega)] at this
        exact this
      have HO : Hid ((wr.setCell ⟨w.heap.size, j, none⟩ (kv (codeX k (k + i) j))).ownsRow w.heap.size 5 1 (.slice (some ⟨w.heap.size, 0, none⟩) k k) k (vals k fun c => if c < j + 1 then kv (codeX k (k + i) c) else .int .u8 0)) := by
        have := (ho.stored j (kv (codeX k (k + i) j))).1
        rw [vals_set] at this
        rwa [vals_congr (W := fun c => if c < j + 1 then kv (codeX k (k + i) c) else .int .u8 0) (fun c _ => by
          unfold upd
          by_cases e : c = j
          · subst e; simp
          · by_cases q : c < j
            · simp [e, q, show c < j + 1 by omega]
            · simp [e, q, show ¬ c < j + 1 by omega])] at this
      have HB := hid (hb.setCell (p := ⟨w.heap.size, j, none⟩) (Nat.le_refl _) (kv (codeX k (k + i) j)))
      clear ho hb
      go_wp2_with (first | (go_at_call 67; refine (add_any _ _ _ (by omega) (by omega) (by omega) (by omega)).mono ?_; rintro e w' ⟨rfl, rfl⟩; rw [show ((k : Int) + (i : Int)).toNat = k + i by omega, show ((j : Int)).toNat = j by omega]) | (go_at_call 66; refine (inv_any _ _ (by omega) (by omega)).mono ?_; rintro e w' ⟨rfl, rfl⟩))
      go_roundw
      case rel => exact ⟨j + 1, by omega, by go_num, by rw [HV.out]; exact HO.out, by rw [HV.out]; exact HB.out⟩
      case measure => simp [intOf]; omega
    · have e : j = k := by omega
      subst e
      have HO : Hid (wr.ownsRow w.heap.size 5 1 (.slice (some ⟨w.heap.size, 0, none⟩) j j) j (vals j fun c => kv (codeX j (j + i) c))) := by
        rwa [vals_congr (W := fun c => kv (codeX j (j + i) c)) (fun c hc => by simp [hc])] at ho
      have HB := hid hb
      clear ho hb
      go_wp2
      go_ret
      exact ⟨rfl, HO.out, HB.out⟩

/-- A row more, by append. -/
theorem OwnMat.push {B : Nat} {w w1 w4 : World} {g c n m gg cap : Nat} {G Q : Nat → Nat} {X : Nat → Nat → K} {o : Obj} (h : OwnMat B w g c n m G Q X) (hb : Below w.heap.size w w1) (g1 c1 : Nat) (hg1 : w.heap.size ≤ g1)
    (hr : w1.ownsRow B 5 1 (.slice (some ⟨g1, 0, none⟩) m c1) m (vals m fun j => kv (X n j))) (hgrow : (w1.alloc o).grownBy w4 (some g)) (hown : w4.ownsRow B 22 1 (.slice (some ⟨gg, 0, none⟩) (n + 1) cap) (n + 1) (vals n (fun i => rv (G i) m (Q i)) ++ [rv g1 m c1])) :
    OwnMat B w4 gg cap (n + 1) m (upd G n g1) (upd Q n c1) X where
  top := by
    have e : vals n (fun i => rv (G i) m (Q i)) ++ [rv g1 m c1] = vals (n + 1) fun i => rv (upd G n g1 i) m (upd Q n c1 i) := by
      rw [vals_succ]
      congr 1
      · refine vals_congr (fun i hi => ?_)
        unfold upd; rw [if_neg (by omega), if_neg (by omega)]
      · unfold upd; rw [if_pos rfl, if_pos rfl]
    rw [e] at hown; exact hown
  row := fun i hi => by
    have hk : ∀ b cr mr ys, w1.ownsRow B 5 1 (.slice (some ⟨b, 0, none⟩) mr cr) mr ys → w4.ownsRow B 5 1 (.slice (some ⟨b, 0, none⟩) mr cr) mr ys := fun b cr mr ys hh => by
      have ht := own_keep h.top (hb.block g (own_ge h.top).2)
      have hne : g ≠ b := own_apart ht hh (by decide)
      have h2 := hh.alloc o
      exact own_keep h2 (hgrow.block b (own_ge h2).2 (fun q => hne (by cases q; rfl)))
    by_cases e : i = n
    · subst e
      simp only [upd, if_true]
      exact hk _ _ _ _ hr
    · simp only [upd, if_neg e]
      exact hk _ _ _ _ (own_keep (h.row i (by omega)) (hb.block _ (h.ge i (by omega)).2))
  inj := fun i j hi hj q => by
    unfold upd at q
    by_cases e1 : i = n
    · by_cases e2 : j = n
      · omega
      · rw [if_pos e1, if_neg e2] at q; have := (h.ge j (by omega)).2; omega
    · by_cases e2 : j = n
      · rw [if_neg e1, if_pos e2] at q; have := (h.ge i (by omega)).2; omega
      · rw [if_neg e1, if_neg e2] at q; exact h.inj i j (by omega) (by omega) q

set_option maxHeartbeats 400000 in
theorem code_err (k m : Int) (w : World) (hk : -9223372036854775808 ≤ k) (hk' : k ≤ 9223372036854775807) (hm : -9223372036854775808 ≤ m) (hm' : m ≤ 9223372036854775807) (h : k < 1 ∨ m < 1 ∨ 16 < k + m) :
    Calls Try.prog 34 #[.int .i64 k, .int .i64 m] w fun e w' => e = .returned (.tuple #[.slice none 0 0, .int .i64 5]) ∧ w' = w := by
  by_cases h1 : k < 1
  · go_enter Try.func34, Try.ntmps34
    go_wp2
    go_ret2
    exact ⟨rfl, rfl⟩
  · by_cases h2 : m < 1
    · go_enter Try.func34, Try.ntmps34
      go_wp2
      go_ret2
      exact ⟨rfl, rfl⟩
    · have h3 : 16 - m < k := by omega
      go_enter Try.func34, Try.ntmps34
      go_wp2
      go_ret2
      exact ⟨rfl, rfl⟩

set_option maxRecDepth 100000 in
set_option maxHeartbeats 4000000 in
theorem code_any (k m : Nat) (w : World) (h0 : 1 ≤ k) (h1 : 1 ≤ m) (h : k + m ≤ 16) :
    Calls Try.prog 34 #[.int .i64 k, .int .i64 m] w fun e w' => ∃ g c G Q, e = .returned (.tuple #[.slice (some ⟨g, 0, none⟩) (k + m) c, .int .i64 0]) ∧ OwnMat w.heap.size w' g c (k + m) k G Q (codeX k) ∧ Below w.heap.size w w' := by
  obtain ⟨i0, hi0, hz0, hz1, hz2⟩ := info_parts Try.info22
  go_enter Try.func34, Try.ntmps34
  go_wp2_with fail
  refine (one_any k w h0 (by omega)).mono ?_
  rintro e w1 ⟨g, G, rfl, hm, hb⟩
  have HM := hid (hm.congr (Y := codeX k) (fun i hi j _ => by unfold codeX; rw [if_pos hi]))
  have HB := hid hb
  clear hm hb
  go_wp2_with fail
  go_loopw [6, 27] (fun v x wr => ∃ i g c : Nat, ∃ G Q : Nat → Nat, i ≤ m ∧ x = .int .i64 i ∧ v = .slice (some ⟨g, 0, none⟩) (k + i) c ∧ OwnMat w.heap.size wr g c (k + i) k G Q (codeX k) ∧ Below w.heap.size w wr) (fun _ x _ => (m - intOf x).toNat)
  case atStart => exact ⟨0, g, k, G, _, by omega, rfl, rfl, HM.out, HB.out⟩
  case round =>
    clear HM HB
    obtain ⟨i, g, c, G, Q, hi, rfl, rfl, hm, hb⟩ := hrel
    by_cases hlt : i < m
    · have HM := hid hm
      have HB := hid hb
      clear hm hb
      go_wp2_with fail
      refine (parity_any k i wr h0 (by omega)).mono ?_
      rintro e w2 ⟨rfl, hr2, hb2⟩
      have hsz := HB.out.size
      have hg := (own_ge HM.out.top).2
      have hsz2 := hb2.size
      have HR2 := hid (own_base hr2 hsz)
      have HB2 := hid hb2
      have HT := hid (own_keep HM.out.top (hb2.block g hg))
      have HN : Hid (∀ q u, [rv wr.heap.size k k][q]? = some u → (w2.alloc (.cells #[rv wr.heap.size k k] 22)).cell? ((⟨w2.heap.size, 0, none⟩ : Addr).add q) = some u) :=
        World.news_of_block (cs := #[rv wr.heap.size k k]) (t := 22) (fr := (0, 0)) (heap_alloc_new _ _)
      clear hr2 hb2
      go_wp2_with (at_builtin; refine wpList_append_lies _ rfl _ _ 24 rfl w.heap.size 22 i0 (.slice none 0 0) 1 24 Try.underlying24 hi0 hz0 hz1 hz2 rfl (by omega) (.slice (some ⟨g, 0, none⟩) (k + i) c) (k + i) (vals (k + i) fun i => rv (G i) k (Q i)) rfl (HT.out.alloc _) ⟨w2.heap.size, 0, none⟩ 1 1 [rv wr.heap.size k k] rfl rfl HN.out (by intro u hu; simp at hu; subst hu; rfl) (by omega) (by unfold maxLen; omega) (by omega) (by simp; omega) _ rfl ?_; intro gg cap w4 hown4 hgrow hat hlt4)
      have HX := hid (HM.out.push HB2.out wr.heap.size k (Nat.le_refl _) HR2.out hgrow hown4)
      have HBX : Hid (Below w.heap.size w w4) := Below.grown ((HB.out.trans (HB2.out.mono hsz)).alloc (by omega) _) hgrow (by simp; omega) (fun b hb => by
        have := (own_ge HM.out.top).1
        cases hb; exact this)
      clear hown4 hgrow hat hlt4 HN HT HM HB HB2 HR2
      go_wp2
      go_roundw
      case rel => exact ⟨i + 1, gg, cap, _, _, by omega, by go_num, rfl, HX.out, HBX.out⟩
      case measure => simp [intOf]; omega
    · have e : i = m := by omega
      subst e
      have HM := hid hm
      have HB := hid hb
      clear hm hb
      go_wp2
      go_ret2
      exact ⟨g, c, G, Q, rfl, HM.out, HB.out⟩
end Go.Proofs.Ytapgdenodhcliaa

/- Contracts of SameLists and makes of the statements' kit: of two matrices that read alike they return true; and of the examples that awake asks: all are answered as the chapter says. What was there is as it was. -/
namespace Go.Proofs.Ytapgdenodhcliaa
open Go.RowKit

theorem below_drewN {B n : Nat} {w w' : World} (h : Below B w w') : Below B w (w'.drewN n) := ⟨h.os, h.tape, h.output, h.size, h.block⟩

set_option maxRecDepth 100000 in
set_option maxHeartbeats 1000000 in
theorem sameLists_true (p q : Option Addr) (n c d : Nat) (A A' : Nat → Option Addr) (L C C' : Nat → Nat) (X Y : Nat → Nat → K) (w : World) (hn : n ≤ 100) (h : MatAt w p n A L C X) (h' : MatAt w q n A' L C' Y) (hXY : ∀ i, i < n → ∀ j, j < L i → X i j = Y i j) :
    Calls Try.prog 14 #[.slice p n c, .slice q n d] w fun e w' => e = .returned (.bool true) ∧ Below w.heap.size w w' := by
  have H := hid h
  have H' := hid h'
  have HX := hid hXY
  clear h h' hXY
  go_enter Try.func14, Try.ntmps14
  go_wp2_with fail
  go_loopw [5] (fun i wr => ∃ k : Nat, k ≤ n ∧ i = .int .i64 k ∧ Below w.heap.size w wr) (fun i _ => (n - intOf i).toNat)
  case atStart => exact ⟨0, by omega, rfl, Below.refl _ _⟩
  case round =>
    obtain ⟨k, hk, rfl, hb⟩ := hrel
    have HB := hid hb
    by_cases hlt : k < n
    · have s1 : StrAt wr (A k) (L k) (fun j => (X k j).val) := (H.out.row k hlt).keep (Stays.of_below hb)
      have s2 : StrAt wr (A' k) (L k) (fun j => (X k j).val) := by
        have := (H'.out.row k hlt).keep (Stays.of_below hb)
        rcases this with q | ⟨b, o, q1, q2⟩
        · exact .inl q
        · exact .inr ⟨b, o, q1, fun j hj => by rw [q2 j hj]; show some (Value.int .u8 (((Y k j).val : Nat) : Int)) = some (Value.int .u8 (((X k j).val : Nat) : Int)); rw [HX.out k hlt j hj]⟩
      obtain ⟨b, o, rfl, hc⟩ := H.out.top.pos (by omega)
      obtain ⟨b', o', rfl, hc'⟩ := H'.out.top.pos (by omega)
      have c1 := Stays.of_below hb _ _ (hc k hlt)
      have c2 := Stays.of_below hb _ _ (hc' k hlt)
      have hlt' : (k : Int) < (n : Int) := by omega
      have S1 := hid s1
      have S2 := hid s2
      clear H H' HX hc hc' hb s1 s2
      go_wp2_with fail
      go_quiet ((go_at_call 27; refine Calls.quiet_of_same (same_true _ _ (L k) _ _ (fun j => (X k j).val) _ (by exact S1.out) (by exact S2.out))))
      go_wp2
      go_roundw
      case rel => exact ⟨k + 1, by omega, by go_num, below_drewN HB.out⟩
      case measure => simp [intOf]; omega
    · clear H H' HX hb
      go_wp2
      go_ret
      exact ⟨rfl, HB.out⟩

/-- Matrices that stand in the text. -/
def li2 (a b c d : Nat) (i j : Nat) : K := kb (if i = 0 then (if j = 0 then a else b) else (if j = 0 then c else d))
def li3 (a b c d e f : Nat) (i j : Nat) : K := kb (if i = 0 then (if j = 0 then a else b) else if i = 1 then (if j = 0 then c else d) else (if j = 0 then e else f))
theorem lt2 {i : Nat} (h : i < 2) : i = 0 ∨ i = 1 := by omega
theorem lt3 {i : Nat} (h : i < 3) : i = 0 ∨ i = 1 ∨ i = 2 := by omega

theorem lit2_at (w : World) (N a b c d : Nat) (hN : N = w.heap.size) (ha : a < 256) (hb : b < 256) (hc : c < 256) (hd : d < 256) :
    MatAt (((w.alloc (.cells #[.int .u8 ((a : Nat) : Int), .int .u8 ((b : Nat) : Int)] 5)).alloc (.cells #[.int .u8 ((c : Nat) : Int), .int .u8 ((d : Nat) : Int)] 5)).alloc (.cells #[.slice (some ⟨N, 0, none⟩) 2 2, .slice (some ⟨N + 1, 0, none⟩) 2 2] 22))
      (some ⟨N + 1 + 1, 0, none⟩) 2 (fun i => some ⟨N + i, 0, none⟩) (fun _ => 2) (fun _ => 2) (li2 a b c d) where
  top := .inr ⟨_, _, rfl, fun i hi => by
    subst hN
    have e : (w.heap.size + 1 + 1) = ((w.alloc (.cells #[.int .u8 ((a : Nat) : Int), .int .u8 ((b : Nat) : Int)] 5)).alloc (.cells #[.int .u8 ((c : Nat) : Int), .int .u8 ((d : Nat) : Int)] 5)).heap.size := by simp
    rw [e, World.cell?_alloc_new]
    rcases lt2 hi with rfl | rfl <;> rfl⟩
  row := fun i hi => .inr ⟨_, _, rfl, fun j hj => by
    subst hN
    rcases lt2 hi with rfl | rfl
    · rw [World.cell?_alloc_lt _ _ _ (by simp; omega), World.cell?_alloc_lt _ _ _ (by simp)]
      rw [Nat.add_zero, World.cell?_alloc_new]
      rcases lt2 hj with rfl | rfl
      · simp [li2, kb_val _ ha]
      · simp [li2, kb_val _ hb]
    · rw [World.cell?_alloc_lt _ _ _ (by simp)]
      have e : w.heap.size + 1 = (w.alloc (.cells #[.int .u8 ((a : Nat) : Int), .int .u8 ((b : Nat) : Int)] 5)).heap.size := by simp
      rw [e, World.cell?_alloc_new]
      rcases lt2 hj with rfl | rfl
      · simp [li2, kb_val _ hc]
      · simp [li2, kb_val _ hd]⟩
  le := fun _ _ => Nat.le_refl _

theorem lit3_at (w : World) (N a b c d e f : Nat) (hN : N = w.heap.size) (ha : a < 256) (hb : b < 256) (hc : c < 256) (hd : d < 256) (he : e < 256) (hf : f < 256) :
    MatAt ((((w.alloc (.cells #[.int .u8 ((a : Nat) : Int), .int .u8 ((b : Nat) : Int)] 5)).alloc (.cells #[.int .u8 ((c : Nat) : Int), .int .u8 ((d : Nat) : Int)] 5)).alloc (.cells #[.int .u8 ((e : Nat) : Int), .int .u8 ((f : Nat) : Int)] 5)).alloc
      (.cells #[.slice (some ⟨N, 0, none⟩) 2 2, .slice (some ⟨N + 1, 0, none⟩) 2 2, .slice (some ⟨N + 1 + 1, 0, none⟩) 2 2] 22))
      (some ⟨N + 1 + 1 + 1, 0, none⟩) 3 (fun i => some ⟨N + i, 0, none⟩) (fun _ => 2) (fun _ => 2) (li3 a b c d e f) where
  top := .inr ⟨_, _, rfl, fun i hi => by
    subst hN
    have q : (w.heap.size + 1 + 1 + 1) = (((w.alloc (.cells #[.int .u8 ((a : Nat) : Int), .int .u8 ((b : Nat) : Int)] 5)).alloc (.cells #[.int .u8 ((c : Nat) : Int), .int .u8 ((d : Nat) : Int)] 5)).alloc (.cells #[.int .u8 ((e : Nat) : Int), .int .u8 ((f : Nat) : Int)] 5)).heap.size := by simp
    rw [q, World.cell?_alloc_new]
    rcases lt3 hi with rfl | rfl | rfl <;> rfl⟩
  row := fun i hi => .inr ⟨_, _, rfl, fun j hj => by
    subst hN
    rcases lt3 hi with rfl | rfl | rfl
    · rw [World.cell?_alloc_lt _ _ _ (by simp; omega), World.cell?_alloc_lt _ _ _ (by simp; omega), World.cell?_alloc_lt _ _ _ (by simp)]
      rw [Nat.add_zero, World.cell?_alloc_new]
      rcases lt2 hj with rfl | rfl
      · simp [li3, kb_val _ ha]
      · simp [li3, kb_val _ hb]
    · rw [World.cell?_alloc_lt _ _ _ (by simp), World.cell?_alloc_lt _ _ _ (by simp)]
      have q : w.heap.size + 1 = (w.alloc (.cells #[.int .u8 ((a : Nat) : Int), .int .u8 ((b : Nat) : Int)] 5)).heap.size := by simp
      rw [q, World.cell?_alloc_new]
      rcases lt2 hj with rfl | rfl
      · simp [li3, kb_val _ hc]
      · simp [li3, kb_val _ hd]
    · rw [World.cell?_alloc_lt _ _ _ (by simp)]
      have q : w.heap.size + 2 = ((w.alloc (.cells #[.int .u8 ((a : Nat) : Int), .int .u8 ((b : Nat) : Int)] 5)).alloc (.cells #[.int .u8 ((c : Nat) : Int), .int .u8 ((d : Nat) : Int)] 5)).heap.size := by simp
      rw [q, World.cell?_alloc_new]
      rcases lt2 hj with rfl | rfl
      · simp [li3, kb_val _ he]
      · simp [li3, kb_val _ hf]⟩
  le := fun _ _ => Nat.le_refl _
theorem known_inv (Y : Nat → Nat → K) (hY : IsOrd (sw (li2 1 1 0 1) 2 2) 2 Y) : ∀ i, i < 2 → ∀ j, j < 2 → Y i j = li2 1 1 0 1 i j := by
  have p0 : piv (sw (li2 1 1 0 1) 2 2) 0 = 0 := by decide +kernel
  have p1 : piv (sw (li2 1 1 0 1) 2 2) 1 = 1 := by decide +kernel
  intro i hi j hj
  have h00 := hY 0 (by omega) 0 (by omega)
  have h01 := hY 0 (by omega) 1 (by omega)
  have h10 := hY 1 (by omega) 0 (by omega)
  have h11 := hY 1 (by omega) 1 (by omega)
  rw [p0] at h00 h01 h10
  rw [p1] at h01 h10 h11
  rcases lt2 hi with rfl | rfl <;> rcases lt2 hj with rfl | rfl
  · rw [h00]; decide +kernel
  · rw [h01]; decide +kernel
  · rw [h10]; decide +kernel
  · rw [h11]; decide +kernel
theorem known_code : ∀ i, i < 3 → ∀ j, j < 2 → codeX 2 i j = li3 1 0 0 1 142 244 i j := by
  intro i hi j hj
  rcases lt3 hi with rfl | rfl | rfl <;> rcases lt2 hj with rfl | rfl <;> decide +kernel

end Go.Proofs.Ytapgdenodhcliaa

/- Contract of MatrixKnown: all of the chapter's examples are answered as it says; what was there is as it was. -/
namespace Go.RowKit
/-- One behind the other. -/
theorem Below.then {w w' w'' : World} (h : Below w.heap.size w w') (h' : Below w'.heap.size w' w'') : Below w.heap.size w w'' := h.trans (h'.mono h.size)
end Go.RowKit
namespace Go.Proofs.Ytapgdenodhcliaa
open Go.RowKit

theorem alloc3 (w : World) (a b c : Obj) : Below w.heap.size w (((w.alloc a).alloc b).alloc c) := ((((Below.refl _ _).alloc (Nat.le_refl _) _).alloc (by simp) _).alloc (by simp; omega) _)
theorem alloc1 (w : World) (a : Obj) : Below w.heap.size w (w.alloc a) := (Below.refl _ _).alloc (Nat.le_refl _) _

theorem known_mul : ∀ i, i < 2 → ∀ j, j < 2 → pr 2 (li2 1 2 3 4) (li2 1 0 0 1) i j = li2 1 2 3 4 i j := by
  intro i hi j hj
  rcases lt2 hi with rfl | rfl <;> rcases lt2 hj with rfl | rfl <;> decide +kernel
def ri2 (a b : Int) (i : Nat) : Int := if i = 0 then a else b
theorem known_pick : ∀ i, i < 2 → ∀ j, j < 2 → li2 1 2 3 4 (ri2 1 0 i).toNat j = li2 3 4 1 2 i j := by
  intro i hi j hj
  rcases lt2 hi with rfl | rfl <;> rcases lt2 hj with rfl | rfl <;> decide +kernel
theorem ints2_at (w : World) (a b : Int) : IntsAt (w.alloc (.cells #[.int .i64 a, .int .i64 b] 3)) (some ⟨w.heap.size, 0, none⟩) 2 (ri2 a b) :=
  .inr ⟨_, _, rfl, fun i hi => by
    rw [World.cell?_alloc_new]
    rcases lt2 hi with rfl | rfl <;> rfl⟩
theorem ints1_at (w : World) (a : Int) : IntsAt (w.alloc (.cells #[.int .i64 a] 3)) (some ⟨w.heap.size, 0, none⟩) 1 (fun _ => a) :=
  .inr ⟨_, _, rfl, fun i hi => by
    rw [World.cell?_alloc_new]
    obtain rfl : i = 0 := by omega
    rfl⟩
theorem lit21_at (w : World) (N a b c : Nat) (hN : N = w.heap.size) :
    TopAt (((w.alloc (.cells #[.int .u8 ((a : Nat) : Int), .int .u8 ((b : Nat) : Int)] 5)).alloc (.cells #[.int .u8 ((c : Nat) : Int)] 5)).alloc (.cells #[.slice (some ⟨N, 0, none⟩) 2 2, .slice (some ⟨N + 1, 0, none⟩) 1 1] 22))
      (some ⟨N + 1 + 1, 0, none⟩) 2 (fun i => some ⟨N + i, 0, none⟩) (fun i => if i = 0 then 2 else 1) (fun i => if i = 0 then 2 else 1) :=
  .inr ⟨_, _, rfl, fun i hi => by
    subst hN
    have e : (w.heap.size + 1 + 1) = ((w.alloc (.cells #[.int .u8 ((a : Nat) : Int), .int .u8 ((b : Nat) : Int)] 5)).alloc (.cells #[.int .u8 ((c : Nat) : Int)] 5)).heap.size := by simp
    rw [e, World.cell?_alloc_new]
    rcases lt2 hi with rfl | rfl <;> rfl⟩

end Go.Proofs.Ytapgdenodhcliaa

/- From what a row of the statement reads of its arguments (lists of lists of bytes; lists of whole numbers) to what the walks ask of the memory. No conditions. -/
namespace Go.Proofs.Ytapgdenodhcliaa
open Go.ChangeShapes Go.WideShapes Go.ChangeAt Go.RowKit

theorem plain_addr {w : World} {a : Addr} {v : Value} (h : w.cell? (a.add 0) = some v) : ∃ b o, a = ⟨b, o, none⟩ := by
  obtain ⟨b, off, spot⟩ := a
  have hspot : spot = none := by simpa [Addr.add] using World.cell?_spot h
  exact ⟨b, off, by rw [hspot]⟩

theorem mat_of_rows {w : World} {a : Addr} {len cap : Nat} {A : Nat → Option Addr} {L C : Nat → Nat} {Z : Nat → List Int} (hl : len ≤ cap)
    (hx : ∀ r, r < cap → w.cell? (a.add r) = some (.slice (A r) (L r) (C r)) ∧ L r ≤ C r ∧ C r ≤ maxLen ∧ (Z r).length = C r ∧ (∀ n ∈ Z r, (Lit.int .u8 n).wf = true) ∧ (A r = none → C r = 0) ∧
      ∀ a', A r = some a' → 0 ≤ a'.block ∧ ∀ c, c < C r → w.cell? (a'.add c) = some (.int .u8 ((Z r).getD c 0))) :
    MatAt w (some a) len A L C (fun i j => kb ((Z i).getD j 0).toNat) where
  top := by
    by_cases h0 : len = 0
    · exact .inl h0
    · obtain ⟨b, o, rfl⟩ := plain_addr (hx 0 (by omega)).1
      exact .inr ⟨b, o, rfl, fun i hi => by rw [← add_plain]; exact (hx i (by omega)).1⟩
  row := fun i hi => by
    obtain ⟨_, h1, h2, h3, h4, h5, h6⟩ := hx i (by omega)
    by_cases h0 : L i = 0
    · exact .inl h0
    · cases hA : A i with
      | none => have := h5 hA; omega
      | some a' =>
        have h7 := (h6 a' hA).2
        obtain ⟨b, o, rfl⟩ := plain_addr (h7 0 (by omega))
        refine .inr ⟨b, o, rfl, fun j hj => ?_⟩
        rw [← add_plain, h7 j (by omega)]
        have hlt : j < (Z i).length := by omega
        have hb : 0 ≤ (Z i).getD j 0 ∧ (Z i).getD j 0 ≤ 255 := by
          have e : (Z i).getD j 0 = (Z i)[j] := by simp [List.getD, hlt]
          rw [e]; exact bounds_u8 (h4 _ (List.getElem_mem hlt))
        show some (Value.int .u8 ((Z i).getD j 0)) = some (Value.int .u8 (((kb ((Z i).getD j 0).toNat).val : Nat) : Int))
        rw [kb_val _ (by omega), Int.toNat_of_nonneg hb.1]
  le := fun i hi => (hx i (by omega)).2.1

/-- What is told of a list of lists of bytes that came in. -/
def IsMat (w : World) (a : Option Addr) (len : Nat) : Prop := ∃ (A : Nat → Option Addr) (L C : Nat → Nat) (X : Nat → Nat → K), MatAt w a len A L C X
theorem mat_open {H : Type} {enc : TypeId × Value → H} {w : World} {held : Bool} {fuel : Nat} {a : Option Addr} {len cap : Nat} {x : DataW H × List MemPlace}
    (h : DataW.trod enc Try.prog w 0 (fun _ => true) held fuel 24 (Value.slice a len cap).cells.toList = some x) : IsMat w a len := by
  rcases Go.Deep.open_int_rows Try.underlying24 Try.underlying22 Try.underlying5 (by kernel_rfl) (by kernel_rfl) h with ⟨hcs, _⟩ | ⟨b, l, c, A, L, C, Z, hcs, _, hl, _, _, hx⟩
  · simp [Value.cells] at hcs
    obtain ⟨rfl, rfl, rfl⟩ := hcs
    exact ⟨fun _ => none, fun _ => 0, fun _ => 0, fun _ _ => 0, .inl rfl, fun i hi => absurd hi (by omega), fun i hi => absurd hi (by omega)⟩
  · simp [Value.cells] at hcs
    obtain ⟨rfl, rfl, rfl⟩ := hcs
    exact ⟨A, L, C, _, mat_of_rows hl hx⟩
/-- What is told of a list of whole numbers that came in. -/
def IsInts (w : World) (a : Option Addr) (len : Nat) : Prop := ∃ R : Nat → Int, (∀ i, i < len → -9223372036854775808 ≤ R i ∧ R i ≤ 9223372036854775807) ∧ IntsAt w a len R
theorem ints_open {H : Type} {enc : TypeId × Value → H} {w : World} {held : Bool} {fuel : Nat} {a : Option Addr} {len cap : Nat} {x : DataW H × List MemPlace}
    (h : DataW.trod enc Try.prog w 0 (fun _ => true) held fuel 46 (Value.slice a len cap).cells.toList = some x) : IsInts w a len := by
  rcases open_ints Try.underlying46 Try.underlying3 (by kernel_rfl) h with ⟨hcs, _⟩ | ⟨b, l, c, zs, hcs, _, hl, hm, hz, _, hcell, hwz⟩
  · simp [Value.cells] at hcs
    obtain ⟨rfl, rfl, rfl⟩ := hcs
    exact ⟨fun _ => 0, fun i hi => absurd hi (by omega), .inl rfl⟩
  · simp [Value.cells] at hcs
    obtain ⟨rfl, rfl, rfl⟩ := hcs
    have hz' : zs.length = cap := by simpa using hz
    refine ⟨fun i => zs.getD i 0, fun i hi => ?_, ?_⟩
    · have hlt : i < zs.length := by omega
      have e : zs.getD i 0 = zs[i] := by simp [List.getD, hlt]
      show _ ≤ zs.getD i 0 ∧ zs.getD i 0 ≤ _
      rw [e]; exact bounds_i64 (hwz _ (List.getElem_mem hlt))
    · by_cases h0 : len = 0
      · exact .inl h0
      · obtain ⟨b', o', rfl, hc⟩ := ints_at hcell (by omega)
        exact .inr ⟨b', o', rfl, fun i hi => hc i (by omega)⟩
end Go.Proofs.Ytapgdenodhcliaa
