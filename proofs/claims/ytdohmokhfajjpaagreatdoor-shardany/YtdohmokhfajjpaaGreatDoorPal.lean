/- Texts laid into one, cut to what is needed: the remark ahead of each part says what is proved there. -/
import Derived.Test.YtdohmokhfajjpaaGreatDoorPak
import Derived.Deep.QuietTactic
import Derived.BigQuiet
import Derived.Deep.Draws
import Derived.Deep.Matrix
import Derived.ProofKit
import Derived.OpenShut
import Derived.Test.YtdohmokhfajjpaaGreatDoorPai
import Derived.Deep.RegionWith
/- Texts laid into one: the remark ahead of each part says what is proved there. -/
/- Contract of Pick of package matrix: the rows that are picked lie in new memory, or the error's number is told; what was there is as it was. -/
namespace Go.Proofs.YtdohmokhfajjpaaGreatDoor.U
open Go.RowKit

/-- n whole numbers, R, lie where the slice's value leads; one of no number may lead anywhere. -/
def IntsAt (w : World) (p : Option Addr) (n : Nat) (R : Nat → Int) : Prop := n = 0 ∨ ∃ b o, p = some ⟨b, o, none⟩ ∧ ∀ i, i < n → w.cell? ⟨b, o + i, none⟩ = some (.int .i64 (R i))
theorem IntsAt.keep {w w' : World} {p : Option Addr} {n : Nat} {R : Nat → Int} (h : IntsAt w p n R) (k : Stays w w') : IntsAt w' p n R := by
 rcases h with h | ⟨b, o, h, hc⟩
 ·exact .inl h
 ·exact .inr ⟨b, o, h, fun i hi => k _ _ (hc i hi)⟩
theorem IntsAt.pos {w : World} {p : Option Addr} {n : Nat} {R : Nat → Int} (h : IntsAt w p n R) (hn : 0 < n) : ∃ b o, p = some ⟨b, o, none⟩ ∧ ∀ i, i < n → w.cell? ⟨b, o + i, none⟩ = some (.int .i64 (R i)) := by
 rcases h with h | h
 ·omega
 ·exact h

def inR (n : Nat) (z : Int) : Prop := 0 ≤ z ∧ z < (n : Int)
instance (n : Nat) (z : Int) : Decidable (inR n z) := by unfold inR; exact inferInstance
def allIn (n k : Nat) (R : Nat → Int) : Bool := (List.range k).all fun i => decide (inR n (R i))
theorem allIn_true {n k : Nat} {R : Nat → Int} (h : ∀ i, i < k → inR n (R i)) : allIn n k R = true := by
 unfold allIn; rw [List.all_eq_true]; intro i hi; have := h i (by simpa using hi); simpa using this
theorem allIn_false {n k : Nat} {R : Nat → Int} (i : Nat) (hi : i < k) (h : ¬ inR n (R i)) : allIn n k R = false := by
 unfold allIn; rw [List.all_eq_false]; exact ⟨i, by simpa using hi, by simpa using h⟩
set_option maxRecDepth 100000 in
set_option maxHeartbeats 4000000 in
theorem pick_rows (p q : Option Addr) (n m c k d : Nat) (A : Nat → Option Addr) (C : Nat → Nat) (X : Nat → Nat → K) (R : Nat → Int) (w : World) (h0 : 1 ≤ n) (hn : n ≤ 32) (h1 : 1 ≤ m) (hm : m ≤ 32) (hk0 : 1 ≤ k) (hk : k ≤ 32)
  (h : MatAt w p n A (fun _ => m) C X) (hR : IntsAt w q k R) :
  Calls Tryz.prog 93 #[.slice p n c, .slice q k d] w fun e w' => Below w.heap.size w w' ∧ ((allIn n k R = false ∧ e = .returned (.tuple #[.slice none 0 0, .int .i64 5])) ∨
   ((∀ i, i < k → inR n (R i)) ∧ ∃ g G Q, e = .returned (.tuple #[.slice (some ⟨g, 0, none⟩) k k, .int .i64 0]) ∧ OwnMat w.heap.size w' g k k m G Q (fun i j => X (R i).toNat j))) := by
 have T := hid h.top
 have HE : Hid (errC n (fun _ => m) = 0) := errC_ok h0 hn h1 hm (fun _ _ => rfl)
 obtain ⟨b, o, rfl, bs, os, hc, hr⟩ := h.at (by omega) (by omega)
 obtain ⟨b2, o2, rfl, hc2⟩ := hR.pos (by omega)
 have HC := hid hc
 have HR := hid hr
 have HI := hid hc2
 have hmk := run_make_top k (by omega) w
 have H0 := hid (own_made w 22 (.slice none 0 0) k w.heap.size (by omega) (Nat.le_refl _))
 have hk1 : ((k : Int) == 0) = false := by simp; omega
 clear hc hr hc2 h hR
 go_enter Tryz.func93, Tryz.ntmps93
 go_wp2_with fail
 refine (check_any _ _ _ _ _ _ _ (by omega) T.out).mono ?_
 rintro e w' ⟨rfl, hw⟩
 have hw2 := hw.symm
 subst hw2
 clear hw T
 rw [HE.out]
 clear HE
 go_wp2_with fail
 clear hmk
 go_loopw [26] (fun x wr => ∃ i : Nat, ∃ G Q : Nat → Nat, i ≤ k ∧ x = .int .i64 i ∧ Half w.heap.size wr w.heap.size k k m i G Q (fun i j => X (R i).toNat j) (fun _ => .slice none 0 0) ∧ Below w.heap.size w wr ∧ ∀ r, r < i → inR n (R r)) (fun x _ => (k - intOf x).toNat)
 case atStart => exact ⟨0, fun _ => 0, fun _ => 0, by omega, rfl, ⟨by simpa using H0.out, fun i hi => absurd hi (by omega), fun i j hi => absurd hi (by omega)⟩, (Below.refl _ _).alloc (Nat.le_refl _) _, fun r hr => absurd hr (by omega)⟩
 case round =>
  clear H0
  obtain ⟨i, G, Q, hi, rfl, hh, hb, hin⟩ := hrel
  by_cases hlt : i < k
  ·have c1 := Stays.of_below hb _ _ (HI.out i hlt)
   by_cases hz : R i < 0
   ·have HF := hid (allIn_false (n := n) (R := R) i hlt (fun q => by unfold inR at q; omega))
    have HB := hid hb
    clear hh hb hin HC HR HI
    go_wp2
    go_ret2
    exact ⟨HB.out, .inl ⟨HF.out, rfl⟩⟩
   ·by_cases hz2 : (n : Int) ≤ R i
    ·have HF := hid (allIn_false (n := n) (R := R) i hlt (fun q => by unfold inR at q; omega))
     have HB := hid hb
     clear hh hb hin HC HR HI
     go_wp2
     go_ret2
     exact ⟨HB.out, .inl ⟨HF.out, rfl⟩⟩
    ·obtain ⟨r, hr⟩ : ∃ r : Nat, R i = r := ⟨(R i).toNat, by omega⟩
     have hrn : r < n := by omega
     have HI2 : Hid (∀ r, r < i + 1 → inR n (R r)) := fun r' hr' => by
      by_cases e : r' = i
      ·rw [e]; unfold inR; omega
      ·exact hin r' (by omega)
     have hX : (fun j => X (R i).toNat j) = X r := by rw [hr]; rfl
     rw [hr] at c1
     have c2 := Stays.of_below hb _ _ (HC.out r hrn)
     have r1 := (HR.out r hrn).keep (Stays.of_below hb)
     have hgl := (own_ge hh.top).2
     have c3 : wr.cell? ⟨w.heap.size, i, none⟩ = some (.slice none 0 0) := by rw [own_cell hh.top i hlt]; simp
     have c4 := hh.top.frozenAt i
     have HH := hid hh
     have HB := hid hb
     have HX := hid hX
     clear hh hb hin HC HR HI hr hX hz hz2
     go_wp2_with fail
     refine (cloneRow_any (bs r) (os r) m (C r) (X r) wr (by omega) (by omega) r1).mono ?_
     rintro e w2 ⟨g1, cp1, rfl, hg1, hown1, hb1⟩
     have d1 := (hb1.cell (p := ⟨w.heap.size, i, none⟩) hgl).trans c3
     have d2 := (hb1.frozen (p := ⟨w.heap.size, i, none⟩) hgl).trans c4
     have hsz := HB.out.size
     have HP := hid (HH.out.push hb1.block g1 cp1 hg1 (by have := own_base hown1 hsz; rw [← HX.out] at this; exact this))
     have HB2 := hid ((HB.out.trans (hb1.mono hsz)).setCell (p := ⟨w.heap.size, i, none⟩) (Nat.le_refl _) (rv g1 m cp1))
     clear hown1 hb1 HH HB r1 c1 c2 c3 c4
     go_wp2
     go_roundw
     case rel => exact ⟨i + 1, upd G i g1, upd Q i cp1, by omega, by go_num, HP.out, HB2.out, HI2.out⟩
     case measure => simp [intOf]; omega
  ·have e : i = k := by omega
   subst e
   have HO := hid hh.done
   have HB := hid hb
   have HN := hid hin
   clear hh hb HR HC HI hin
   go_wp2
   go_ret2
   exact ⟨HB.out, .inr ⟨HN.out, _, G, Q, rfl, HO.out⟩⟩
end Go.Proofs.YtdohmokhfajjpaaGreatDoor.U

/- Contracts of parity and Code of package matrix: the code of k and m lies in new memory, or the error's number is told; what was there is as it was. -/
namespace Go.Proofs.YtdohmokhfajjpaaGreatDoor.U
open Go.RowKit

/-- The code of k, row by row. -/
def codeX (k : Nat) (r c : Nat) : K := if r < k then on r c else K.iv (kb r + kb c)

set_option maxRecDepth 100000 in
set_option maxHeartbeats 1000000 in
theorem parity_any (k i : Nat) (w : World) (h0 : 1 ≤ k) (h : k + i ≤ 32) :
  Calls Tryz.prog 41 #[.int .i64 k, .int .i64 i] w fun e w' => e = .returned (.slice (some ⟨w.heap.size, 0, none⟩) k k) ∧ w'.ownsRow w.heap.size 5 1 (.slice (some ⟨w.heap.size, 0, none⟩) k k) k (vals k fun j => kv (codeX k (k + i) j)) ∧ Below w.heap.size w w' := by
 have hmk := run_make_u8 k (by omega) w
 have H0 := hid (own_made w 5 (.int .u8 0) k w.heap.size (by omega) (Nat.le_refl _))
 go_enter Tryz.func41, Tryz.ntmps41
 go_wp2
 clear hmk
 go_loopw [11] (fun x wr => ∃ j : Nat, j ≤ k ∧ x = .int .i64 j ∧ wr.ownsRow w.heap.size 5 1 (.slice (some ⟨w.heap.size, 0, none⟩) k k) k (vals k fun c => if c < j then kv (codeX k (k + i) c) else .int .u8 0) ∧ Below w.heap.size w wr) (fun x _ => (k - intOf x).toNat)
 case atStart => exact ⟨0, by omega, rfl, by simpa using H0.out, (Below.refl _ _).alloc (Nat.le_refl _) _⟩
 case round =>
  clear H0
  obtain ⟨j, hj, rfl, ho, hb⟩ := hrel
  by_cases hlt : j < k
  ·have c1 : wr.cell? ⟨w.heap.size, j, none⟩ = some (.int .u8 0) := by rw [own_cell ho j hlt]; simp
   have c2 := ho.frozenAt j
   have hx : k + i ^^^ j < 256 := Gf.xor_lt _ _ (by omega) (by omega)
   have HV : Hid (invV (k + i ^^^ j) = (((codeX k (k + i) j).val : Nat) : Int)) := by
    unfold codeX; rw [if_neg (by omega)]
    have := invV_k (kb (k + i) + kb j)
    rw [K.val_add, kb_val _ (by omega), kb_val _ (by omega)] at this
    exact this
   have HO : Hid ((wr.setCell ⟨w.heap.size, j, none⟩ (kv (codeX k (k + i) j))).ownsRow w.heap.size 5 1 (.slice (some ⟨w.heap.size, 0, none⟩) k k) k (vals k fun c => if c < j + 1 then kv (codeX k (k + i) c) else .int .u8 0)) := by
    have := (ho.stored j (kv (codeX k (k + i) j))).1
    rw [vals_set] at this
    rwa [vals_congr (W := fun c => if c < j + 1 then kv (codeX k (k + i) c) else .int .u8 0) (fun c _ => by
     unfold upd
     by_cases e : c = j
     ·subst e; simp
     ·by_cases q : c < j
      ·simp [e, q, show c < j + 1 by omega]
      ·simp [e, q, show ¬ c < j + 1 by omega])] at this
   have HB := hid (hb.setCell (p := ⟨w.heap.size, j, none⟩) (Nat.le_refl _) (kv (codeX k (k + i) j)))
   clear ho hb
   go_wp2_with (first | (go_at_call 60; refine (add_any _ _ _ (by omega) (by omega) (by omega) (by omega)).mono ?_; rintro e w' ⟨rfl, rfl⟩; rw [show ((k : Int) + (i : Int)).toNat = k + i by omega, show ((j : Int)).toNat = j by omega]) | (go_at_call 59; refine (inv_any _ _ (by omega) (by omega)).mono ?_; rintro e w' ⟨rfl, rfl⟩))
   go_roundw
   case rel => exact ⟨j + 1, by omega, by go_num, by rw [HV.out]; exact HO.out, by rw [HV.out]; exact HB.out⟩
   case measure => simp [intOf]; omega
  ·have e : j = k := by omega
   subst e
   have HO : Hid (wr.ownsRow w.heap.size 5 1 (.slice (some ⟨w.heap.size, 0, none⟩) j j) j (vals j fun c => kv (codeX j (j + i) c))) := by
    rwa [vals_congr (W := fun c => kv (codeX j (j + i) c)) (fun c hc => by simp [hc])] at ho
   have HB := hid hb
   clear ho hb
   go_wp2
   go_ret
   exact ⟨rfl, HO.out, HB.out⟩

/-- A row more, by append. -/
theorem OwnMat.push {B : Nat} {w w1 w4 : World} {g c n m gg cap : Nat} {G Q : Nat → Nat} {X : Nat → Nat → K} {o : Obj} (h : OwnMat B w g c n m G Q X) (hb : Below w.heap.size w w1) (g1 c1 : Nat) (hg1 : w.heap.size ≤ g1)
  (hr : w1.ownsRow B 5 1 (.slice (some ⟨g1, 0, none⟩) m c1) m (vals m fun j => kv (X n j))) (hgrow : (w1.alloc o).grownBy w4 (some g)) (hown : w4.ownsRow B 22 1 (.slice (some ⟨gg, 0, none⟩) (n + 1) cap) (n + 1) (vals n (fun i => rv (G i) m (Q i)) ++ [rv g1 m c1])) :
  OwnMat B w4 gg cap (n + 1) m (upd G n g1) (upd Q n c1) X where
 top := by
  have e : vals n (fun i => rv (G i) m (Q i)) ++ [rv g1 m c1] = vals (n + 1) fun i => rv (upd G n g1 i) m (upd Q n c1 i) := by
   rw [vals_succ]
   congr 1
   ·refine vals_congr (fun i hi => ?_)
    unfold upd; rw [if_neg (by omega), if_neg (by omega)]
   ·unfold upd; rw [if_pos rfl, if_pos rfl]
  rw [e] at hown; exact hown
 row := fun i hi => by
  have hk : ∀ b cr mr ys, w1.ownsRow B 5 1 (.slice (some ⟨b, 0, none⟩) mr cr) mr ys → w4.ownsRow B 5 1 (.slice (some ⟨b, 0, none⟩) mr cr) mr ys := fun b cr mr ys hh => by
   have ht := own_keep h.top (hb.block g (own_ge h.top).2)
   have hne : g ≠ b := own_apart ht hh (by decide)
   have h2 := hh.alloc o
   exact own_keep h2 (hgrow.block b (own_ge h2).2 (fun q => hne (by cases q; rfl)))
  by_cases e : i = n
  ·subst e
   simp only [upd, if_true]
   exact hk _ _ _ _ hr
  ·simp only [upd, if_neg e]
   exact hk _ _ _ _ (own_keep (h.row i (by omega)) (hb.block _ (h.ge i (by omega)).2))
 inj := fun i j hi hj q => by
  unfold upd at q
  by_cases e1 : i = n
  ·by_cases e2 : j = n
   ·omega
   ·rw [if_pos e1, if_neg e2] at q; have := (h.ge j (by omega)).2; omega
  ·by_cases e2 : j = n
   ·rw [if_neg e1, if_pos e2] at q; have := (h.ge i (by omega)).2; omega
   ·rw [if_neg e1, if_neg e2] at q; exact h.inj i j (by omega) (by omega) q

set_option maxRecDepth 100000 in
set_option maxHeartbeats 4000000 in
theorem code_any (k m : Nat) (w : World) (h0 : 1 ≤ k) (h1 : 1 ≤ m) (h : k + m ≤ 16) :
  Calls Tryz.prog 25 #[.int .i64 k, .int .i64 m] w fun e w' => ∃ g c G Q, e = .returned (.tuple #[.slice (some ⟨g, 0, none⟩) (k + m) c, .int .i64 0]) ∧ OwnMat w.heap.size w' g c (k + m) k G Q (codeX k) ∧ Below w.heap.size w w' := by
 obtain ⟨i0, hi0, hz0, hz1, hz2⟩ := info_parts Tryz.info22
 go_enter Tryz.func25, Tryz.ntmps25
 go_wp2_with fail
 refine (one_any k w h0 (by omega)).mono ?_
 rintro e w1 ⟨g, G, rfl, hm, hb⟩
 have HM := hid (hm.congr (Y := codeX k) (fun i hi j _ => by unfold codeX; rw [if_pos hi]))
 have HB := hid hb
 clear hm hb
 go_wp2_with fail
 go_loopw [6, 27] (fun v x wr => ∃ i g c : Nat, ∃ G Q : Nat → Nat, i ≤ m ∧ x = .int .i64 i ∧ v = .slice (some ⟨g, 0, none⟩) (k + i) c ∧ OwnMat w.heap.size wr g c (k + i) k G Q (codeX k) ∧ Below w.heap.size w wr) (fun _ x _ => (m - intOf x).toNat)
 case atStart => exact ⟨0, g, k, G, _, by omega, rfl, rfl, HM.out, HB.out⟩
 case round =>
  clear HM HB
  obtain ⟨i, g, c, G, Q, hi, rfl, rfl, hm, hb⟩ := hrel
  by_cases hlt : i < m
  ·have HM := hid hm
   have HB := hid hb
   clear hm hb
   go_wp2_with fail
   refine (parity_any k i wr h0 (by omega)).mono ?_
   rintro e w2 ⟨rfl, hr2, hb2⟩
   have hsz := HB.out.size
   have hg := (own_ge HM.out.top).2
   have hsz2 := hb2.size
   have HR2 := hid (own_base hr2 hsz)
   have HB2 := hid hb2
   have HT := hid (own_keep HM.out.top (hb2.block g hg))
   have HN : Hid (∀ q u, [rv wr.heap.size k k][q]? = some u → (w2.alloc (.cells #[rv wr.heap.size k k] 22)).cell? ((⟨w2.heap.size, 0, none⟩ : Addr).add q) = some u) :=
    World.news_of_block (cs := #[rv wr.heap.size k k]) (t := 22) (fr := (0, 0)) (heap_alloc_new _ _)
   clear hr2 hb2
   go_wp2_with (at_builtin; refine wpList_append_lies _ rfl _ _ 25 rfl w.heap.size 22 i0 (.slice none 0 0) 1 24 Tryz.underlying25 hi0 hz0 hz1 hz2 rfl (by omega) (.slice (some ⟨g, 0, none⟩) (k + i) c) (k + i) (vals (k + i) fun i => rv (G i) k (Q i)) rfl (HT.out.alloc _) ⟨w2.heap.size, 0, none⟩ 1 1 [rv wr.heap.size k k] rfl rfl HN.out (by intro u hu; simp at hu; subst hu; rfl) (by omega) (by unfold maxLen; omega) (by omega) (by simp; omega) _ rfl ?_; intro gg cap w4 hown4 hgrow hat hlt4)
   have HX := hid (HM.out.push HB2.out wr.heap.size k (Nat.le_refl _) HR2.out hgrow hown4)
   have HBX : Hid (Below w.heap.size w w4) := Below.grown ((HB.out.trans (HB2.out.mono hsz)).alloc (by omega) _) hgrow (by simp; omega) (fun b hb => by
    have := (own_ge HM.out.top).1
    cases hb; exact this)
   clear hown4 hgrow hat hlt4 HN HT HM HB HB2 HR2
   go_wp2
   go_roundw
   case rel => exact ⟨i + 1, gg, cap, _, _, by omega, by go_num, rfl, HX.out, HBX.out⟩
   case measure => simp [intOf]; omega
  ·have e : i = m := by omega
   subst e
   have HM := hid hm
   have HB := hid hb
   clear hm hb
   go_wp2
   go_ret2
   exact ⟨g, c, G, Q, rfl, HM.out, HB.out⟩
end Go.Proofs.YtdohmokhfajjpaaGreatDoor.U

/- Contracts of SameLists and makes of the statements' kit: of two matrices that read alike they return true; and of the examples that awake asks: all are answered as the chapter says. What was there is as it was. -/
namespace Go.Proofs.YtdohmokhfajjpaaGreatDoor.U
open Go.RowKit

theorem below_drewN {B n : Nat} {w w' : World} (h : Below B w w') : Below B w (w'.drewN n) := ⟨h.os, h.tape, h.output, h.size, h.block⟩

end Go.Proofs.YtdohmokhfajjpaaGreatDoor.U

/- Contract of MatrixKnown: all of the chapter's examples are answered as it says; what was there is as it was. -/
namespace Go.RowKit
/-- One behind the other. -/
theorem Below.then {w w' w'' : World} (h : Below w.heap.size w w') (h' : Below w'.heap.size w' w'') : Below w.heap.size w w'' := h.trans (h'.mono h.size)
end Go.RowKit
namespace Go.Proofs.YtdohmokhfajjpaaGreatDoor.U
open Go.RowKit

end Go.Proofs.YtdohmokhfajjpaaGreatDoor.U

/- From what a row of the statement reads of its arguments (lists of lists of bytes; lists of whole numbers) to what the walks ask of the memory. No conditions. -/
namespace Go.Proofs.YtdohmokhfajjpaaGreatDoor.U
open Go.ChangeShapes Go.WideShapes Go.ChangeAt Go.RowKit

end Go.Proofs.YtdohmokhfajjpaaGreatDoor.U

/- Plain mathematics of shards: the first k that are there, in order; the code's upper rows are the one; what any k shards of bytes make are all shards; a turned byte parts the shards. No conditions but bounds. -/
namespace Go.Proofs.YtdohmokhfajjpaaGreatDoor.U

/-- How long the shards of n bytes are. -/
def lgt (n k : Nat) : Nat := (n + k - 1) / k
/-- The first shards of n bytes x, each of length l. -/
def dsh (l n : Nat) (x : Nat → K) (i j : Nat) : K := if i * l + j < n then x (i * l + j) else 0
/-- All shards. -/
def ash (k l n : Nat) (x : Nat → K) : Nat → Nat → K := pr k (codeX k) (dsh l n x)

theorem pr_congr {k : Nat} {X X' Y Y' : Nat → Nat → K} {i j : Nat} (hX : ∀ q, q < k → X i q = X' i q) (hY : ∀ q, q < k → Y q j = Y' q j) : pr k X Y i j = pr k X' Y' i j := by
 unfold pr; exact sm_congr (fun q hq => by rw [hX q hq, hY q hq])
theorem pr_on (k : Nat) (Y : Nat → Nat → K) (i j : Nat) (h : i < k) : pr k on Y i j = Y i j := by
 unfold pr on
 have e : ∀ q, q < k → (if i = q then (1 : K) else 0) * Y q j = if q = i then Y q j else 0 := fun q _ => by
  by_cases e : q = i
  ·subst e; rw [if_pos rfl, if_pos rfl, kone_mul]
  ·rw [if_neg (fun h => e h.symm), if_neg e, kzero_mul]
 rw [sm_congr e, sm_at (fun q => Y q j) i k, if_pos h]
theorem pr_code (k : Nat) (Y : Nat → Nat → K) (i j : Nat) (h : i < k) : pr k (codeX k) Y i j = Y i j := by
 rw [← pr_on k Y i j h]
 exact pr_congr (fun q _ => by unfold codeX; rw [if_pos h]) (fun _ _ => rfl)
/-- What any k shards make are all shards. -/
theorem mend_all (k : Nat) (C Y D T : Nat → Nat → K) (l : Nat → Nat) (hY : ∀ i, i < k → ∀ j, j < k → pr k Y (fun i c => C (l i) c) i j = on i j) (r j : Nat) (hT : ∀ i, i < k → T i j = pr k C D (l i) j) :
  pr k (pr k C Y) T r j = pr k C D r j := by
 rw [pr_assoc]
 refine pr_congr (fun _ _ => rfl) (fun q hq => ?_)
 have h1 : pr k Y T q j = pr k Y (pr k (fun i c => C (l i) c) D) q j := pr_congr (fun _ _ => rfl) (fun i hi => hT i hi)
 rw [h1, ← pr_assoc, pr_congr (X' := on) (Y' := D) (fun i hi => hY q hq i hi) (fun _ _ => rfl), pr_on k D q j hq]

/-- The first k that are there, of the first so many. -/
def tk (H : Nat → Bool) (k : Nat) : Nat → List Nat
 | 0 => []
 | i + 1 => if (tk H k i).length < k ∧ H i = true then tk H k i ++ [i] else tk H k i
/-- How many are there. -/
def cn (H : Nat → Bool) : Nat → Nat
 | 0 => 0
 | i + 1 => cn H i + (if H i = true then 1 else 0)
theorem tk_on {H : Nat → Bool} {k i : Nat} (h : (tk H k i).length < k) (h2 : H i = true) : tk H k (i + 1) = tk H k i ++ [i] := by show (if _ then _ else _) = _; rw [if_pos ⟨h, h2⟩]
theorem tk_off {H : Nat → Bool} {k i : Nat} (h2 : H i = false) : tk H k (i + 1) = tk H k i := by show (if _ then _ else _) = _; rw [if_neg (fun h => by rw [h2] at h; exact absurd h.2 (by decide))]
theorem tk_full {H : Nat → Bool} {k i : Nat} (h : (tk H k i).length = k) : tk H k (i + 1) = tk H k i := by show (if _ then _ else _) = _; rw [if_neg (fun q => by omega)]
theorem tk_rest {H : Nat → Bool} {k i : Nat} (h : (tk H k i).length = k) : ∀ d, tk H k (i + d) = tk H k i
 | 0 => rfl
 | d + 1 => by
  have ih := tk_rest h d
  rw [show i + (d + 1) = (i + d) + 1 by omega, tk_full (by rw [ih]; exact h), ih]
theorem tk_end {H : Nat → Bool} {k i n : Nat} (h : (tk H k i).length = k) (hi : i ≤ n) : tk H k n = tk H k i := by
 have := tk_rest h (n - i); rwa [show i + (n - i) = n by omega] at this
theorem tk_len (H : Nat → Bool) (k : Nat) : ∀ n, (tk H k n).length = min k (cn H n)
 | 0 => by simp [tk, cn]
 | i + 1 => by
  have ih := tk_len H k i
  unfold cn
  cases hi : H i with
  | false => rw [tk_off hi, ih]; simp
  | true =>
   rw [if_pos rfl]
   by_cases hl : (tk H k i).length < k
   ·rw [tk_on hl hi, List.length_append, ih]; simp; omega
   ·rw [tk_full (by omega), ih]; omega
theorem tk_spec (H : Nat → Bool) (k : Nat) : ∀ n, (tk H k n).Pairwise (· < ·) ∧ ∀ y ∈ tk H k n, y < n ∧ H y = true
 | 0 => ⟨List.Pairwise.nil, fun y hy => by cases hy⟩
 | i + 1 => by
  obtain ⟨h1, h2⟩ := tk_spec H k i
  by_cases hc : (tk H k i).length < k ∧ H i = true
  ·rw [tk_on hc.1 hc.2]
   refine ⟨List.pairwise_append.2 ⟨h1, List.pairwise_singleton _ _, fun a ha b hb => ?_⟩, fun y hy => ?_⟩
   ·simp at hb; subst hb; exact (h2 a ha).1
   ·rcases List.mem_append.1 hy with q | q
    ·exact ⟨by have := (h2 y q).1; omega, (h2 y q).2⟩
    ·simp at q; subst q; exact ⟨by omega, hc.2⟩
  ·have e : tk H k (i + 1) = tk H k i := by show (if _ then _ else _) = _; rw [if_neg hc]
   rw [e]
   exact ⟨h1, fun y hy => ⟨by have := (h2 y hy).1; omega, (h2 y hy).2⟩⟩
theorem tk_get (H : Nat → Bool) (k n a : Nat) (h : a < (tk H k n).length) : ((tk H k n)[a]?).getD 0 < n ∧ H (((tk H k n)[a]?).getD 0) = true := by
 rw [List.getElem?_eq_getElem h]
 exact (tk_spec H k n).2 _ (List.getElem_mem h)
theorem tk_inj (H : Nat → Bool) (k n a b : Nat) (ha : a < (tk H k n).length) (hb : b < (tk H k n).length) (e : ((tk H k n)[a]?).getD 0 = ((tk H k n)[b]?).getD 0) : a = b := by
 have hp := List.pairwise_iff_getElem.1 (tk_spec H k n).1
 rw [List.getElem?_eq_getElem ha, List.getElem?_eq_getElem hb] at e
 simp only [Option.getD_some] at e
 rcases Nat.lt_trichotomy a b with q | q | q
 ·exact absurd e (Nat.ne_of_lt (hp a b ha hb q))
 ·exact q
 ·exact absurd e.symm (Nat.ne_of_lt (hp b a hb ha q))
theorem cn_le (H : Nat → Bool) : ∀ n, cn H n ≤ n
 | 0 => Nat.le_refl _
 | i + 1 => by have := cn_le H i; unfold cn; split <;> omega
/-- The length that shards are held against, behind the first so many. -/
def lenSt (H : Nat → Bool) (L : Nat → Nat) (z : Int) : Nat → Int
 | 0 => z
 | i + 1 => if H i = true ∧ lenSt H L z i < 0 then (L i : Int) else lenSt H L z i
/-- Is one that is there too long? -/
def anyLong (n : Nat) (H : Nat → Bool) (L : Nat → Nat) : Bool := (List.range n).any fun i => H i && decide (65536 < L i)
/-- Is one that is there of another length? -/
def anyOdd (n : Nat) (H : Nat → Bool) (L : Nat → Nat) (z : Int) : Bool := (List.range n).any fun i => H i && decide ((L i : Int) ≠ lenSt H L z (i + 1))
/-- What is wrong with shards, but for how many are there. -/
def errMt (ns nh n : Nat) (H : Nat → Bool) (L : Nat → Nat) (z : Int) : Int := if ns ≠ n ∨ nh ≠ n then 2 else if anyLong n H L = true then 3 else if anyOdd n H L z = true then 2 else 0
theorem anyLong_true {n : Nat} {H : Nat → Bool} {L : Nat → Nat} (i : Nat) (hi : i < n) (h1 : H i = true) (h : 65536 < L i) : anyLong n H L = true := by
 unfold anyLong; rw [List.any_eq_true]; exact ⟨i, by simpa using hi, by simp [h1, h]⟩
theorem anyLong_false {n : Nat} {H : Nat → Bool} {L : Nat → Nat} (h : ∀ i, i < n → H i = true → L i ≤ 65536) : anyLong n H L = false := by
 unfold anyLong; rw [List.any_eq_false]; intro i hi; have := h i (by simpa using hi)
 cases q : H i with
 | false => simp
 | true => have := this q; simp; omega
theorem anyLong_not {n : Nat} {H : Nat → Bool} {L : Nat → Nat} (h : anyLong n H L = false) (i : Nat) (hi : i < n) (h1 : H i = true) : L i ≤ 65536 := by
 rcases Nat.lt_or_ge 65536 (L i) with q | q
 ·rw [anyLong_true i hi h1 q] at h; cases h
 ·exact q
theorem anyOdd_true {n : Nat} {H : Nat → Bool} {L : Nat → Nat} {z : Int} (i : Nat) (hi : i < n) (h1 : H i = true) (h : (L i : Int) ≠ lenSt H L z (i + 1)) : anyOdd n H L z = true := by
 unfold anyOdd; rw [List.any_eq_true]; exact ⟨i, by simpa using hi, by simp [h1, h]⟩
theorem anyOdd_false {n : Nat} {H : Nat → Bool} {L : Nat → Nat} {z : Int} (h : ∀ i, i < n → H i = true → (L i : Int) = lenSt H L z (i + 1)) : anyOdd n H L z = false := by
 unfold anyOdd; rw [List.any_eq_false]; intro i hi; have := h i (by simpa using hi)
 cases q : H i with
 | false => simp
 | true => simp [this q]
theorem anyOdd_not {n : Nat} {H : Nat → Bool} {L : Nat → Nat} {z : Int} (h : anyOdd n H L z = false) (i : Nat) (hi : i < n) (h1 : H i = true) : (L i : Int) = lenSt H L z (i + 1) := by
 by_cases q : (L i : Int) = lenSt H L z (i + 1)
 ·exact q
 ·rw [anyOdd_true i hi h1 q] at h; cases h
theorem lenSt_succ (H : Nat → Bool) (L : Nat → Nat) (z : Int) (i : Nat) : lenSt H L z (i + 1) = if H i = true ∧ lenSt H L z i < 0 then (L i : Int) else lenSt H L z i := rfl
theorem lenSt_ge {H : Nat → Bool} {L : Nat → Nat} {z : Int} (hz : 0 ≤ z) : ∀ i, lenSt H L z i = z
 | 0 => rfl
 | i + 1 => by unfold lenSt; rw [lenSt_ge hz i, if_neg (by omega)]
theorem lenSt_lo {H : Nat → Bool} {L : Nat → Nat} {z : Int} (hz : -1 ≤ z) : ∀ i, -1 ≤ lenSt H L z i
 | 0 => hz
 | i + 1 => by unfold lenSt; have := lenSt_lo (H := H) (L := L) hz i; split <;> omega
theorem lenSt_keep {H : Nat → Bool} {L : Nat → Nat} {z : Int} {i : Nat} (h : 0 ≤ lenSt H L z i) : ∀ d, lenSt H L z (i + d) = lenSt H L z i
 | 0 => rfl
 | d + 1 => by
  have ih := lenSt_keep h d
  show lenSt H L z ((i + d) + 1) = _
  rw [lenSt_succ, ih, if_neg (by omega)]
/-- All that are there have one length. -/
theorem one_len {n : Nat} {H : Nat → Bool} {L : Nat → Nat} {z : Int} (h : anyOdd n H L z = false) (i : Nat) (hi : i < n) (h1 : H i = true) : (L i : Int) = lenSt H L z n := by
 have h2 := anyOdd_not h i hi h1
 have h3 := lenSt_keep (H := H) (L := L) (z := z) (i := i + 1) (by omega) (n - (i + 1))
 rw [show i + 1 + (n - (i + 1)) = n by omega] at h3
 rw [h3]; exact h2
theorem errMt_zero {ns nh n : Nat} {H : Nat → Bool} {L : Nat → Nat} {z : Int} (h : errMt ns nh n H L z = 0) : ns = n ∧ nh = n ∧ (∀ i, i < n → H i = true → L i ≤ 65536) ∧ ∀ i, i < n → H i = true → (L i : Int) = lenSt H L z n := by
 unfold errMt at h
 by_cases h1 : ns ≠ n ∨ nh ≠ n
 ·rw [if_pos h1] at h; exact absurd h (by decide)
 ·rw [if_neg h1] at h
  cases h2 : anyLong n H L with
  | true => rw [h2, if_pos rfl] at h; exact absurd h (by decide)
  | false =>
   rw [h2, if_neg (by decide)] at h
   cases h3 : anyOdd n H L z with
   | true => rw [h3, if_pos rfl] at h; exact absurd h (by decide)
   | false => exact ⟨by omega, by omega, anyLong_not h2, one_len h3⟩
theorem errMt_ok {n l : Nat} {H : Nat → Bool} {L : Nat → Nat} {z : Int} (hl : l ≤ 65536) (hz : z = -1 ∨ z = (l : Int)) (h : ∀ i, i < n → H i = true → L i = l) : errMt n n n H L z = 0 := by
 have h0 : ∀ i, i ≤ n → (lenSt H L z i = z ∨ lenSt H L z i = (l : Int)) ∧ ∀ j, j < i → H j = true → lenSt H L z (j + 1) = (l : Int) := by
  intro i
  induction i with
  | zero => exact fun _ => ⟨.inl rfl, fun j hj => absurd hj (by omega)⟩
  | succ i ih =>
   intro hi
   obtain ⟨h1, h2⟩ := ih (by omega)
   have h3 : H i = true → lenSt H L z (i + 1) = (l : Int) := fun q => by
    unfold lenSt
    by_cases e : H i = true ∧ lenSt H L z i < 0
    ·rw [if_pos e, h i (by omega) q]
    ·rw [if_neg e]
     have : ¬ lenSt H L z i < 0 := fun r => e ⟨q, r⟩
     rcases h1 with r | r
     ·rcases hz with r2 | r2
      ·omega
      ·omega
     ·exact r
   refine ⟨?_, fun j hj hH => ?_⟩
   ·cases q : H i with
    | true => exact .inr (h3 q)
    | false => unfold lenSt; rw [if_neg (fun r => by rw [q] at r; exact absurd r.1 (by decide))]; exact h1
   ·by_cases e : j = i
    ·subst e; exact h3 hH
    ·exact h2 j (by omega) hH
 unfold errMt
 rw [if_neg (by omega), anyLong_false (fun i hi q => by rw [h i hi q]; exact hl), if_neg (by decide), anyOdd_false (fun i hi q => by rw [h i hi q]; exact ((h0 n (Nat.le_refl _)).2 i hi q).symm), if_neg (by decide)]
end Go.Proofs.YtdohmokhfajjpaaGreatDoor.U

/- Texts laid into one: the remark ahead of each part says what is proved there. -/
/- Contracts of scale and take of the document's own answer: a row is multiplied; a multiple of another row is added to it; no other block is touched. -/
namespace Go.Proofs.YtdohmokhfajjpaaGreatDoor.U
open Go.RowKit

end Go.Proofs.YtdohmokhfajjpaaGreatDoor.U

/- Rows that are appended one by one to a list that was nil; contracts of one, copied and Check of the document's own answer: as the program's; what was there is as it was. -/
namespace Go.Proofs.YtdohmokhfajjpaaGreatDoor.U
open Go.RowKit

/-- n rows that the call has made: row i's value has length M i and capacity C i; of its block N i numbers are known. -/
structure OwnV (B : Nat) (w : World) (v : Value) (n : Nat) (G M C N Q : Nat → Nat) (Y : Nat → Nat → K) : Prop where
 top : w.ownsRow B 22 1 v n (vals n fun i => .slice (some ⟨G i, 0, none⟩) (M i) (C i))
 row : ∀ i, i < n → w.ownsRow B 5 1 (.slice (some ⟨G i, 0, none⟩) (N i) (Q i)) (N i) (vals (N i) fun j => kv (Y i j))
 inj : ∀ i j, i < n → j < n → G i = G j → i = j
theorem OwnV.start (B : Nat) (w : World) (G M C N Q : Nat → Nat) (Y : Nat → Nat → K) : OwnV B w (.slice none 0 0) 0 G M C N Q Y :=
 ⟨World.ownsRow_nil _ _ _ _, fun i hi => absurd hi (by omega), fun i j hi => absurd hi (by omega)⟩
theorem upd_const {α : Type} (a : α) (k : Nat) : upd (fun _ => a) k a = fun _ => a := by funext i; unfold upd; split <;> rfl
end Go.Proofs.YtdohmokhfajjpaaGreatDoor.U

/- Contracts of copied and Check of the document's own answer: as the program's; what was there is as it was. -/
namespace Go.Proofs.YtdohmokhfajjpaaGreatDoor.U
open Go.RowKit

end Go.Proofs.YtdohmokhfajjpaaGreatDoor.U

/- Contracts of LentBytes (once more, over whole blocks) and LentLists of the statements' kit: copies in new memory, each with three marked bytes behind it; what was there is as it was. -/
namespace Go.Proofs.YtdohmokhfajjpaaGreatDoor.U
open Go.RowKit

/-- What a lent row reads as, its spare room with it. -/
def lentK (L : Nat) (x : Nat → K) (j : Nat) : K := if j < L then x j else kb (160 + j % 90)

/-- A row of N numbers in block g, which the call has made. -/
structure Mk (w wr : World) (g N : Nat) (x : Nat → K) : Prop where
 row : wr.ownsRow w.heap.size 5 1 (.slice (some ⟨g, 0, none⟩) N N) N (vals N fun c => kv (x c))
 bel : Below w.heap.size w wr
theorem Mk.congr {w wr : World} {g N : Nat} {x y : Nat → K} (h : Mk w wr g N x) (e : ∀ c, c < N → x c = y c) : Mk w wr g N y :=
 ⟨by have := h.row; rwa [vals_congr (W := fun c => kv (y c)) (fun c hc => by show kv (x c) = kv (y c); rw [e c hc])] at this, h.bel⟩
theorem Mk.set {w wr : World} {g N : Nat} {x : Nat → K} (h : Mk w wr g N x) (k : Nat) (v : K) : Mk w (wr.setCell ⟨g, k, none⟩ (.int .u8 ((v.val : Nat) : Int))) g N (fun c => if c = k then v else x c) := by
 refine ⟨?_, h.bel.setCell (p := ⟨g, k, none⟩) (own_ge h.row).1 _⟩
 have h1 := (h.row.stored k (kv v)).1
 rw [vals_set, vals_congr (W := fun c => kv (if c = k then v else x c)) (fun c _ => by unfold upd; by_cases e : c = k <;> simp [e])] at h1
 exact h1
theorem Mk.made (w : World) (N : Nat) (hN : N ≤ 70003) : Mk w (w.alloc (.cells (madeCells #[.int .u8 0] N) 5)) w.heap.size N (fun _ => 0) :=
 ⟨own_made w 5 (.int .u8 0) N w.heap.size hN (Nat.le_refl _), (Below.refl _ _).alloc (Nat.le_refl _) _⟩
theorem Mk.sets {w : World} {g N : Nat} : ∀ (ks : List K) (o : Nat) (wr : World) (x : Nat → K), Mk w wr g N x → Mk w (wr.setCells g o (ks.map kv)) g N (fun c => if o ≤ c ∧ c < o + ks.length then (ks[c - o]?).getD 0 else x c)
 | [], o, wr, x, h => h.congr (fun c _ => by rw [if_neg (by simp)])
 | k :: ks, o, wr, x, h => by
  have ih := Mk.sets ks (o + 1) _ _ (h.set o k)
  refine Mk.congr (x := _) ih (fun c _ => ?_)
  by_cases e1 : c = o
  ·subst e1
   rw [if_neg (by omega), if_pos rfl, if_pos (by simp)]; simp
  ·by_cases e2 : o + 1 ≤ c ∧ c < o + 1 + ks.length
   ·rw [if_pos e2, if_pos (by simp; omega), show c - o = (c - (o + 1)) + 1 by omega]; rfl
   ·rw [if_neg e2, if_neg e1, if_neg (by simp; omega)]
/-- The first n numbers, as a list. -/
def ksOf (n : Nat) (x : Nat → K) : List K := (List.range n).map x
theorem ksOf_vals (n : Nat) (x : Nat → K) : (ksOf n x).map kv = valN n fun j => (x j).val := by unfold ksOf valN kv; rw [List.map_map]; rfl
theorem ksOf_get (n : Nat) (x : Nat → K) (c : Nat) (h : c < n) : ((ksOf n x)[c]?).getD 0 = x c := by unfold ksOf; simp [h]
theorem Mk.copied {w wr : World} {g N : Nat} {y : Nat → K} (h : Mk w wr g N y) (n : Nat) (x : Nat → K) : Mk w (wr.setCells g 0 (valN n fun j => (x j).val)) g N (fun c => if c < n then x c else y c) := by
 rw [← ksOf_vals]
 refine (Mk.sets (ksOf n x) 0 wr y h).congr (fun c _ => ?_)
 have hl : (ksOf n x).length = n := by simp [ksOf]
 by_cases e : c < n
 ·rw [if_pos (by omega), if_pos e, Nat.sub_zero, ksOf_get n x c e]
 ·rw [if_neg (by omega), if_neg e]

end Go.Proofs.YtdohmokhfajjpaaGreatDoor.U

/- Contracts of CopyBytes, OverBytes and ApartBytes of the statements' kit, over lists each of which lies in a block of its own: the last returns true, and touches no block that was there but those. -/
namespace Go.Proofs.YtdohmokhfajjpaaGreatDoor.U
open Go.RowKit

theorem size41 (w : World) : (sizeOf (Tryz.prog.elem 22)).run Tryz.prog w = .ok 1 w := by
 obtain ⟨i0, hi0, hz0, hz1, hz2⟩ := info_parts Tryz.info5
 rw [show Tryz.prog.elem 22 = 5 by kernel_rfl]
 simp [sizeOf, typeInfo, hi0, hz1]
theorem under41 : Tryz.prog.underlying 22 = some (.slice (Tryz.prog.elem 22)) := by kernel_rfl
/-- From w to w' nothing that was there has turned but what the blocks of S hold. -/
structure SpareIn (S : Nat → Prop) (w w' : World) : Prop where
 os : w'.os = w.os
 tape : w'.tape = w.tape
 output : w'.output = w.output
 size : w.heap.size ≤ w'.heap.size
 block : ∀ b, b < w.heap.size → ¬ S b → w'.heap[b]? = w.heap[b]?
theorem SpareIn.refl (S : Nat → Prop) (w : World) : SpareIn S w w := ⟨rfl, rfl, rfl, Nat.le_refl _, fun _ _ _ => rfl⟩
theorem SpareIn.only {S : Nat → Prop} {g : Nat} {w w1 w2 : World} (h : SpareIn S w w1) (h2 : OnlyIn (fun b => b = g) w1 w2) (hg : S g) : SpareIn S w w2 :=
 ⟨h2.os.trans h.os, h2.tape.trans h.tape, h2.output.trans h.output, by rw [h2.size]; exact h.size, fun b hb hs => (h2.block b (fun e => hs (by rw [e]; exact hg))).trans (h.block b hb hs)⟩
theorem SpareIn.below {S : Nat → Prop} {B : Nat} {w0 w w' : World} (h : SpareIn S w w') (hb : Below B w0 w) (hB : B ≤ w.heap.size) (hS : ∀ b, S b → B ≤ b) : Below B w0 w' :=
 ⟨h.os.trans hb.os, h.tape.trans hb.tape, h.output.trans hb.output, Nat.le_trans hb.size h.size, fun b hlt => (h.block b (by omega) (fun q => by have := hS b q; omega)).trans (hb.block b hlt)⟩

theorem OwnV.stay {B : Nat} {w w' : World} {v : Value} {n : Nat} {G M C N Q : Nat → Nat} {X : Nat → Nat → K} (h : OwnV B w v n G M C N Q X) (hb : Below w.heap.size w w') : OwnV B w' v n G M C N Q X where
 top := own_keepV h.top (fun b q => hb.block b (h.top.lt b q).2)
 row := fun i hi => own_keep (h.row i hi) (hb.block _ (own_ge (h.row i hi)).2)
 inj := h.inj
end Go.Proofs.YtdohmokhfajjpaaGreatDoor.U

/- Contracts of Length and part of package stripe: how long shards are, or the error's number; the bytes laid into shards in new memory, with noughts behind them; what was there is as it was. -/
namespace Go.Proofs.YtdohmokhfajjpaaGreatDoor.U
open Go.RowKit

theorem lgt_div (s k : Nat) (_h : 1 ≤ k) : Int.tdiv ((s : Int) + (k : Int) - 1) (k : Int) = ((lgt s k : Nat) : Int) := by
 unfold lgt
 rw [show (s : Int) + (k : Int) - 1 = ((s + k - 1 : Nat) : Int) by omega]
 exact Int.ofNat_tdiv _ _ |>.symm
theorem lgt_le (s k : Nat) (h1 : s ≤ 65536) (h2 : 1 ≤ k) : lgt s k ≤ 65536 := by
 unfold lgt
 have : (s + k - 1) / k < 65537 := by
  rw [Nat.div_lt_iff_lt_mul (by omega)]
  have : 65537 ≤ 65537 * k := Nat.le_mul_of_pos_right _ (by omega)
  have e : 65537 * k = 65536 * k + k := by omega
  have : 65536 ≤ 65536 * k := Nat.le_mul_of_pos_right _ (by omega)
  omega
 omega
set_option maxHeartbeats 400000 in
theorem length_ok (s k : Nat) (w : World) (h1 : s ≤ 65536) (h2 : 1 ≤ k) (h3 : k ≤ 15) :
  Calls Tryz.prog 26 #[.int .i64 s, .int .i64 k] w fun e w' => e = .returned (.tuple #[.int .i64 ((lgt s k : Nat) : Int), .int .i64 0]) ∧ w' = w := by
 have hd := lgt_div s k h2
 have hw : IntKind.i64.wrap ((s : Int) + (k : Int)) = (s : Int) + (k : Int) := by rw [IntKind.wrap_i64]; omega
 have hk : (k : Int) ≠ 0 := by omega
 have hle := lgt_le s k h1 h2
 go_enter Tryz.func26, Tryz.ntmps26
 go_wp2
 go_ret2
 exact ⟨ret_ie (by first | rfl | (unfold wrap64; omega)) rfl, rfl⟩
/-- k shards of that length have room for all bytes. -/
theorem lgt_room (s k : Nat) (h2 : 1 ≤ k) : s ≤ k * lgt s k := by
 unfold lgt
 have := Nat.div_add_mod (s + k - 1) k
 have := Nat.mod_lt (s + k - 1) (show k > 0 by omega)
 omega

/-- A part of a list from l on. -/
theorem run_lo22 (p : Option Addr) (n c l : Nat) (hl : l ≤ n) : ∃ p2 : Option Addr, (∀ w : World, (Instr.slice 22 (.slice p n c) (some (.int .i64 (l : Int))) none none).run Tryz.prog w = .ok (.slice p2 (n - l) (c - l)) w) ∧ (∀ b o, p = some ⟨b, o, none⟩ → l < c → p2 = some ⟨b, o + l, none⟩) := by
 have hr : ∀ w, (Instr.slice 22 (.slice p n c) (some (.int .i64 (l : Int))) none none).run Tryz.prog w = .ok (sliced p l n c 1) w := fun w => by
  rw [run_slice_l (P := Tryz.prog) w 22 p n c under41 .i64 (l : Int) (by omega) (by omega), size41]
  simp [Result.andThen]
 cases p with
 | none => exact ⟨none, fun w => by rw [hr]; simp [sliced], fun b o e => by cases e⟩
 | some a =>
  by_cases e : c = l
  ·exact ⟨some a, fun w => by rw [hr]; simp [sliced, e], fun b o _ q => by omega⟩
  ·refine ⟨some (a.add l), fun w => by rw [hr]; simp [sliced, e], fun b o q _ => ?_⟩
   cases q
   rw [add_plain']
theorem StrAt.drop {w : World} {p p2 : Option Addr} {n c l : Nat} {x : Nat → Nat} (h : StrAt w p n x) (hc : n ≤ c) (hp : ∀ b o, p = some ⟨b, o, none⟩ → l < c → p2 = some ⟨b, o + l, none⟩) : StrAt w p2 (n - l) (fun j => x (l + j)) := by
 by_cases h0 : n - l = 0
 ·exact .inl h0
 ·rcases h with h | ⟨b, o, rfl, hr⟩
  ·omega
  ·exact .inr ⟨b, o + l, hp b o rfl (by omega), fun i hi => by rw [Nat.add_assoc]; exact hr (l + i) (by omega)⟩
theorem StrAt.congr {w : World} {p : Option Addr} {n : Nat} {x y : Nat → Nat} (h : StrAt w p n x) (e : ∀ j, j < n → x j = y j) : StrAt w p n y := by
 rcases h with h | ⟨b, o, rfl, hr⟩
 ·exact .inl h
 ·exact .inr ⟨b, o, rfl, fun i hi => by rw [← e i hi]; exact hr i hi⟩
/-- copy into a list that lies in memory of the call's own. -/
theorem run_copyG (w : World) (b o dl dc : Nat) (p : Option Addr) (n c : Nat) (x : Nat → Nat) (hx : StrAt w p n x) (hc : ∀ j, j < dl → ∃ v, w.cell? ⟨b, o + j, none⟩ = some v) (hf : ∀ j, w.frozen? ⟨b, o + j, none⟩ = false) (ty : TypeId) :
  (Builtin.copy_ #[22, 22] ty #[.slice (some ⟨b, o, none⟩) dl dc, .slice p n c]).run Tryz.prog w = .ok (goInt ((min n dl : Nat) : Int)) (w.setCells b o (valN (min n dl) x)) := by
 by_cases h0 : min n dl = 0
 ·rw [h0]
  exact run_copy_none (P := Tryz.prog) _ 22 22 ty 5 _ _ _ _ _ _ Tryz.underlying22 (by kernel_rfl) h0
 ·rcases hx with h | ⟨b', o', rfl, hr⟩
  ·omega
  ·have := run_copy_cells (P := Tryz.prog) w 22 22 ty 5 b o dl dc ⟨b', o', none⟩ n c (valN (min n dl) x) Tryz.underlying22 (by kernel_rfl) (by rw [valN_len])
     (fun j v hj => by
      have hjn : j < min n dl := by
       rcases Nat.lt_or_ge j (min n dl) with q | q
       ·exact q
       ·rw [List.getElem?_eq_none (by rw [valN_len]; exact q)] at hj; cases hj
      rw [valN_get _ x j hjn] at hj
      cases hj
      rw [add_plain']; exact hr j (by omega))
     (fun j hj => by rw [valN_len] at hj; obtain ⟨v, hv⟩ := hc j (by omega); rw [hv]; rfl)
     (fun j _ => hf j)
     (fun v hv => by unfold valN at hv; obtain ⟨i, _, rfl⟩ := List.mem_map.1 hv; rfl)
   rw [valN_len] at this
   exact this
/-- What a copy leaves of an owned row. -/
theorem own_copied {B g N Q : Nat} : ∀ (ks : List K) (o : Nat) (w : World) (y : Nat → K), w.ownsRow B 5 1 (.slice (some ⟨g, 0, none⟩) N Q) N (vals N fun c => kv (y c)) →
  (w.setCells g o (ks.map kv)).ownsRow B 5 1 (.slice (some ⟨g, 0, none⟩) N Q) N (vals N fun c => kv (if o ≤ c ∧ c < o + ks.length then (ks[c - o]?).getD 0 else y c))
 | [], o, w, y, h => by
  rw [vals_congr (W := fun c => kv (y c)) (fun c _ => by rw [if_neg (by simp)])]; exact h
 | k :: ks, o, w, y, h => by
  have h1 := (h.stored o (kv k)).1
  rw [vals_set, vals_congr (W := fun c => kv (if c = o then k else y c)) (fun c _ => by unfold upd; by_cases e : c = o <;> simp [e])] at h1
  have ih := own_copied ks (o + 1) _ _ h1
  rw [vals_congr (W := fun c => kv (if o ≤ c ∧ c < o + (k :: ks).length then ((k :: ks)[c - o]?).getD 0 else y c)) (fun c _ => by
   congr 1
   by_cases e1 : c = o
   ·subst e1
    rw [if_neg (by omega), if_pos rfl, if_pos (by simp)]; simp
   ·by_cases e2 : o + 1 ≤ c ∧ c < o + 1 + ks.length
    ·rw [if_pos e2, if_pos (by simp; omega), show c - o = (c - (o + 1)) + 1 by omega]; rfl
    ·rw [if_neg e2, if_neg e1, if_neg (by simp; omega)])] at ih
  exact ih
theorem own_laid {B : Nat} {w : World} {g N Q : Nat} {y : Nat → K} (h : w.ownsRow B 5 1 (.slice (some ⟨g, 0, none⟩) N Q) N (vals N fun c => kv (y c))) (o n : Nat) (x : Nat → K) :
  (w.setCells g o (valN n fun j => (x j).val)).ownsRow B 5 1 (.slice (some ⟨g, 0, none⟩) N Q) N (vals N fun c => kv (if o ≤ c ∧ c < o + n then x (c - o) else y c)) := by
 rw [← ksOf_vals]
 have h1 := own_copied (ksOf n x) o w y h
 have hl : (ksOf n x).length = n := by simp [ksOf]
 rw [vals_congr (W := fun c => kv (if o ≤ c ∧ c < o + n then x (c - o) else y c)) (fun c _ => by
  congr 1
  rw [hl]
  by_cases e : o ≤ c ∧ c < o + n
  ·rw [if_pos e, if_pos e, ksOf_get n x (c - o) (by omega)]
  ·rw [if_neg e, if_neg e])] at h1
 exact h1
end Go.Proofs.YtdohmokhfajjpaaGreatDoor.U
