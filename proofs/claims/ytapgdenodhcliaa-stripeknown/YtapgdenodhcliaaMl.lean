/- Contracts of parity and Code of package matrix: the code of k and m lies in new memory, or the error's number is told; what was there is as it was. -/
import Derived.Test.YtapgdenodhcliaaMk
namespace Go.Proofs.Ytapgdenodhcliaa
open Go.RowKit

/-- The code of k, row by row. -/
def codeX (k : Nat) (r c : Nat) : K := if r < k then on r c else K.iv (kb r + kb c)

theorem conv_u8 (a : Nat) (h : a < 256) : ((a : Nat) : Int) = (((kb a).val : Nat) : Int) := by rw [kb_val a h]

set_option maxRecDepth 100000 in
set_option maxHeartbeats 1000000 in
theorem parity_any (k i : Nat) (w : World) (h0 : 1 ≤ k) (h : k + i ≤ 32) :
    Calls Try.prog 54 #[.int .i64 k, .int .i64 i] w fun e w' => e = .returned (.slice (some ⟨w.heap.size, 0, none⟩) k k) ∧ w'.ownsRow w.heap.size 5 1 (.slice (some ⟨w.heap.size, 0, none⟩) k k) k (vals k fun j => kv (codeX k (k + i) j)) ∧ Below w.heap.size w w' := by
  have hmk := run_make_u8 k (by omega) w
  have H0 := hid (own_made w 5 (.int .u8 0) k w.heap.size (by omega) (Nat.le_refl _))
  go_enter Try.func54, Try.ntmps54
  go_wp2
  clear hmk
  go_loopw [11] (fun x wr => ∃ j : Nat, j ≤ k ∧ x = .int .i64 j ∧ wr.ownsRow w.heap.size 5 1 (.slice (some ⟨w.heap.size, 0, none⟩) k k) k (vals k fun c => if c < j then kv (codeX k (k + i) c) else .int .u8 0) ∧ Below w.heap.size w wr) (fun x _ => (k - intOf x).toNat)
  case atStart => exact ⟨0, by omega, rfl, by simpa using H0.out, (Below.refl _ _).alloc (Nat.le_refl _) _⟩
  case round =>
    clear H0
    obtain ⟨j, hj, rfl, ho, hb⟩ := hrel
    by_cases hlt : j < k
    · have c1 : wr.cell? ⟨w.heap.size, j, none⟩ = some (.int .u8 0) := by rw [own_cell ho j hlt]; simp
      have c2 := ho.frozenAt j
      have hx : k + i ^^^ j < 256 := Gf.xor_lt _ _ (by omega) (by omega)
      have HV : Hid (invV (k + i ^^^ j) = (((codeX k (k + i) j).val : Nat) : Int)) := by
        unfold codeX; rw [if_neg (by omega)]
        have := invV_k (kb (k + i) + kb j)
        rw [K.val_add, kb_val _ (by omega), kb_val _ (by omega)] at this
        exact this
      have HO : Hid ((wr.setCell ⟨w.heap.size, j, none⟩ (kv (codeX k (k + i) j))).ownsRow w.heap.size 5 1 (.slice (some ⟨w.heap.size, 0, none⟩) k k) k (vals k fun c => if c < j + 1 then kv (codeX k (k + i) c) else .int .u8 0)) := by
        have := (ho.stored j (kv (codeX k (k + i) j))).1
        rw [vals_set] at this
        rwa [vals_congr (W := fun c => if c < j + 1 then kv (codeX k (k + i) c) else .int .u8 0) (fun c _ => by
          unfold upd
          by_cases e : c = j
          · subst e; simp
          · by_cases q : c < j
            · simp [e, q, show c < j + 1 by omega]
            · simp [e, q, show ¬ c < j + 1 by omega])] at this
      have HB := hid (hb.setCell (p := ⟨w.heap.size, j, none⟩) (Nat.le_refl _) (kv (codeX k (k + i) j)))
      clear ho hb
      go_wp2_with (first | (go_at_call 67; refine (add_any _ _ _ (by omega) (by omega) (by omega) (by omega)).mono ?_; rintro e w' ⟨rfl, rfl⟩; rw [show ((k : Int) + (i : Int)).toNat = k + i by omega, show ((j : Int)).toNat = j by omega]) | (go_at_call 66; refine (inv_any _ _ (by omega) (by omega)).mono ?_; rintro e w' ⟨rfl, rfl⟩))
      go_roundw
      case rel => exact ⟨j + 1, by omega, by go_num, by rw [HV.out]; exact HO.out, by rw [HV.out]; exact HB.out⟩
      case measure => simp [intOf]; omega
    · have e : j = k := by omega
      subst e
      have HO : Hid (wr.ownsRow w.heap.size 5 1 (.slice (some ⟨w.heap.size, 0, none⟩) j j) j (vals j fun c => kv (codeX j (j + i) c))) := by
        rwa [vals_congr (W := fun c => kv (codeX j (j + i) c)) (fun c hc => by simp [hc])] at ho
      have HB := hid hb
      clear ho hb
      go_wp2
      go_ret
      exact ⟨rfl, HO.out, HB.out⟩

/-- A row more, by append. -/
theorem OwnMat.push {B : Nat} {w w1 w4 : World} {g c n m gg cap : Nat} {G Q : Nat → Nat} {X : Nat → Nat → K} {o : Obj} (h : OwnMat B w g c n m G Q X) (hb : Below w.heap.size w w1) (g1 c1 : Nat) (hg1 : w.heap.size ≤ g1)
    (hr : w1.ownsRow B 5 1 (.slice (some ⟨g1, 0, none⟩) m c1) m (vals m fun j => kv (X n j))) (hgrow : (w1.alloc o).grownBy w4 (some g)) (hown : w4.ownsRow B 22 1 (.slice (some ⟨gg, 0, none⟩) (n + 1) cap) (n + 1) (vals n (fun i => rv (G i) m (Q i)) ++ [rv g1 m c1])) :
    OwnMat B w4 gg cap (n + 1) m (upd G n g1) (upd Q n c1) X where
  top := by
    have e : vals n (fun i => rv (G i) m (Q i)) ++ [rv g1 m c1] = vals (n + 1) fun i => rv (upd G n g1 i) m (upd Q n c1 i) := by
      rw [vals_succ]
      congr 1
      · refine vals_congr (fun i hi => ?_)
        unfold upd; rw [if_neg (by omega), if_neg (by omega)]
      · unfold upd; rw [if_pos rfl, if_pos rfl]
    rw [e] at hown; exact hown
  row := fun i hi => by
    have hk : ∀ b cr mr ys, w1.ownsRow B 5 1 (.slice (some ⟨b, 0, none⟩) mr cr) mr ys → w4.ownsRow B 5 1 (.slice (some ⟨b, 0, none⟩) mr cr) mr ys := fun b cr mr ys hh => by
      have ht := own_keep h.top (hb.block g (own_ge h.top).2)
      have hne : g ≠ b := own_apart ht hh (by decide)
      have h2 := hh.alloc o
      exact own_keep h2 (hgrow.block b (own_ge h2).2 (fun q => hne (by cases q; rfl)))
    by_cases e : i = n
    · subst e
      simp only [upd, if_true]
      exact hk _ _ _ _ hr
    · simp only [upd, if_neg e]
      exact hk _ _ _ _ (own_keep (h.row i (by omega)) (hb.block _ (h.ge i (by omega)).2))
  inj := fun i j hi hj q => by
    unfold upd at q
    by_cases e1 : i = n
    · by_cases e2 : j = n
      · omega
      · rw [if_pos e1, if_neg e2] at q; have := (h.ge j (by omega)).2; omega
    · by_cases e2 : j = n
      · rw [if_neg e1, if_pos e2] at q; have := (h.ge i (by omega)).2; omega
      · rw [if_neg e1, if_neg e2] at q; exact h.inj i j (by omega) (by omega) q

set_option maxHeartbeats 400000 in
theorem code_err (k m : Int) (w : World) (hk : -9223372036854775808 ≤ k) (hk' : k ≤ 9223372036854775807) (hm : -9223372036854775808 ≤ m) (hm' : m ≤ 9223372036854775807) (h : k < 1 ∨ m < 1 ∨ 16 < k + m) :
    Calls Try.prog 34 #[.int .i64 k, .int .i64 m] w fun e w' => e = .returned (.tuple #[.slice none 0 0, .int .i64 5]) ∧ w' = w := by
  by_cases h1 : k < 1
  · go_enter Try.func34, Try.ntmps34
    go_wp2
    go_ret2
    exact ⟨rfl, rfl⟩
  · by_cases h2 : m < 1
    · go_enter Try.func34, Try.ntmps34
      go_wp2
      go_ret2
      exact ⟨rfl, rfl⟩
    · have h3 : 16 - m < k := by omega
      go_enter Try.func34, Try.ntmps34
      go_wp2
      go_ret2
      exact ⟨rfl, rfl⟩

set_option maxRecDepth 100000 in
set_option maxHeartbeats 4000000 in
theorem code_any (k m : Nat) (w : World) (h0 : 1 ≤ k) (h1 : 1 ≤ m) (h : k + m ≤ 16) :
    Calls Try.prog 34 #[.int .i64 k, .int .i64 m] w fun e w' => ∃ g c G Q, e = .returned (.tuple #[.slice (some ⟨g, 0, none⟩) (k + m) c, .int .i64 0]) ∧ OwnMat w.heap.size w' g c (k + m) k G Q (codeX k) ∧ Below w.heap.size w w' := by
  obtain ⟨i0, hi0, hz0, hz1, hz2⟩ := info_parts Try.info22
  go_enter Try.func34, Try.ntmps34
  go_wp2_with fail
  refine (one_any k w h0 (by omega)).mono ?_
  rintro e w1 ⟨g, G, rfl, hm, hb⟩
  have HM := hid (hm.congr (Y := codeX k) (fun i hi j _ => by unfold codeX; rw [if_pos hi]))
  have HB := hid hb
  clear hm hb
  go_wp2_with fail
  go_loopw [6, 27] (fun v x wr => ∃ i g c : Nat, ∃ G Q : Nat → Nat, i ≤ m ∧ x = .int .i64 i ∧ v = .slice (some ⟨g, 0, none⟩) (k + i) c ∧ OwnMat w.heap.size wr g c (k + i) k G Q (codeX k) ∧ Below w.heap.size w wr) (fun _ x _ => (m - intOf x).toNat)
  case atStart => exact ⟨0, g, k, G, _, by omega, rfl, rfl, HM.out, HB.out⟩
  case round =>
    clear HM HB
    obtain ⟨i, g, c, G, Q, hi, rfl, rfl, hm, hb⟩ := hrel
    by_cases hlt : i < m
    · have HM := hid hm
      have HB := hid hb
      clear hm hb
      go_wp2_with fail
      refine (parity_any k i wr h0 (by omega)).mono ?_
      rintro e w2 ⟨rfl, hr2, hb2⟩
      have hsz := HB.out.size
      have hg := (own_ge HM.out.top).2
      have hsz2 := hb2.size
      have HR2 := hid (own_base hr2 hsz)
      have HB2 := hid hb2
      have HT := hid (own_keep HM.out.top (hb2.block g hg))
      have HN : Hid (∀ q u, [rv wr.heap.size k k][q]? = some u → (w2.alloc (.cells #[rv wr.heap.size k k] 22)).cell? ((⟨w2.heap.size, 0, none⟩ : Addr).add q) = some u) :=
        World.news_of_block (cs := #[rv wr.heap.size k k]) (t := 22) (fr := (0, 0)) (heap_alloc_new _ _)
      clear hr2 hb2
      go_wp2_with (at_builtin; refine wpList_append_lies _ rfl _ _ 24 rfl w.heap.size 22 i0 (.slice none 0 0) 1 24 Try.underlying24 hi0 hz0 hz1 hz2 rfl (by omega) (.slice (some ⟨g, 0, none⟩) (k + i) c) (k + i) (vals (k + i) fun i => rv (G i) k (Q i)) rfl (HT.out.alloc _) ⟨w2.heap.size, 0, none⟩ 1 1 [rv wr.heap.size k k] rfl rfl HN.out (by intro u hu; simp at hu; subst hu; rfl) (by omega) (by unfold maxLen; omega) (by omega) (by simp; omega) _ rfl ?_; intro gg cap w4 hown4 hgrow hat hlt4)
      have HX := hid (HM.out.push HB2.out wr.heap.size k (Nat.le_refl _) HR2.out hgrow hown4)
      have HBX : Hid (Below w.heap.size w w4) := Below.grown ((HB.out.trans (HB2.out.mono hsz)).alloc (by omega) _) hgrow (by simp; omega) (fun b hb => by
        have := (own_ge HM.out.top).1
        cases hb; exact this)
      clear hown4 hgrow hat hlt4 HN HT HM HB HB2 HR2
      go_wp2
      go_roundw
      case rel => exact ⟨i + 1, gg, cap, _, _, by omega, by go_num, rfl, HX.out, HBX.out⟩
      case measure => simp [intOf]; omega
    · have e : i = m := by omega
      subst e
      have HM := hid hm
      have HB := hid hb
      clear hm hb
      go_wp2
      go_ret2
      exact ⟨g, c, G, Q, rfl, HM.out, HB.out⟩
end Go.Proofs.Ytapgdenodhcliaa
