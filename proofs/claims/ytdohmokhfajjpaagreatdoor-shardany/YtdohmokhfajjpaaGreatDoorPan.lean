/- Texts laid into one, cut to what is needed: the remark ahead of each part says what is proved there. -/
import Derived.Test.YtdohmokhfajjpaaGreatDoorPam
import Derived.Test.YtdohmokhfajjpaaGreatDoorPai
import Derived.Test.YtdohmokhfajjpaaGreatDoorPal
import Derived.Test.YtdohmokhfajjpaaGreatDoorPab
import Derived.Test.YtdohmokhfajjpaaGreatDoorPae
import Derived.Test.YtdohmokhfajjpaaGreatDoorPaf
/- Contracts of match, take and all of package stripe: what is wrong with shards; which are the first k that are there; what was there is as it was. -/
namespace Go.Proofs.YtdohmokhfajjpaaGreatDoor.U
open Go.RowKit

/-- A list of bools as it lies in memory. -/
def BoolsAt (w : World) (p : Option Addr) (n : Nat) (H : Nat → Bool) : Prop := n = 0 ∨ ∃ b o, p = some ⟨b, o, none⟩ ∧ ∀ i, i < n → w.cell? ⟨b, o + i, none⟩ = some (.bool (H i))
theorem BoolsAt.keep {w w' : World} {p : Option Addr} {n : Nat} {H : Nat → Bool} (h : BoolsAt w p n H) (k : Stays w w') : BoolsAt w' p n H := by
 rcases h with h | ⟨b, o, h, hc⟩
 ·exact .inl h
 ·exact .inr ⟨b, o, h, fun i hi => k _ _ (hc i hi)⟩
theorem BoolsAt.pos {w : World} {p : Option Addr} {n : Nat} {H : Nat → Bool} (h : BoolsAt w p n H) (hn : 0 < n) : ∃ b o, p = some ⟨b, o, none⟩ ∧ ∀ i, i < n → w.cell? ⟨b, o + i, none⟩ = some (.bool (H i)) := by
 rcases h with h | h
 ·omega
 ·exact h

set_option maxRecDepth 100000 in
set_option maxHeartbeats 2000000 in
theorem match_any3 (p q : Option Addr) (n cs ch : Nat) (A : Nat → Option Addr) (L C : Nat → Nat) (H : Nat → Bool) (z : Int) (w : World) (hn : n ≤ 1000) (hz : -1 ≤ z) (h : TopAt w p n A L C) (hH : BoolsAt w q n H) :
  Calls Tryz.prog 79 #[.slice p n cs, .slice q n ch, .int .i64 n, .int .i64 z] w fun e w' => e = .returned (.int .i64 (errMt n n n H L z)) ∧ w' = w := by
 have hne : ((n : Int) != (n : Int)) = false := by simp
 have HT := hid h
 have HH := hid hH
 clear h hH
 go_enter Tryz.func79, Tryz.ntmps79
 go_wp2
 go_loop [25] (fun i => ∃ r : Nat, r ≤ n ∧ i = .int .i64 r ∧ ∀ j, j < r → H j = true → L j ≤ 65536) (fun i => (n - intOf i).toNat)
 case atStart => exact ⟨0, by omega, rfl, fun j hj => absurd hj (by omega)⟩
 case round =>
  obtain ⟨r, hr, rfl, hs⟩ := hrel
  by_cases hlt : r < n
  ·obtain ⟨b, o, rfl, hc⟩ := HT.out.pos (by omega)
   obtain ⟨b', o', rfl, hc'⟩ := HH.out.pos (by omega)
   have c1 := hc r hlt
   have c2 := hc' r hlt
   clear hc hc' HT HH
   cases hq : H r with
   | false =>
    rw [hq] at c2
    have HS : Hid (∀ j, j < r + 1 → H j = true → L j ≤ 65536) := fun j hj hj2 => by
     by_cases e : j = r
     ·subst e; rw [hq] at hj2; cases hj2
     ·exact hs j (by omega) hj2
    clear hs
    go_wp2
    go_round
    case rel => exact ⟨r + 1, by omega, by go_num, HS.out⟩
    case measure => simp [intOf]; omega
   | true =>
    rw [hq] at c2
    by_cases hb : 65536 < L r
    ·have HE : Hid (errMt n n n H L z = 3) := by
       show errMt n n n H L z = 3
       unfold errMt; rw [if_neg (by omega), anyLong_true r hlt hq hb, if_pos rfl]
     clear hs
     go_wp2
     go_ret
     exact ⟨ret_int HE.out.symm, rfl⟩
    ·have HS : Hid (∀ j, j < r + 1 → H j = true → L j ≤ 65536) := fun j hj hj2 => by
       by_cases e : j = r
       ·subst e; omega
       ·exact hs j (by omega) hj2
     clear hs
     go_wp2
     go_round
     case rel => exact ⟨r + 1, by omega, by go_num, HS.out⟩
     case measure => simp [intOf]; omega
  ·have HL : Hid (anyLong n H L = false) := anyLong_false (fun i hi => hs i (by omega))
   clear hs
   go_wp2_with fail
   go_loop [3, 42] (fun v i => ∃ r : Nat, r ≤ n ∧ i = .int .i64 r ∧ v = .int .i64 (lenSt H L z r) ∧ ∀ j, j < r → H j = true → (L j : Int) = lenSt H L z (j + 1)) (fun _ i => (n - intOf i).toNat)
   case atStart => exact ⟨0, by omega, rfl, rfl, fun j hj => absurd hj (by omega)⟩
   case round =>
    clear hlt hr
    obtain ⟨r, hr, rfl, rfl, hs⟩ := hrel
    by_cases hlt : r < n
    ·obtain ⟨b, o, rfl, hc⟩ := HT.out.pos (by omega)
     obtain ⟨b', o', rfl, hc'⟩ := HH.out.pos (by omega)
     have c1 := hc r hlt
     have c2 := hc' r hlt
     clear hc hc' HT HH
     cases hq : H r with
     | false =>
      rw [hq] at c2
      have HS : Hid (∀ j, j < r + 1 → H j = true → (L j : Int) = lenSt H L z (j + 1)) := fun j hj hj2 => by
       by_cases e : j = r
       ·subst e; rw [hq] at hj2; cases hj2
       ·exact hs j (by omega) hj2
      have HV : Hid (lenSt H L z (r + 1) = lenSt H L z r) := by
       show lenSt H L z (r + 1) = lenSt H L z r
       rw [lenSt_succ, if_neg (fun e => by rw [hq] at e; exact absurd e.1 (by decide))]
      clear hs
      go_wp2
      go_round
      case rel => exact ⟨r + 1, by omega, by go_num, by rw [HV.out], HS.out⟩
      case measure => simp [intOf]; omega
     | true =>
      rw [hq] at c2
      have hlo := lenSt_lo (H := H) (L := L) hz r
      by_cases hneg : lenSt H L z r = -1
      ·have HV : Hid (lenSt H L z (r + 1) = (L r : Int)) := by
         show lenSt H L z (r + 1) = (L r : Int)
         rw [lenSt_succ, if_pos ⟨hq, by omega⟩]
       have HS : Hid (∀ j, j < r + 1 → H j = true → (L j : Int) = lenSt H L z (j + 1)) := fun j hj hj2 => by
        by_cases e : j = r
        ·subst e; exact HV.out.symm
        ·exact hs j (by omega) hj2
       have e1 : (lenSt H L z r == -1) = true := by simpa using hneg
       have e2 : (((L r : Nat) : Int) != ((L r : Nat) : Int)) = false := by simp
       clear hs hneg hlo
       go_wp2
       go_round
       case rel => exact ⟨r + 1, by omega, by go_num, by rw [HV.out], HS.out⟩
       case measure => simp [intOf]; omega
      ·have HV : Hid (lenSt H L z (r + 1) = lenSt H L z r) := by
         show lenSt H L z (r + 1) = lenSt H L z r
         rw [lenSt_succ, if_neg (by omega)]
       have e1 : (lenSt H L z r == -1) = false := by simpa using hneg
       by_cases hb : (L r : Int) = lenSt H L z r
       ·have HS : Hid (∀ j, j < r + 1 → H j = true → (L j : Int) = lenSt H L z (j + 1)) := fun j hj hj2 => by
          by_cases e : j = r
          ·subst e; rw [HV.out]; exact hb
          ·exact hs j (by omega) hj2
        have e2 : (((L r : Nat) : Int) != lenSt H L z r) = false := by simpa using hb
        clear hs hneg hlo hb
        go_wp2
        go_round
        case rel => exact ⟨r + 1, by omega, by go_num, by rw [HV.out], HS.out⟩
        case measure => simp [intOf]; omega
       ·have HE : Hid (errMt n n n H L z = 2) := by
          show errMt n n n H L z = 2
          unfold errMt; rw [if_neg (by omega), HL.out, if_neg (by decide), anyOdd_true r hlt hq (by rw [HV.out]; exact hb), if_pos rfl]
        have e2 : (((L r : Nat) : Int) != lenSt H L z r) = true := by simpa using hb
        clear hs hneg hlo hb
        go_wp2
        go_ret
        exact ⟨ret_int HE.out.symm, rfl⟩
    ·have HE : Hid (errMt n n n H L z = 0) := by
       show errMt n n n H L z = 0
       unfold errMt; rw [if_neg (by omega), HL.out, if_neg (by decide), anyOdd_false (fun i hi q => hs i (by omega) q), if_neg (by decide)]
     clear hs
     go_wp2
     go_ret
     exact ⟨ret_int HE.out.symm, rfl⟩
set_option maxRecDepth 100000 in
set_option maxHeartbeats 1000000 in
theorem matchS_any (p q : Option Addr) (ns cs nh ch n : Nat) (A : Nat → Option Addr) (L C : Nat → Nat) (H : Nat → Bool) (z : Int) (w : World) (hn : n ≤ 1000) (hz : -1 ≤ z) (h : TopAt w p ns A L C) (hH : BoolsAt w q nh H) :
  Calls Tryz.prog 79 #[.slice p ns cs, .slice q nh ch, .int .i64 n, .int .i64 z] w fun e w' => e = .returned (.int .i64 (errMt ns nh n H L z)) ∧ w' = w := by
 by_cases h1 : ns = n
 ·by_cases h2 : nh = n
  ·subst h1; subst h2
   exact match_any3 p q _ cs ch A L C H z w hn hz h hH
  ·have HE : Hid (errMt ns nh n H L z = 2) := by
     show errMt ns nh n H L z = 2
     unfold errMt; rw [if_pos (.inr h2)]
   have e1 : ((ns : Int) != (n : Int)) = false := by simp; omega
   have e2 : ((nh : Int) != (n : Int)) = true := by simp; omega
   clear h1 h2 h hH
   go_enter Tryz.func79, Tryz.ntmps79
   go_wp2
   go_ret
   exact ⟨ret_int HE.out.symm, rfl⟩
 ·have HE : Hid (errMt ns nh n H L z = 2) := by
    show errMt ns nh n H L z = 2
    unfold errMt; rw [if_pos (.inl h1)]
  have e1 : ((ns : Int) != (n : Int)) = true := by simp; omega
  clear h1 h hH
  go_enter Tryz.func79, Tryz.ntmps79
  go_wp2
  go_ret
  exact ⟨ret_int HE.out.symm, rfl⟩

set_option maxRecDepth 100000 in
set_option maxHeartbeats 4000000 in
theorem take_any3 (q : Option Addr) (n ch k : Nat) (H : Nat → Bool) (w : World) (hn : n ≤ 1000) (hk : k ≤ 1000) (hH : BoolsAt w q n H) :
  Calls Tryz.prog 92 #[.slice q n ch, .int .i64 k] w fun e w' => ∃ v, e = .returned v ∧ w'.ownsRow w.heap.size 3 1 v (tk H k n).length (pivV (tk H k n)) ∧ Below w.heap.size w w' := by
 obtain ⟨i0, hi0, hz0, hz1, hz2⟩ := info_parts Tryz.info3
 have HH := hid hH
 clear hH
 go_enter Tryz.func92, Tryz.ntmps92
 go_wp2_with fail
 go_step3
 go_wp2_with fail
 go_step3
 go_wp2_with fail
 go_loopg [5, 10] n (fun gk v i wr => ∃ r : Nat, r ≤ n ∧ gk = n - r ∧ i = .int .i64 r ∧ wr.ownsRow w.heap.size 3 1 v (tk H k r).length (pivV (tk H k r)) ∧ Below w.heap.size w wr)
 case atStart => exact ⟨0, by omega, rfl, rfl, World.ownsRow_nil _ _ _ _, Below.refl _ _⟩
 case round =>
  obtain ⟨r, hr, hgk, rfl, hv, hb⟩ := hrel
  have HG := hid hgk
  have hlen := tk_len H k r
  have hcn := cn_le H r
  obtain ⟨pv, cv, rfl, _⟩ := own_len hv
  clear hgk
  by_cases hlt : r < n
  ·obtain ⟨b, o, rfl, hc⟩ := HH.out.pos (by omega)
   have c1 := Stays.of_below hb _ _ (hc r hlt)
   have HV := hid hv
   have HB := hid hb
   have hsz := hb.size
   clear hv hb hc HH
   by_cases hf : (tk H k r).length = k
   ·have hf' : ((((tk H k r).length : Nat) : Int) == (k : Int)) = true := by simp; omega
    have HE := hid (tk_end hf (n := n) (by omega))
    clear hf hlen hcn
    go_wp2
    rw [Exit.noGoto_ret]
    go_ret
    exact ⟨_, rfl, by rw [HE.out]; exact HV.out, HB.out⟩
   ·have hf' : ((((tk H k r).length : Nat) : Int) == (k : Int)) = false := by simp; omega
    cases hq : H r with
    | false =>
     rw [hq] at c1
     have HT := hid (tk_off (k := k) hq)
     clear hf hlen hcn
     go_wp2
     go_roundg (n - (r + 1))
     case measure => have := HG.out; omega
     case rel => exact ⟨r + 1, by omega, rfl, by go_num, by rw [HT.out]; exact HV.out, HB.out⟩
    | true =>
     rw [hq] at c1
     have HT := hid (tk_on (H := H) (k := k) (i := r) (by omega) hq)
     have HN : Hid (∀ q u, [Value.int .i64 ((r : Nat) : Int)][q]? = some u → (wr.alloc (.cells #[.int .i64 ((r : Nat) : Int)] 3)).cell? ((⟨wr.heap.size, 0, none⟩ : Addr).add q) = some u) :=
      World.news_of_block (cs := #[.int .i64 ((r : Nat) : Int)]) (t := 3) (fr := (0, 0)) (heap_alloc_new _ _)
     have hll : (tk H k r).length ≤ 1000 := by omega
     clear hf hlen hcn
     go_wp2_with (at_builtin; refine wpList_append_lies _ rfl _ _ 30 rfl w.heap.size 3 i0 (.int .i64 0) 1 8 Tryz.underlying30 hi0 hz0 hz1 hz2 rfl (by omega) (.slice pv (tk H k r).length cv) (tk H k r).length (pivV (tk H k r)) rfl (HV.out.alloc _) ⟨wr.heap.size, 0, none⟩ 1 1 [.int .i64 ((r : Nat) : Int)] rfl rfl HN.out (by intro u hu; simp at hu; subst hu; rfl) (by omega) (by unfold maxLen; omega) (by omega) (by simp; omega) _ rfl ?_; intro gg cap w4 hown4 hgrow hat hlt4)
     have HX : Hid (w4.ownsRow w.heap.size 3 1 (.slice (some ⟨gg, 0, none⟩) ((tk H k r).length + 1) cap) ((tk H k r).length + 1) (pivV (tk H k r ++ [r]))) := by
      rw [pivV_append]; exact hown4
     have HBX : Hid (Below w.heap.size w w4) := Below.grown (HB.out.alloc hsz _) hgrow (by simp; omega) (fun b hb => (HV.out.lt b hb).1)
     clear hown4 hgrow hat hlt4 HN HV HB
     go_wp2
     go_roundg (n - (r + 1))
     case measure => have := HG.out; omega
     case rel => exact ⟨r + 1, by omega, rfl, by go_num, by rw [HT.out, List.length_append]; exact HX.out, HBX.out⟩
  ·have e : r = n := by omega
   subst e
   have HV := hid hv
   have HB := hid hb
   clear hv hb HH hlen hcn
   go_wp2
   rw [Exit.noGoto_ret]
   go_ret
   exact ⟨_, rfl, HV.out, HB.out⟩
end Go.Proofs.YtdohmokhfajjpaaGreatDoor.U

/- Contracts of bytes.Equal and slices.EqualFunc over rows of one length, and of all and joined of package stripe: whether rows read alike; shards laid one behind the other in new memory; what was there is as it was. -/
namespace Go.Proofs.YtdohmokhfajjpaaGreatDoor.U
open Go.RowKit

/-- A list of bools that the call has made. -/
def OwnB (B : Nat) (w : World) (g n : Nat) (H : Nat → Bool) : Prop := w.ownsRow B 4 1 (.slice (some ⟨g, 0, none⟩) n n) n (vals n fun j => .bool (H j))
theorem OwnB.at {B : Nat} {w : World} {g n : Nat} {H : Nat → Bool} (h : OwnB B w g n H) : BoolsAt w (some ⟨g, 0, none⟩) n H := .inr ⟨g, 0, rfl, fun i hi => by rw [Nat.zero_add]; exact own_cell (V := fun j => .bool (H j)) h i hi⟩
theorem OwnB.set {B : Nat} {w : World} {g n : Nat} {H : Nat → Bool} (h : OwnB B w g n H) (j : Nat) (b : Bool) : OwnB B (w.setCell ⟨g, j, none⟩ (.bool b)) g n (upd H j b) := by
 have h1 := (h.stored j (.bool b)).1
 rw [vals_set, vals_congr (W := fun c => .bool (upd H j b c)) (fun c _ => by unfold upd; by_cases e : c = j <;> simp [e])] at h1
 exact h1
theorem OwnB.congr {B : Nat} {w : World} {g n : Nat} {H H' : Nat → Bool} (h : OwnB B w g n H) (e : ∀ i, i < n → H i = H' i) : OwnB B w g n H' := by
 unfold OwnB at h
 rwa [vals_congr (W := fun j => .bool (H' j)) (fun j hj => by rw [e j hj])] at h

/-- Shards one behind the other. -/
def jnd (l : Nat) (X : Nat → Nat → K) (j : Nat) : K := X (j / l) (j % l)
theorem jnd_at (l r d : Nat) (X : Nat → Nat → K) (h : d < l) : jnd l X (r * l + d) = X r d := by
 unfold jnd
 rw [Nat.mul_comm r l, Nat.mul_add_div (by omega), Nat.div_eq_of_lt h, Nat.add_zero, Nat.mul_add_mod, Nat.mod_eq_of_lt h]
theorem jnd_step (l s r : Nat) (X : Nat → Nat → K) (c : Nat) (hc : c < s) :
  (if r * l ≤ c ∧ c < r * l + min l (s - r * l) then X r (c - r * l) else if c < r * l then jnd l X c else 0) = if c < (r + 1) * l then jnd l X c else 0 := by
 rw [Nat.add_mul, Nat.one_mul]
 by_cases e : r * l ≤ c ∧ c < r * l + min l (s - r * l)
 ·rw [if_pos e, if_pos (by omega)]
  have := jnd_at l r (c - r * l) X (by omega)
  rw [show r * l + (c - r * l) = c by omega] at this
  exact this.symm
 ·rw [if_neg e]
  by_cases q : c < r * l
  ·rw [if_pos q, if_pos (by omega)]
  ·rw [if_neg q, if_neg (by omega)]

set_option maxRecDepth 100000 in
set_option maxHeartbeats 4000000 in
theorem joined_any (p : Option Addr) (k l c s : Nat) (A : Nat → Option Addr) (C : Nat → Nat) (X : Nat → Nat → K) (w : World) (hk : k ≤ 1000) (hl : l ≤ 65536) (hs : s ≤ 65536) (hsk : s ≤ k * l) (h : MatAt w p k A (fun _ => l) C X) :
  Calls Tryz.prog 81 #[.slice p k c, .int .i64 s] w fun e w' => ∃ g, e = .returned (.slice (some ⟨g, 0, none⟩) s s) ∧ w'.ownsRow w.heap.size 5 1 (.slice (some ⟨g, 0, none⟩) s s) s (vals s fun j => kv (jnd l X j)) ∧ Below w.heap.size w w' := by
 have hmk := run_make_u8 s (by omega) w
 have H0 := hid (own_made w 5 (.int .u8 0) s w.heap.size (by omega) (Nat.le_refl _))
 have H := hid h
 clear h
 go_enter Tryz.func81, Tryz.ntmps81
 go_wp2
 clear hmk
 go_loopw [6, 15] (fun v i wr => ∃ (r nr : Nat) (pr : Option Addr), r ≤ k ∧ i = .int .i64 r ∧ v = .slice pr nr nr ∧ nr = s - r * l ∧ (nr ≠ 0 → pr = some ⟨w.heap.size, r * l, none⟩) ∧ wr.ownsRow w.heap.size 5 1 (.slice (some ⟨w.heap.size, 0, none⟩) s s) s (vals s fun j => kv (if j < r * l then jnd l X j else 0)) ∧ Below w.heap.size w wr) (fun _ i _ => (k - intOf i).toNat)
 case atStart => exact ⟨0, s, some ⟨w.heap.size, 0, none⟩, by omega, rfl, rfl, by omega, fun _ => by rw [Nat.zero_mul], by
  have h1 := H0.out
  rwa [vals_congr (W := fun j => kv (if j < 0 * l then jnd l X j else 0)) (fun j _ => by rw [if_neg (by omega)]; rfl)] at h1, (Below.refl _ _).alloc (Nat.le_refl _) _⟩
 case round =>
  obtain ⟨r, nr, pr, hr, rfl, rfl, hnr, hpr, ho, hb⟩ := hrel
  clear H0
  by_cases hlt : r < k
  ·obtain ⟨b, o, rfl, hc⟩ := H.out.top.pos (by omega)
   have c1 := Stays.of_below hb _ _ (hc r hlt)
   have s1 := (H.out.row r hlt).keep (Stays.of_below hb)
   obtain ⟨W2, hcp, hrow2, hon⟩ : ∃ W2, (∀ ty, (Builtin.copy_ #[22, 22] ty #[.slice pr nr nr, .slice (A r) l (C r)]).run Tryz.prog wr = .ok (goInt ((min l nr : Nat) : Int)) W2) ∧ W2.ownsRow w.heap.size 5 1 (.slice (some ⟨w.heap.size, 0, none⟩) s s) s (vals s fun j => kv (if j < (r + 1) * l then jnd l X j else 0)) ∧ OnlyIn (fun b => b = w.heap.size) wr W2 := by
    by_cases h0 : nr = 0
    ·refine ⟨wr, fun ty => ?_, ?_, OnlyIn.refl _ _⟩
     ·rw [show min l nr = 0 by omega]
      exact run_copy_none (P := Tryz.prog) _ 22 22 ty 5 _ _ _ _ _ _ Tryz.underlying22 (by kernel_rfl) (by rw [h0]; exact Nat.min_zero _)
     ·rwa [vals_congr (W := fun j => kv (if j < (r + 1) * l then jnd l X j else 0)) (fun j hj => by rw [if_pos (by omega), if_pos (by rw [Nat.add_mul]; omega)])] at ho
    ·rw [hpr h0]
     refine ⟨wr.setCells w.heap.size (r * l) (valN (min l nr) fun j => (X r j).val), fun ty => run_copyG wr w.heap.size (r * l) nr nr (A r) l (C r) _ s1 (fun j hj => ⟨_, own_cell ho (r * l + j) (by omega)⟩) (fun j => ho.frozenAt _) ty, ?_, OnlyIn.setCells _ _ _ _ _ (OnlyIn.refl _ _)⟩
     have h2 := own_laid ho (r * l) (min l nr) (X r)
     rwa [vals_congr (W := fun j => kv (if j < (r + 1) * l then jnd l X j else 0)) (fun j hj => by rw [← jnd_step l s r X j hj, ← hnr])] at h2
   obtain ⟨p2, hsl, hp2⟩ := run_lo22 pr nr nr (min l nr) (by omega)
   have HP : Hid (nr - min l nr ≠ 0 → p2 = some ⟨w.heap.size, (r + 1) * l, none⟩) := fun h3 => by
    have h4 := hp2 _ _ (hpr (by omega)) (by omega)
    rw [h4, show min l nr = l by omega, Nat.add_mul, Nat.one_mul]
   have HN : Hid (nr - min l nr = s - (r + 1) * l) := by
    show nr - min l nr = s - (r + 1) * l
    rw [Nat.add_mul, Nat.one_mul]; omega
   have HO := hid hrow2
   have HB := hid (hon.below hb (fun b hb => by rw [hb]; exact Nat.le_refl _))
   have hmin : min l nr ≤ 65536 := by omega
   clear ho hb hc s1 hrow2 hon hp2 hpr H hnr
   go_wp2
   go_roundw
   case rel => exact ⟨r + 1, nr - min l nr, p2, by omega, by go_num, rfl, HN.out, HP.out, HO.out, HB.out⟩
   case measure => simp [intOf]; omega
  ·have e : r = k := by omega
   subst e
   have HO : Hid (wr.ownsRow w.heap.size 5 1 (.slice (some ⟨w.heap.size, 0, none⟩) s s) s (vals s fun j => kv (jnd l X j))) := by
    show wr.ownsRow w.heap.size 5 1 (.slice (some ⟨w.heap.size, 0, none⟩) s s) s (vals s fun j => kv (jnd l X j))
    rwa [vals_congr (W := fun j => kv (jnd l X j)) (fun j hj => by rw [if_pos (by omega)])] at ho
   have HB := hid hb
   clear ho hb H hnr hpr
   go_wp2
   go_ret
   exact ⟨_, rfl, HO.out, HB.out⟩
end Go.Proofs.YtdohmokhfajjpaaGreatDoor.U

/- Contract of remake of package stripe: out of the first k shards that are there those of some rows of the code are made, in new memory; if fewer are there the error's number is told; what was there is as it was. -/
namespace Go.Proofs.YtdohmokhfajjpaaGreatDoor.U
open Go.RowKit

/-- The inverse, as the sweep tells it. -/
def ivm (n : Nat) (A : Nat → Nat → K) : Nat → Nat → K := fun a b => match (List.range n).find? (fun i => piv (sw A n n) i == a) with
 | some i => (sw A n n).T i (piv (sw A n n) b)
 | none => 0
theorem ivm_ord {n : Nat} {A : Nat → Nat → K} (hr : (sw A n n).l.length = n) : IsOrd (sw A n n) n (ivm n A) := fun i hi b _ => by
 have h1 : ((List.range n).find? (fun r => piv (sw A n n) r == piv (sw A n n) i)).isSome = true := by
  rw [List.find?_isSome]; exact ⟨i, by simpa using hi, by simp⟩
 obtain ⟨r, hf⟩ := Option.isSome_iff_exists.1 h1
 have h2 : piv (sw A n n) r = piv (sw A n n) i := by simpa using List.find?_some hf
 have h3 : r < n := by simpa using List.mem_of_find?_eq_some hf
 have h4 := full_inj hr r i h3 hi h2
 subst h4
 unfold ivm
 rw [hf]
theorem ivm_left {n : Nat} {A : Nat → Nat → K} (hr : (sw A n n).l.length = n) : ∀ i, i < n → ∀ j, j < n → pr n (ivm n A) A i j = on i j := fun i hi j hj => full_left hr (ivm_ord hr) i j hi hj
theorem ivm_eq {n : Nat} {A Y : Nat → Nat → K} (hr : (sw A n n).l.length = n) (h1 : ∀ i, i < n → ∀ j, j < n → pr n Y A i j = on i j) (i j : Nat) (hi : i < n) (hj : j < n) : Y i j = ivm n A i j :=
 inv_one h1 (fun i hi j hj => full_right hr (ivm_ord hr) i j hi hj) i j hi hj
/-- All shards, made of the first k that are there. -/
def mdd (k N : Nat) (H : Nat → Bool) (S : Nat → Nat → K) : Nat → Nat → K := pr k (pr k (codeX k) (ivm k fun i c => codeX k (pl (tk H k N) i) c)) (fun i j => S (pl (tk H k N) i) j)
/-- The rows that are taken are independent. -/
theorem tk_rank (k N : Nat) (H : Nat → Bool) (hk : k ≤ 16) (hN : N ≤ 256) (hc : k ≤ cn H N) : (sw (fun i c => codeX k (pl (tk H k N) i) c) k k).l.length = k := by
 have hl : (tk H k N).length = k := by rw [tk_len]; omega
 exact indep_full (code_indep k (fun i => pl (tk H k N) i) (codeX k) (fun _ _ => rfl) hk (fun i hi => by have := (tk_get H k N i (by omega)).1; show pl (tk H k N) i < 256; unfold pl; omega) (fun a b ha hb e => tk_inj H k N a b (by omega) (by omega) e)) k (Nat.le_refl _)
theorem tk_lt {k N : Nat} {H : Nat → Bool} (hc : k ≤ cn H N) (i : Nat) (hi : i < k) : pl (tk H k N) i < N ∧ H (pl (tk H k N) i) = true := by
 have hl : (tk H k N).length = k := by rw [tk_len]; omega
 exact tk_get H k N i (by omega)
theorem tk_left (k N : Nat) (H : Nat → Bool) (hk : k ≤ 16) (hN : N ≤ 256) (hc : k ≤ cn H N) : ∀ i, i < k → ∀ j, j < k → pr k (ivm k fun i c => codeX k (pl (tk H k N) i) c) (fun i c => codeX k (pl (tk H k N) i) c) i j = on i j :=
 ivm_left (tk_rank k N H hk hN hc)

set_option maxRecDepth 100000 in
set_option maxHeartbeats 8000000 in
theorem remake_any (pR pC pS pH : Option Addr) (nr k m l cR cC cS cH : Nat) (AR AC AS : Nat → Option Addr) (CR CC L CS : Nat → Nat) (S : Nat → Nat → K) (H : Nat → Bool) (w : World)
  (hR : MatAt w pR nr AR (fun _ => k) CR (codeX k)) (hC : MatAt w pC (k + m) AC (fun _ => k) CC (codeX k)) (hS : MatAt w pS (k + m) AS L CS S) (hH : BoolsAt w pH (k + m) H) (h0 : 1 ≤ k) (h : k + m ≤ 16) (hnr : 1 ≤ nr) (hnr2 : nr ≤ 32)
  (hl : l ≤ 65536) (hL : ∀ i, i < k + m → H i = true → L i = l) :
  Calls Tryz.prog 80 #[.slice pR nr cR, .slice pC (k + m) cC, .slice pS (k + m) cS, .slice pH (k + m) cH] w fun e w' => Below w.heap.size w w' ∧ ((cn H (k + m) < k ∧ e = .returned (.tuple #[.slice none 0 0, .int .i64 10])) ∨
   (k ≤ cn H (k + m) ∧ ∃ g G, e = .returned (.tuple #[.slice (some ⟨g, 0, none⟩) nr nr, .int .i64 0]) ∧ OwnMat w.heap.size w' g nr nr l G (fun _ => l) (mdd k (k + m) H S))) := by
 obtain ⟨bC, oC, rfl, hcC⟩ := hC.top.pos (by omega)
 have c0 := hcC 0 (by omega)
 rw [Nat.add_zero] at c0
 have RR := hid hR
 have RC := hid hC
 have RS := hid hS
 have HL := hid hL
 have hlen := tk_len H k (k + m)
 have hkm : k + m ≤ 1000 := by omega
 clear hcC hR hC hS hL
 go_enter Tryz.func80, Tryz.ntmps80
 go_wp2_with fail
 refine (take_any3 pH (k + m) cH k H w hkm (by omega) hH).mono ?_
 rintro e w1 ⟨v, rfl, hv, hb1⟩
 obtain ⟨pv, cv, rfl, _⟩ := own_len hv
 have HV := hid hv
 have B1 := hid hb1
 clear hv hb1 hH
 by_cases hc : cn H (k + m) < k
 ·have hlt : (tk H k (k + m)).length < k := by omega
  clear hlen
  go_wp2
  go_ret2
  exact ⟨B1.out, .inl ⟨hc, rfl⟩⟩
 ·have hlk : (tk H k (k + m)).length = k := by omega
  have hge : k ≤ cn H (k + m) := by omega
  obtain ⟨gv, cv', hform, _, hgv⟩ := HV.out.form (by omega)
  cases hform
  have TL : Hid (∀ i, i < k → pl (tk H k (k + m)) i < k + m ∧ H (pl (tk H k (k + m)) i) = true) := fun i hi => tk_lt hge i hi
  have RK := hid (tk_rank k (k + m) H (by omega) (by omega) hge)
  have hmk := run_make_top k (by omega) w1
  have HT0 := hid (own_made w1 22 (.slice none 0 0) k w1.heap.size (by omega) (Nat.le_refl _))
  rw [hlk] at HV ⊢
  have HGE := hid hge
  have LK := hid hlk
  clear hlen hc hlk hge
  go_wp2_with fail
  clear hmk
  go_loopw [36] (fun i wr => ∃ r : Nat, r ≤ k ∧ i = .int .i64 r ∧ wr.ownsRow w1.heap.size 22 1 (.slice (some ⟨w1.heap.size, 0, none⟩) k k) k (vals k fun i => if i < r then .slice (AS (pl (tk H k (k + m)) i)) (L (pl (tk H k (k + m)) i)) (CS (pl (tk H k (k + m)) i)) else .slice none 0 0) ∧ Below w1.heap.size w1 wr) (fun i _ => (k - intOf i).toNat)
  case atStart => exact ⟨0, by omega, rfl, by simpa using HT0.out, (Below.refl _ _).alloc (Nat.le_refl _) _⟩
  case round =>
   clear HT0
   obtain ⟨r, hr, rfl, ht, hb⟩ := hrel
   by_cases hlt : r < k
   ·obtain ⟨hp1, hp2⟩ := TL.out r hlt
    obtain ⟨bS, oS, rfl, hcS⟩ := RS.out.top.pos (by omega)
    have c1 := Stays.of_below hb _ _ (pivV_cell HV.out r hlt LK.out)
    have c2 := Stays.of_below (B1.out.then hb) _ _ (hcS _ hp1)
    have c3 := own_cell ht r hlt
    rw [if_neg (by omega)] at c3
    have c4 := ht.frozenAt r
    have HT := hid ((ht.stored r (.slice (AS (pl (tk H k (k + m)) r)) (L (pl (tk H k (k + m)) r)) (CS (pl (tk H k (k + m)) r)))).1)
    rw [vals_set, vals_congr (W := fun i => if i < r + 1 then .slice (AS (pl (tk H k (k + m)) i)) (L (pl (tk H k (k + m)) i)) (CS (pl (tk H k (k + m)) i)) else .slice none 0 0) (fun i _ => by
     unfold upd
     by_cases e : i = r
     ·subst e; simp
     ·by_cases q : i < r
      ·simp [e, q, show i < r + 1 by omega]
      ·simp [e, q, show ¬ i < r + 1 by omega])] at HT
    have HB := hid (hb.setCell (p := ⟨w1.heap.size, r, none⟩) (Nat.le_refl _) (.slice (AS (pl (tk H k (k + m)) r)) (L (pl (tk H k (k + m)) r)) (CS (pl (tk H k (k + m)) r))))
    clear ht hb hcS RR RC RS HL TL RK
    go_wp2
    go_roundw
    case rel => exact ⟨r + 1, by omega, by go_num, HT.out, HB.out⟩
    case measure => simp [intOf]; omega
   ·have e : r = k := by omega
    subst e
    have B2 := hid (B1.out.then hb)
    have st2 := Stays.of_below B2.out
    have MT : Hid (MatAt wr (some ⟨w1.heap.size, 0, none⟩) r (fun i => AS (pl (tk H r (r + m)) i)) (fun _ => l) (fun i => CS (pl (tk H r (r + m)) i)) (fun i j => S (pl (tk H r (r + m)) i) j)) := {
     top := .inr ⟨_, _, rfl, fun i hi => by
      rw [Nat.zero_add, own_cell ht i hi, if_pos hi, HL.out _ (TL.out i hi).1 (TL.out i hi).2]⟩
     row := fun i hi => by
      have h1 := (RS.out.row _ (TL.out i hi).1).keep st2
      rw [HL.out _ (TL.out i hi).1 (TL.out i hi).2] at h1
      exact h1
     le := fun i hi => by
      have h1 := RS.out.le _ (TL.out i hi).1
      rw [HL.out _ (TL.out i hi).1 (TL.out i hi).2] at h1
      exact h1 }
    have RC2 := hid (RC.out.keep st2)
    have IR : Hid (IntsAt wr (some ⟨gv, 0, none⟩) r (fun i => ((pl (tk H r (r + m)) i : Nat) : Int))) := .inr ⟨gv, 0, rfl, fun i hi => by
     rw [Nat.zero_add]; exact Stays.of_below hb _ _ (pivV_cell HV.out i hi LK.out)⟩
    clear ht hb HV RS HL
    go_wp2_with fail
    refine (pick_rows _ _ (r + m) r _ r _ _ _ (codeX r) (fun i => ((pl (tk H r (r + m)) i : Nat) : Int)) wr (by omega) (by omega) (by omega) (by omega) (by omega) (by omega) RC2.out IR.out).mono ?_
    rintro e w3 ⟨hb3, ⟨hf, _⟩ | ⟨_, gp, Gp, Qp, rfl, hmp⟩⟩
    ·rw [allIn_true (fun i hi => by have := (TL.out i hi).1; unfold inR; omega)] at hf
     cases hf
    have B3 := hid (B2.out.then hb3)
    have MT3 := hid (MT.out.keep (Stays.of_below hb3))
    have MP := hid hmp.toMat
    clear hb3 hmp IR RC2 MT B2 st2
    go_wp2_with fail
    refine (invert_square _ r r _ _ (fun i c => codeX r (pl (tk H r (r + m)) i) c) w3 (by omega) (by omega) (by exact MP.out)).mono ?_
    rintro e w4 ⟨hb4, ⟨hf, _⟩ | ⟨_, gi, Gi, Y, rfl, hmY, hY⟩⟩
    ·exact absurd hf (by rw [RK.out]; omega)
    have HY : Hid (∀ a b, a < r → b < r → Y a b = ivm r (fun i c => codeX r (pl (tk H r (r + m)) i) c) a b) := fun a b ha hb => ivm_eq RK.out (fun i hi j hj => full_left RK.out hY i j hi hj) a b ha hb
    have B4 := hid (B3.out.then hb4)
    have MT4 := hid (MT3.out.keep (Stays.of_below hb4))
    have MY := hid hmY.toMat
    have RR4 := hid (RR.out.keep (Stays.of_below B4.out))
    clear hb4 hmY hY MP MT3 B3 RR RC
    go_wp2_with fail
    refine (mul_ok _ _ nr r r _ _ _ _ _ _ (codeX r) Y w4 RR4.out MY.out hnr hnr2 h0 (by omega) h0 (by omega)).mono ?_
    rintro e w5 ⟨gd, Gd, rfl, hmd, hb5⟩
    have B5 := hid (B4.out.then hb5)
    have MT5 := hid (MT4.out.keep (Stays.of_below hb5))
    have MD := hid hmd.toMat
    have hs5 := B5.out.size
    clear hb5 hmd MT4 B4 RR4 MY
    go_wp2_with fail
    refine (combine_any _ _ nr r l _ _ _ _ _ _ (pr r (codeX r) Y) (fun i j => S (pl (tk H r (r + m)) i) j) w5 MD.out MT5.out hnr hnr2 h0 (by omega) hl).mono ?_
    rintro e w6 ⟨g6, G6, rfl, hm6, hb6⟩
    have HM := hid ((hm6.congr (Y := mdd r (r + m) H S) (fun i _ j _ => pr_congr (fun q hq => pr_congr (fun _ _ => rfl) (fun u hu => HY.out u q hu hq)) (fun _ _ => rfl))).base hs5)
    have B6 := hid (B5.out.then hb6)
    clear hm6 hb6 MD MT5 B5
    go_wp2
    go_ret2
    exact ⟨B6.out, .inr ⟨HGE.out, g6, G6, rfl, HM.out⟩⟩
end Go.Proofs.YtdohmokhfajjpaaGreatDoor.U

/- Contracts of Mend, Join and Sound of package stripe, in one form for all shards: the answer in new memory, or the error's number; what was there is as it was. -/
namespace Go.Proofs.YtdohmokhfajjpaaGreatDoor.U
open Go.RowKit

/-- What is wrong with shards, how many are there with it. -/
def errMd (k m ns nh : Nat) (H : Nat → Bool) (L : Nat → Nat) (z : Int) : Int := if errMt ns nh (k + m) H L z ≠ 0 then errMt ns nh (k + m) H L z else if cn H (k + m) < k then 10 else 0
theorem errMd_bad {k m ns nh : Nat} {H : Nat → Bool} {L : Nat → Nat} {z : Int} (h : errMt ns nh (k + m) H L z ≠ 0) : errMd k m ns nh H L z = errMt ns nh (k + m) H L z := by unfold errMd; rw [if_pos h]
theorem errMd_few {k m ns nh : Nat} {H : Nat → Bool} {L : Nat → Nat} {z : Int} (h : errMt ns nh (k + m) H L z = 0) (h2 : cn H (k + m) < k) : errMd k m ns nh H L z = 10 := by unfold errMd; rw [if_neg (by omega), if_pos h2]
theorem errMd_ok {k m ns nh : Nat} {H : Nat → Bool} {L : Nat → Nat} {z : Int} (h : errMt ns nh (k + m) H L z = 0) (h2 : k ≤ cn H (k + m)) : errMd k m ns nh H L z = 0 := by unfold errMd; rw [if_neg (by omega), if_neg (by omega)]

set_option maxRecDepth 100000 in
set_option maxHeartbeats 4000000 in
theorem joinS_any (pS pH : Option Addr) (ns nh cS cH k m s : Nat) (AS : Nat → Option Addr) (L CS : Nat → Nat) (S : Nat → Nat → K) (H : Nat → Bool) (w : World) (hS : MatAt w pS ns AS L CS S) (hH : BoolsAt w pH nh H) (h0 : 1 ≤ k) (h1 : 1 ≤ m) (h : k + m ≤ 16) (hs : s ≤ 65536) :
  Calls Tryz.prog 54 #[.slice pS ns cS, .slice pH nh cH, .int .i64 k, .int .i64 m, .int .i64 s] w fun e w' => Below w.heap.size w w' ∧ ((errMd k m ns nh H L ((lgt s k : Nat) : Int) ≠ 0 ∧ e = .returned (.tuple #[.slice none 0 0, .int .i64 (errMd k m ns nh H L ((lgt s k : Nat) : Int))])) ∨
   (errMd k m ns nh H L ((lgt s k : Nat) : Int) = 0 ∧ ∃ g, e = .returned (.tuple #[.slice (some ⟨g, 0, none⟩) s s, .int .i64 0]) ∧ w'.ownsRow w.heap.size 5 1 (.slice (some ⟨g, 0, none⟩) s s) s (vals s fun j => kv (jnd (lgt s k) (mdd k (k + m) H S) j)))) := by
 have RS := hid hS
 have RH := hid hH
 have hll := lgt_le s k hs h0
 clear hS hH
 go_enter Tryz.func54, Tryz.ntmps54
 go_wp2_with fail
 refine (code_any k m w h0 h1 h).mono ?_
 rintro e w1 ⟨gC, cC, GC, QC, rfl, hmC, hb1⟩
 have MC := hid hmC.toMat
 have B1 := hid hb1
 have RS1 := hid (RS.out.keep (Stays.of_below hb1))
 have RH1 := hid (RH.out.keep (Stays.of_below hb1))
 have hsz := hb1.size
 have hcC := own_le hmC.top
 clear hb1 hmC RS RH
 have HCAST : Hid (((k : Int) + (m : Int)) = ((k + m : Nat) : Int)) := by show ((k : Int) + (m : Int)) = ((k + m : Nat) : Int); omega
 go_wp2_with fail
 refine (length_ok s k w1 (by omega) h0 (by omega)).mono ?_
 rintro e w' ⟨rfl, hw⟩
 have hw2 := hw.symm
 subst hw2
 clear hw
 go_wp2_with fail
 rw [HCAST.out]
 refine (matchS_any _ _ ns _ nh _ (k + m) AS L CS H ((lgt s k : Nat) : Int) w1 (by omega) (by omega) RS1.out.top RH1.out).mono ?_
 rintro e w' ⟨rfl, hw⟩
 have hw2 := hw.symm
 subst hw2
 clear hw
 by_cases he : errMt ns nh (k + m) H L ((lgt s k : Nat) : Int) = 0
 ·obtain ⟨rfl, rfl, hL1, hL2⟩ := errMt_zero he
  have EO : Hid (k ≤ cn H (k + m) → errMd k m (k + m) (k + m) H L ((lgt s k : Nat) : Int) = 0) := errMd_ok he
  have EF : Hid (cn H (k + m) < k → errMd k m (k + m) (k + m) H L ((lgt s k : Nat) : Int) = 10) := errMd_few he
  have HL : Hid (∀ i, i < k + m → H i = true → L i = lgt s k) := fun i hi hq => by
   have h2 := hL2 i hi hq
   rw [lenSt_ge (by omega)] at h2
   omega
  have hsl := run_hi24 (some ⟨gC, 0, none⟩) (k + m) cC k (by omega) (by omega)
  rw [he]
  clear he hL1 hL2
  go_wp2_with fail
  refine (remake_any _ _ pS pH k k m (lgt s k) _ _ _ _ _ _ AS _ _ L CS S H w1 (MC.out.first k (by omega)) MC.out RS1.out RH1.out h0 h h0 (by omega) hll HL.out).mono ?_
  rintro e w2 ⟨hb2, ⟨hc, rfl⟩ | ⟨hc, g, G, rfl, hm2⟩⟩
  ·have B2 := hid (B1.out.then hb2)
   have E := hid (EF.out hc)
   clear hb2
   go_wp2
   go_ret2
   exact ⟨B2.out, .inl ⟨by rw [E.out]; decide, ret_se rfl E.out.symm⟩⟩
  ·have B2 := hid (B1.out.then hb2)
   have E := hid (EO.out hc)
   have M2 := hid hm2.toMat
   have hsz2 := B2.out.size
   clear hb2 hm2
   go_wp2_with fail
   refine (joined_any _ k (lgt s k) _ s _ _ (mdd k (k + m) H S) w2 (by omega) hll hs (lgt_room s k h0) M2.out).mono ?_
   rintro e w3 ⟨g3, rfl, ho3, hb3⟩
   have B3 := hid (B2.out.then hb3)
   have O3 := hid (own_base ho3 hsz2)
   clear ho3 hb3
   go_wp2
   go_ret2
   exact ⟨B3.out, .inr ⟨E.out, g3, rfl, O3.out⟩⟩
 ·have he' : (errMt ns nh (k + m) H L ((lgt s k : Nat) : Int) != 0) = true := by simpa using he
  have E := hid (errMd_bad he)
  have NE := hid he
  clear he
  go_wp2
  go_ret2
  exact ⟨B1.out, .inl ⟨by rw [E.out]; exact NE.out, ret_se rfl E.out.symm⟩⟩

end Go.Proofs.YtdohmokhfajjpaaGreatDoor.U

/- Contracts of three, awake and StripeKnown: all of the chapter's examples are answered as it says; what was there is as it was. -/
namespace Go.Proofs.YtdohmokhfajjpaaGreatDoor.U
open Go.RowKit

/-- What any k shards of bytes make are all of them. -/
theorem mdd_all {k N : Nat} {H : Nat → Bool} {S D : Nat → Nat → K} (hk : k ≤ 16) (hN : N ≤ 256) (hc : k ≤ cn H N) (r j : Nat) (h : ∀ i, i < N → H i = true → S i j = pr k (codeX k) D i j) : mdd k N H S r j = pr k (codeX k) D r j :=
 mend_all k (codeX k) _ D _ (fun i => pl (tk H k N) i) (tk_left k N H hk hN hc) r j (fun i hi => h _ (tk_lt hc i hi).1 (tk_lt hc i hi).2)
theorem jnd_ash {k l n : Nat} {x : Nat → K} (j : Nat) (hj : j < n) (hn : n ≤ k * l) : jnd l (ash k l n x) j = x j := by
 have h1 : j / l < k := Nat.div_lt_of_lt_mul (by rw [Nat.mul_comm]; omega)
 unfold jnd ash
 rw [pr_code k _ _ _ h1]
 unfold dsh
 have h2 : j / l * l + j % l = j := Nat.div_add_mod' j l
 rw [h2, if_pos hj]
theorem jnd_congr {k l s : Nat} {X Y : Nat → Nat → K} (hs : s ≤ k * l) (h : ∀ i, i < k → ∀ j, j < l → X i j = Y i j) (j : Nat) (hj : j < s) : jnd l X j = jnd l Y j := by
 have h1 : j / l < k := Nat.div_lt_of_lt_mul (by rw [Nat.mul_comm]; omega)
 have h2 : 0 < l := by
  rcases Nat.eq_zero_or_pos l with q | q
  ·subst q; omega
  ·exact q
 unfold jnd
 exact h _ h1 _ (Nat.mod_lt _ h2)

def b3 (a b c : Nat) (i : Nat) : K := kb (if i = 0 then a else if i = 1 then b else c)
end Go.Proofs.YtdohmokhfajjpaaGreatDoor.U

/- Digests of bytes in slices, by lists. -/
namespace Go.Proofs.YtdohmokhfajjpaaGreatDoor
open Go Go.RowKit

/-- The digest's 32 bytes. -/
def dig (x : List Nat) : List Nat := (List.range 32).map fun i => H.sha x.length (fun j => x.getD j 0) i
theorem dig_len (x : List Nat) : (dig x).length = 32 := by simp [dig]
theorem dig_lt (x : List Nat) : ∀ z ∈ dig x, z < 256 := fun z hz => by
 obtain ⟨i, _, rfl⟩ := List.mem_map.1 hz
 exact H.sha_lt _ _ _
theorem dig_arr (x : List Nat) : H.aB 32 (H.sha x.length fun j => x.getD j 0) = ((dig x).map u8).toArray := by
 unfold H.aB dig
 apply Array.ext
 ·simp
 ·intro i h1 h2
  simp [u8]
theorem BL.str {w : World} {po : Option Addr} {x : List Nat} (h : BL w po x) : H.StrAt w po x.length fun j => x.getD j 0 := by
 rcases h with rfl | ⟨b, o, e, h⟩
 ·exact Or.inl rfl
 ·exact Or.inr ⟨b, o, e, fun i hi => h i hi⟩
theorem get256 {x : List Nat} (h8 : ∀ z ∈ x, z < 256) (i : Nat) (hi : i < x.length) : x.getD i 0 < 256 := by
 rw [List.getD_eq_getElem?_getD, List.getElem?_eq_getElem hi]; exact h8 _ (List.getElem_mem hi)
/-- digest.Sum -/
theorem dsum_any (po : Option Addr) (c : Nat) (x : List Nat) (w : World) (hn : x.length ≤ 1000000) (hc : x.length ≤ c) (h : BL w po x) (h8 : ∀ z ∈ x, z < 256) :
  Calls Tryz.prog 22 #[.slice po x.length c] w fun e w' => e = .returned (.agg ((dig x).map u8).toArray) ∧ Below w.heap.size w w' := by
 rw [← dig_arr]
 exact H.sum_any po x.length c _ w hn hc h.str (get256 h8)
end Go.Proofs.YtdohmokhfajjpaaGreatDoor

/- Journals as bytes: mathematics alone. D: the digest, of which nothing is asked but its length. -/
namespace Go.Proofs.YtdohmokhfajjpaaGreatDoor

structure Jr where
 seq : Int
 recs : List Rc
 deriving DecidableEq
def okJ (j : Jr) : Bool := inR j.seq 1 1099511627776 && decide (j.recs.length ≤ 64) && j.recs.all okRc && decide ((j.recs.map Rc.id).Nodup)
def rsB (l : List Rc) : List Nat := (l.map rcB).flatten
def jBody (j : Jr) : List Nat := [83, 74, 49] ++ ib j.seq ++ nb j.recs.length ++ rsB j.recs
def jB (D : List Nat → List Nat) (j : Jr) : List Nat := jBody j ++ D (jBody j)
def rdRs : Nat → List Nat → Option (List Rc × List Nat)
 | 0, b => some ([], b)
 | n + 1, b => do
  let (r, b) ← rdR b
  let (l, b) ← rdRs n b
  return (r :: l, b)
def rdMid (b : List Nat) : Option Jr := do
 let (s, b) ← rdU b
 let (n, b) ← rdU b
 if 64 < n then none else
 let (l, b) ← rdRs n b
 if b = [] then some ⟨s, l⟩ else none
/-- The error's number, and the journal. -/
def rdJ (D : List Nat → List Nat) (b : List Nat) : Nat × Option Jr :=
 if b.length < 35 ∨ b.take 3 ≠ [83, 74, 49] then (4, none) else
 if D (b.take (b.length - 32)) ≠ b.drop (b.length - 32) then (14, none) else
 match rdMid ((b.take (b.length - 32)).drop 3) with
 | some j => if okJ j then (0, some j) else (4, none)
 | none => (4, none)
theorem rdRs_some : ∀ {n : Nat} {b c : List Nat} {l : List Rc}, (∀ z ∈ b, z < 256) → rdRs n b = some (l, c) → b = rsB l ++ c ∧ l.length = n ∧ l.all okRc = true
 | 0, b, c, l, _, h => by simp [rdRs] at h; obtain ⟨rfl, rfl⟩ := h; simp [rsB]
 | n + 1, b, c, l, hb, h => by
  unfold rdRs at h
  cases h1 : rdR b with
  | none => rw [h1] at h; cases h
  | some p =>
   obtain ⟨r, b1⟩ := p
   rw [h1] at h
   simp only [Option.bind_eq_bind, Option.bind_some] at h
   obtain ⟨k1, e1⟩ := rdR_some hb h1
   subst e1
   cases h2 : rdRs n b1 with
   | none => rw [h2] at h; cases h
   | some p =>
    obtain ⟨l', b2⟩ := p
    rw [h2] at h
    simp only [Option.bind_some, Option.pure_def, Option.some.injEq, Prod.mk.injEq] at h
    obtain ⟨rfl, rfl⟩ := h
    obtain ⟨e2, k2, k3⟩ := rdRs_some (sub256 hb).2 h2
    exact ⟨by rw [e2]; simp [rsB], by simp [k2], by simp [k1, k3]⟩
theorem okJ_parts {j : Jr} (h : okJ j = true) : 1 ≤ j.seq ∧ j.seq ≤ 1099511627776 ∧ j.recs.length ≤ 64 ∧ j.recs.all okRc = true ∧ (j.recs.map Rc.id).Nodup := by
 simp only [okJ, Bool.and_eq_true, decide_eq_true_eq, inR_iff] at h
 exact ⟨h.1.1.1.1, h.1.1.1.2, h.1.1.2, h.1.2, h.2⟩
theorem rdMid_some {b : List Nat} {j : Jr} (hb : ∀ z ∈ b, z < 256) (h : rdMid b = some j) : [83, 74, 49] ++ b = jBody j := by
 unfold rdMid at h
 cases h1 : rdU b with
 | none => rw [h1] at h; cases h
 | some p =>
 obtain ⟨s, b1⟩ := p
 rw [h1] at h; simp only [Option.bind_eq_bind, Option.bind_some] at h
 obtain ⟨e1, _⟩ := rdU_some hb h1; subst e1; have hb := (sub256 hb).2
 cases h2 : rdU b1 with
 | none => rw [h2] at h; cases h
 | some p =>
 obtain ⟨n, b2⟩ := p
 rw [h2] at h; simp only [Option.bind_some] at h
 obtain ⟨e2, _⟩ := rdU_some hb h2; subst e2; have hb := (sub256 hb).2
 by_cases hn : 64 < n
 ·rw [if_pos hn] at h; cases h
 rw [if_neg hn] at h
 cases h3 : rdRs n b2 with
 | none => rw [h3] at h; cases h
 | some p =>
 obtain ⟨l, b3⟩ := p
 rw [h3] at h; simp only [Option.bind_some] at h
 obtain ⟨e3, k3, _⟩ := rdRs_some hb h3; subst e3
 by_cases h0 : b3 = []
 ·rw [if_pos h0] at h
  simp only [Option.some.injEq] at h
  subst h
  subst h0
  subst k3
  simp [jBody, ib]
 ·rw [if_neg h0] at h; cases h
section
variable {D : List Nat → List Nat}
theorem rdJ_some {b : List Nat} {j : Jr} (hb : ∀ z ∈ b, z < 256) {e : Nat} (h : rdJ D b = (e, some j)) : e = 0 ∧ okJ j = true ∧ b = jB D j := by
 unfold rdJ at h
 by_cases h1 : b.length < 35 ∨ b.take 3 ≠ [83, 74, 49]
 ·rw [if_pos h1] at h; cases h
 rw [if_neg h1] at h
 by_cases h2 : D (b.take (b.length - 32)) ≠ b.drop (b.length - 32)
 ·rw [if_pos h2] at h; cases h
 rw [if_neg h2] at h
 have h1a : ¬ b.length < 35 := fun k => h1 (Or.inl k)
 have h1b : b.take 3 = [83, 74, 49] := Classical.byContradiction fun k => h1 (Or.inr k)
 have h2' : D (b.take (b.length - 32)) = b.drop (b.length - 32) := Classical.byContradiction h2
 cases h3 : rdMid ((b.take (b.length - 32)).drop 3) with
 | none => rw [h3] at h; cases h
 | some j' =>
  rw [h3] at h
  by_cases hok : okJ j' = true
  ·simp only [hok, if_true, Prod.mk.injEq, Option.some.injEq] at h
   obtain ⟨rfl, rfl⟩ := h
   have hb2 : ∀ z ∈ (b.take (b.length - 32)).drop 3, z < 256 := fun z hz => hb z (List.mem_of_mem_take (List.mem_of_mem_drop hz))
   have e := rdMid_some hb2 h3
   have e2 : jBody j' = b.take (b.length - 32) := by
    rw [← e, ← h1b]
    have : b.take 3 = (b.take (b.length - 32)).take 3 := by rw [List.take_take, Nat.min_eq_left (by omega)]
    rw [this, List.take_append_drop]
   refine ⟨rfl, hok, ?_⟩
   unfold jB
   rw [e2, h2', List.take_append_drop]
  ·simp [hok] at h
end
end Go.Proofs.YtdohmokhfajjpaaGreatDoor
