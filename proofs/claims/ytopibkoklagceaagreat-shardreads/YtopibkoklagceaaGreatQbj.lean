/- Texts laid into one, cut to what is needed: the remark ahead of each part says what is proved there. -/
import Derived.Test.YtopibkoklagceaaGreatQbh
import Derived.Test.YtopibkoklagceaaGreatQbi
import Derived.Test.YtopibkoklagceaaGreatQaw
/- Contract of Split of the document's own answer: as the program's; what was there is as it was. -/
namespace Go.Proofs.YtopibkoklagceaaGreat.U
open Go.RowKit

set_option maxRecDepth 100000 in
set_option maxHeartbeats 1000000 in
theorem rsplit_err (p : Option Addr) (n c : Nat) (k m : Int) (w : World) (hk : -9223372036854775808 ≤ k) (hk' : k ≤ 9223372036854775807) (hm : -9223372036854775808 ≤ m) (hm' : m ≤ 9223372036854775807) (h : k < 1 ∨ m < 1 ∨ 16 < k + m) :
  Calls Tryz.prog 29 #[.slice p n c, .int .i64 k, .int .i64 m] w fun e w' => e = .returned (.tuple #[.slice none 0 0, .int .i64 5]) ∧ w' = w := by
 go_enter Tryz.func29, Tryz.ntmps29
 go_wp2_with fail
 refine (may_bad k m w hk hk' hm hm' h).mono ?_
 rintro e w' ⟨rfl, hw⟩
 have hw2 := hw.symm
 subst hw2
 clear hw h
 go_wp2
 go_ret2
 exact ⟨rfl, rfl⟩
set_option maxRecDepth 100000 in
set_option maxHeartbeats 1000000 in
theorem rsplit_long (p : Option Addr) (n c k m : Nat) (w : World) (h0 : 1 ≤ k) (h1 : 1 ≤ m) (h : k + m ≤ 16) (hn : 65536 < n) :
  Calls Tryz.prog 29 #[.slice p n c, .int .i64 k, .int .i64 m] w fun e w' => e = .returned (.tuple #[.slice none 0 0, .int .i64 3]) ∧ w' = w := by
 go_enter Tryz.func29, Tryz.ntmps29
 go_wp2_with fail
 refine (may_ok k m w h0 h1 h).mono ?_
 rintro e w' ⟨rfl, hw⟩
 have hw2 := hw.symm
 subst hw2
 clear hw
 go_wp2
 go_ret2
 exact ⟨rfl, rfl⟩
theorem dsh_step (l n i j : Nat) (x : Nat → K) (c : Nat) (v : K) (hv : v = dsh l n x i j) : upd (fun c => kv (if c < j then dsh l n x i c else 0)) j (kv v) c = kv (if c < j + 1 then dsh l n x i c else 0) := by
 unfold upd
 by_cases e : c = j
 ·subst e; rw [if_pos rfl, if_pos (by omega), hv]
 ·rw [if_neg e]
  show kv (if c < j then dsh l n x i c else 0) = _
  by_cases q : c < j
  ·rw [if_pos q, if_pos (by omega)]
  ·rw [if_neg q, if_neg (by omega)]

set_option maxRecDepth 100000 in
set_option maxHeartbeats 8000000 in
theorem rsplit_ok (p : Option Addr) (n c k m : Nat) (x : Nat → K) (w : World) (h0 : 1 ≤ k) (h1 : 1 ≤ m) (h : k + m ≤ 16) (hn : n ≤ 65536) (hx : StrAt w p n fun j => (x j).val) :
  Calls Tryz.prog 29 #[.slice p n c, .int .i64 k, .int .i64 m] w fun e w' => ∃ g cp G, e = .returned (.tuple #[.slice (some ⟨g, 0, none⟩) (k + m) cp, .int .i64 0]) ∧ OwnMat w.heap.size w' g cp (k + m) (lgt n k) G (fun _ => lgt n k) (ash k (lgt n k) n x) ∧ Below w.heap.size w w' := by
 obtain ⟨i0, hi0, hz0, hz1, hz2⟩ := info_parts Tryz.info22
 have HX := hid hx
 have hll := lgt_le n k hn h0
 clear hx
 go_enter Tryz.func29, Tryz.ntmps29
 go_wp2_with fail
 refine (may_ok k m w h0 h1 h).mono ?_
 rintro e w' ⟨rfl, hw⟩
 have hw2 := hw.symm
 subst hw2
 clear hw
 go_wp2_with fail
 refine (rlong_any n k w hn h0 (by omega)).mono ?_
 rintro e w' ⟨rfl, hw⟩
 have hw2 := hw.symm
 subst hw2
 clear hw
 obtain ⟨l, hl⟩ : ∃ l, l = lgt n k := ⟨_, rfl⟩
 rw [← hl]
 have HLL := hid hl
 rw [← hl] at hll
 clear hl
 go_wp2_with fail
 go_loopw [9, 10] (fun v y wr => ∃ i : Nat, ∃ G : Nat → Nat, i ≤ k ∧ y = .int .i64 i ∧ OwnV w.heap.size wr v i G (fun _ => l) (fun _ => l) (fun _ => l) (fun _ => l) (dsh l n x) ∧ Below w.heap.size w wr) (fun _ y _ => (k - intOf y).toNat)
 case atStart => exact ⟨0, fun _ => 0, by omega, rfl, OwnV.start _ _ _ _ _ _ _ _, Below.refl _ _⟩
 case round =>
  obtain ⟨i, G, hi, rfl, hv, hb⟩ := hrel
  by_cases hlt : i < k
  ·have hsz := hb.size
   have hmk := run_make_u8 l (by omega) wr
   have HRM : Hid (RowMade wr.heap.size wr (wr.alloc (.cells (madeCells #[.int .u8 0] l) 5)) wr.heap.size l (fun c => if c < 0 then dsh l n x i c else 0)) := by
    refine ⟨?_, (Below.refl _ _).alloc (Nat.le_refl _) _⟩
    have := own_made wr 5 (.int .u8 0) l wr.heap.size (by omega) (Nat.le_refl _)
    rwa [vals_congr (W := fun c => kv (if c < 0 then dsh l n x i c else 0)) (fun c _ => by rw [if_neg (by omega)]; rfl)] at this
   have HV := hid hv
   have HB := hid hb
   obtain ⟨q, hq⟩ : ∃ q, q = i * l := ⟨_, rfl⟩
   have hqb : q ≤ 1048576 := by
    have h9 : i * l ≤ 16 * 65536 := Nat.mul_le_mul (by omega) hll
    omega
   have hqi : (i : Int) * (l : Int) = ((q : Nat) : Int) := by rw [hq]; exact (Int.natCast_mul i l).symm
   have HQ := hid hq
   clear hv hb hq
   go_wp2_with fail
   clear hmk
   obtain ⟨wo, hwo⟩ : ∃ wo, wo = wr := ⟨_, rfl⟩
   subst hwo
   go_loopw [12] (fun y wy => ∃ j : Nat, j ≤ l ∧ y = .int .i64 j ∧ RowMade wo.heap.size wo wy wo.heap.size l (fun c => if c < j then dsh l n x i c else 0)) (fun y _ => (l - intOf y).toNat)
   case atStart => exact ⟨0, by omega, rfl, HRM.out⟩
   case round =>
    clear HRM
    obtain ⟨j, hj, rfl, hrm⟩ := hrel
    by_cases hgo : j < l ∧ q + j < n
    ·obtain ⟨hlt2, hlt3⟩ := hgo
     obtain ⟨bx, ox, rfl, hxr⟩ : ∃ b o, p = some ⟨b, o, none⟩ ∧ RowAt w b o n fun j => (x j).val := by
      rcases HX.out with z | z
      ·omega
      ·exact z
     have e1 := own_cell (V := fun c => kv (if c < j then dsh l n x i c else 0)) hrm.row j hlt2
     have e2 := hrm.row.frozenAt j
     have e3 := Stays.of_below (HB.out.then hrm.bel) _ _ (hxr (q + j) hlt3)
     have HM := hid (hrm.set j (x (q + j)) (fun c => dsh_step l n i j x c (x (q + j)) (by unfold dsh; rw [← HQ.out, if_pos hlt3])))
     have hti : (((q : Nat) : Int) + (j : Int)).toNat = q + j := by omega
     clear hrm hxr HV HB HX
     simp only [kv] at e1
     go_wp2
     go_roundw
     case rel => exact ⟨j + 1, by omega, by go_num, HM.out⟩
     case measure => simp [intOf]; omega
    ·have HR1 : Hid (wr.ownsRow wo.heap.size 5 1 (.slice (some ⟨wo.heap.size, 0, none⟩) l l) l (vals l fun c => kv (dsh l n x i c))) := by
       have h9 := hrm.row
       rwa [vals_congr (W := fun c => kv (dsh l n x i c)) (fun c hc => by
        by_cases e : c < j
        ·rw [if_pos e]
        ·rw [if_neg e]; unfold dsh; rw [← HQ.out, if_neg (by omega)])] at h9
     have HB1 := hid hrm.bel
     have HT := hid (HV.out.top_alloc HB1.out (.cells #[.slice (some ⟨wo.heap.size, 0, none⟩) l l] 22))
     have HN := hid (news_one wr (.slice (some ⟨wo.heap.size, 0, none⟩) l l))
     have hsz1 := HB1.out.size
     clear hrm
     by_cases hlt2 : j < l
     ·have hlt3 : ¬ q + j < n := by omega
      clear hgo
      go_wp2_with (at_builtin; refine wpList_append_lies _ rfl _ _ 24 rfl w.heap.size 22 i0 (.slice none 0 0) 1 24 Tryz.underlying24 hi0 hz0 hz1 hz2 rfl (by omega) u9 i _ rfl HT.out ⟨wr.heap.size, 0, none⟩ 1 1 [.slice (some ⟨wo.heap.size, 0, none⟩) l l] rfl rfl HN.out (by intro u hu; simp at hu; subst hu; rfl) (by omega) (by unfold maxLen; omega) (by omega) (by simp; omega) _ rfl ?_; intro gg cap w4 hown4 hgrow hat hlt4)
      have HXX := hid (HV.out.push HB1.out wo.heap.size l l (Nat.le_refl _) (own_base HR1.out hsz) hgrow hown4)
      have HBX := hid (HV.out.bound (HB.out.trans (HB1.out.mono hsz)) (by omega) hgrow)
      rw [upd_const] at HXX
      clear hown4 hgrow hat hlt4 HT HN HR1 HB1 HV HB HX
      go_wp2
      go_roundw
      case rel => exact ⟨i + 1, _, by omega, by go_num, HXX.out, HBX.out⟩
      case measure => simp [intOf]; omega
     ·clear hgo
      go_wp2_with (at_builtin; refine wpList_append_lies _ rfl _ _ 24 rfl w.heap.size 22 i0 (.slice none 0 0) 1 24 Tryz.underlying24 hi0 hz0 hz1 hz2 rfl (by omega) u9 i _ rfl HT.out ⟨wr.heap.size, 0, none⟩ 1 1 [.slice (some ⟨wo.heap.size, 0, none⟩) l l] rfl rfl HN.out (by intro u hu; simp at hu; subst hu; rfl) (by omega) (by unfold maxLen; omega) (by omega) (by simp; omega) _ rfl ?_; intro gg cap w4 hown4 hgrow hat hlt4)
      have HXX := hid (HV.out.push HB1.out wo.heap.size l l (Nat.le_refl _) (own_base HR1.out hsz) hgrow hown4)
      have HBX := hid (HV.out.bound (HB.out.trans (HB1.out.mono hsz)) (by omega) hgrow)
      rw [upd_const] at HXX
      clear hown4 hgrow hat hlt4 HT HN HR1 HB1 HV HB HX
      go_wp2
      go_roundw
      case rel => exact ⟨i + 1, _, by omega, by go_num, HXX.out, HBX.out⟩
      case measure => simp [intOf]; omega
  ·have e : i = k := by omega
   subst e
   obtain ⟨g, c9, rfl, hm⟩ := hv.toMat (by omega)
   have MS := hid hm
   have B1 := hid hb
   clear hv hb hm HX
   go_wp2_with fail
   refine (rcode_any i m wr h0 h1 h).mono ?_
   rintro e w2 ⟨gC, cC, GC, QC, rfl, hmC, hb2⟩
   have MC := hid hmC.toMat
   have MS2 := hid (MS.out.toMat.keep (Stays.of_below hb2))
   have B2 := hid (B1.out.then hb2)
   clear hmC hb2 MS B1
   go_wp2_with fail
   refine (times_any _ _ (i + m) i l _ _ _ _ _ _ (codeX i) (dsh l n x) w2 MC.out MS2.out (by omega) (by omega) h0 (by omega) hll).mono ?_
   rintro e w3 ⟨g3, c3, G3, rfl, hm3, hb3⟩
   have hsz3 := B2.out.size
   have HM := hid (hm3.base hsz3)
   have HB := hid (B2.out.then hb3)
   clear hm3 hb3 MC MS2 B2
   go_wp2
   go_ret2
   exact ⟨g3, c3, G3, rfl, by rw [← HLL.out]; exact HM.out, HB.out⟩
end Go.Proofs.YtopibkoklagceaaGreat.U

/- Split and Length, the program's and the document's own, in one form for all inputs; lists of lists put together for ApartBytes. -/
namespace Go.Proofs.YtopibkoklagceaaGreat.U
open Go.RowKit

def lenV (s k : Int) : Int := if s < 0 ∨ 65536 < s ∨ k < 1 ∨ 16 ≤ k then 0 else ((lgt s.toNat k.toNat : Nat) : Int)
theorem lentK_val (n : Nat) (x : Nat → K) (i : Nat) : (lentK n x i).val = lentN n (fun j => (x j).val) i := by
 unfold lentK lentN
 by_cases e : i < n
 ·rw [if_pos e, if_pos e]
 ·rw [if_neg e, if_neg e, kb_val _ (by omega)]
theorem Mk.lent {w w1 : World} {g n : Nat} {x : Nat → K} (h : Mk w w1 g (n + 3) (lentK n x)) : RowAt w1 g 0 (n + 3) (lentN n fun j => (x j).val) := fun i hi => by
 rw [Nat.zero_add, ← lentK_val]; exact own_cell (V := fun c => kv (lentK n x c)) h.row i hi
end Go.Proofs.YtopibkoklagceaaGreat.U

/- Contracts of wrong, Mended and Mend of the document's own answer, and of Pick: as the program's; what was there is as it was. -/
namespace Go.Proofs.YtopibkoklagceaaGreat.U
open Go.RowKit

set_option maxRecDepth 100000 in
set_option maxHeartbeats 4000000 in
theorem rwrong_any3 (p q : Option Addr) (cs ch k m : Nat) (A : Nat → Option Addr) (L C : Nat → Nat) (H : Nat → Bool) (z : Int) (w : World) (hn : k + m ≤ 100) (hz : -1 ≤ z) (h : TopAt w p (k + m) A L C) (hH : BoolsAt w q (k + m) H) :
  Calls Tryz.prog 62 #[.slice p (k + m) cs, .slice q (k + m) ch, .int .i64 k, .int .i64 m, .int .i64 z] w fun e w' => e = .returned (.int .i64 (errMd k m (k + m) (k + m) H L z)) ∧ w' = w := by
 have hne : (((k : Int) + (m : Int)) != ((k : Int) + (m : Int))) = false := by simp
 have HT := hid h
 have HH := hid hH
 clear h hH
 go_enter Tryz.func62, Tryz.ntmps62
 go_wp2
 go_loop [13] (fun i => ∃ r : Nat, r ≤ k + m ∧ i = .int .i64 r ∧ ∀ j, j < r → H j = true → L j ≤ 65536) (fun i => ((k + m : Nat) - intOf i).toNat)
 case atStart => exact ⟨0, by omega, rfl, fun j hj => absurd hj (by omega)⟩
 case round =>
  obtain ⟨r, hr, rfl, hs⟩ := hrel
  by_cases hlt : r < k + m
  ·obtain ⟨b, o, rfl, hc⟩ := HT.out.pos (by omega)
   obtain ⟨b', o', rfl, hc'⟩ := HH.out.pos (by omega)
   have c1 := hc r hlt
   have c2 := hc' r hlt
   clear hc hc' HT HH
   cases hq : H r with
   | false =>
    rw [hq] at c2
    have HS : Hid (∀ j, j < r + 1 → H j = true → L j ≤ 65536) := fun j hj hj2 => by
     by_cases e : j = r
     ·subst e; rw [hq] at hj2; cases hj2
     ·exact hs j (by omega) hj2
    clear hs
    go_wp2
    go_round
    case rel => exact ⟨r + 1, by omega, by go_num, HS.out⟩
    case measure => simp [intOf]; omega
   | true =>
    rw [hq] at c2
    by_cases hb : 65536 < L r
    ·have HE : Hid (errMd k m (k + m) (k + m) H L z = 3) := by
       have h9 : errMt (k + m) (k + m) (k + m) H L z = 3 := by unfold errMt; rw [if_neg (by omega), anyLong_true r hlt hq hb, if_pos rfl]
       exact hid ((errMd_bad (by rw [h9]; decide)).trans h9)
     clear hs
     go_wp2
     go_ret
     exact ⟨ret_int HE.out.symm, rfl⟩
    ·have HS : Hid (∀ j, j < r + 1 → H j = true → L j ≤ 65536) := fun j hj hj2 => by
       by_cases e : j = r
       ·subst e; omega
       ·exact hs j (by omega) hj2
     clear hs
     go_wp2
     go_round
     case rel => exact ⟨r + 1, by omega, by go_num, HS.out⟩
     case measure => simp [intOf]; omega
  ·have HL : Hid (anyLong (k + m) H L = false) := anyLong_false (fun i hi => hs i (by omega))
   clear hs
   go_wp2_with fail
   go_loop [11, 12, 14] (fun t v i => ∃ r : Nat, r ≤ k + m ∧ i = .int .i64 r ∧ t = .int .i64 ((cn H r : Nat) : Int) ∧ v = .int .i64 (lenSt H L z r) ∧ ∀ j, j < r → H j = true → (L j : Int) = lenSt H L z (j + 1)) (fun _ _ i => ((k + m : Nat) - intOf i).toNat)
   case atStart => exact ⟨0, by omega, rfl, rfl, rfl, fun j hj => absurd hj (by omega)⟩
   case round =>
    clear hlt hr
    obtain ⟨r, hr, rfl, rfl, rfl, hs⟩ := hrel
    have hcs := cn_succ H r
    have hcl := cn_le H r
    by_cases hlt : r < k + m
    ·obtain ⟨b, o, rfl, hc⟩ := HT.out.pos (by omega)
     obtain ⟨b', o', rfl, hc'⟩ := HH.out.pos (by omega)
     have c1 := hc r hlt
     have c2 := hc' r hlt
     clear hc hc' HT HH
     cases hq : H r with
     | false =>
      rw [hq] at c2
      have HS : Hid (∀ j, j < r + 1 → H j = true → (L j : Int) = lenSt H L z (j + 1)) := fun j hj hj2 => by
       by_cases e : j = r
       ·subst e; rw [hq] at hj2; cases hj2
       ·exact hs j (by omega) hj2
      have HV : Hid (lenSt H L z (r + 1) = lenSt H L z r) := by
       show lenSt H L z (r + 1) = lenSt H L z r
       rw [lenSt_succ, if_neg (fun e => by rw [hq] at e; exact absurd e.1 (by decide))]
      have HCN : Hid (cn H (r + 1) = cn H r) := by
       show cn H (r + 1) = cn H r
       rw [hcs, hq, if_neg (by decide), Nat.add_zero]
      clear hs hcs hcl
      go_wp2
      go_round
      case rel => exact ⟨r + 1, by omega, by go_num, by rw [HCN.out], by rw [HV.out], HS.out⟩
      case measure => simp [intOf]; omega
     | true =>
      rw [hq] at c2
      have HCN : Hid (cn H (r + 1) = cn H r + 1) := by
       show cn H (r + 1) = cn H r + 1
       rw [hcs, hq, if_pos rfl]
      have hlo := lenSt_lo (H := H) (L := L) hz r
      by_cases hneg : lenSt H L z r < 0
      ·have HV : Hid (lenSt H L z (r + 1) = (L r : Int)) := by
         show lenSt H L z (r + 1) = (L r : Int)
         rw [lenSt_succ, if_pos ⟨hq, hneg⟩]
       have HS : Hid (∀ j, j < r + 1 → H j = true → (L j : Int) = lenSt H L z (j + 1)) := fun j hj hj2 => by
        by_cases e : j = r
        ·subst e; exact HV.out.symm
        ·exact hs j (by omega) hj2
       have e2 : (((L r : Nat) : Int) != ((L r : Nat) : Int)) = false := by simp
       clear hs hlo hcs
       go_wp2
       go_round
       case rel => exact ⟨r + 1, by omega, by go_num, by rw [HCN.out]; go_num, by rw [HV.out], HS.out⟩
       case measure => simp [intOf]; omega
      ·have HV : Hid (lenSt H L z (r + 1) = lenSt H L z r) := by
         show lenSt H L z (r + 1) = lenSt H L z r
         rw [lenSt_succ, if_neg (by omega)]
       by_cases hb : (L r : Int) = lenSt H L z r
       ·have HS : Hid (∀ j, j < r + 1 → H j = true → (L j : Int) = lenSt H L z (j + 1)) := fun j hj hj2 => by
          by_cases e : j = r
          ·subst e; rw [HV.out]; exact hb
          ·exact hs j (by omega) hj2
        have e2 : (((L r : Nat) : Int) != lenSt H L z r) = false := by simpa using hb
        clear hs hlo hb hcs
        go_wp2
        go_round
        case rel => exact ⟨r + 1, by omega, by go_num, by rw [HCN.out]; go_num, by rw [HV.out], HS.out⟩
        case measure => simp [intOf]; omega
       ·have HE : Hid (errMd k m (k + m) (k + m) H L z = 2) := by
          have h9 : errMt (k + m) (k + m) (k + m) H L z = 2 := by unfold errMt; rw [if_neg (by omega), HL.out, if_neg (by decide), anyOdd_true r hlt hq (by rw [HV.out]; exact hb), if_pos rfl]
          exact hid ((errMd_bad (by rw [h9]; decide)).trans h9)
        have e2 : (((L r : Nat) : Int) != lenSt H L z r) = true := by simpa using hb
        clear hs hlo hb hcs
        go_wp2
        go_ret
        exact ⟨ret_int HE.out.symm, rfl⟩
    ·have e : r = k + m := by omega
     have h9 : errMt (k + m) (k + m) (k + m) H L z = 0 := by
      unfold errMt; rw [if_neg (by omega), HL.out, if_neg (by decide), anyOdd_false (fun i hi q => hs i (by omega) q), if_neg (by decide)]
     by_cases hf : cn H r < k
     ·have HE : Hid (errMd k m (k + m) (k + m) H L z = 10) := hid (errMd_few h9 (by rw [← e]; exact hf))
      clear hs h9 hcs e
      go_wp2
      go_ret
      exact ⟨ret_int HE.out.symm, rfl⟩
     ·have HE : Hid (errMd k m (k + m) (k + m) H L z = 0) := hid (errMd_ok h9 (by rw [← e]; omega))
      clear hs h9 hcs e
      go_wp2
      go_ret
      exact ⟨ret_int HE.out.symm, rfl⟩
set_option maxRecDepth 100000 in
set_option maxHeartbeats 1000000 in
theorem rwrong_any (p q : Option Addr) (ns cs nh ch k m : Nat) (A : Nat → Option Addr) (L C : Nat → Nat) (H : Nat → Bool) (z : Int) (w : World) (hn : k + m ≤ 100) (hz : -1 ≤ z) (h : TopAt w p ns A L C) (hH : BoolsAt w q nh H) :
  Calls Tryz.prog 62 #[.slice p ns cs, .slice q nh ch, .int .i64 k, .int .i64 m, .int .i64 z] w fun e w' => e = .returned (.int .i64 (errMd k m ns nh H L z)) ∧ w' = w := by
 by_cases h1 : ns = k + m
 ·by_cases h2 : nh = k + m
  ·subst h1; subst h2
   exact rwrong_any3 p q cs ch k m A L C H z w hn hz h hH
  ·have HE : Hid (errMd k m ns nh H L z = 2) := by
     have h9 : errMt ns nh (k + m) H L z = 2 := by unfold errMt; rw [if_pos (.inr h2)]
     exact hid ((errMd_bad (by rw [h9]; decide)).trans h9)
   have e1 : ((ns : Int) != (k : Int) + (m : Int)) = false := by simp; omega
   have e2 : ((nh : Int) != (k : Int) + (m : Int)) = true := by simp; omega
   clear h1 h2 h hH
   go_enter Tryz.func62, Tryz.ntmps62
   go_wp2
   go_ret
   exact ⟨ret_int HE.out.symm, rfl⟩
 ·have HE : Hid (errMd k m ns nh H L z = 2) := by
    have h9 : errMt ns nh (k + m) H L z = 2 := by unfold errMt; rw [if_pos (.inl h1)]
    exact hid ((errMd_bad (by rw [h9]; decide)).trans h9)
  have e1 : ((ns : Int) != (k : Int) + (m : Int)) = true := by simp; omega
  clear h1 h hH
  go_enter Tryz.func62, Tryz.ntmps62
  go_wp2
  go_ret
  exact ⟨ret_int HE.out.symm, rfl⟩

set_option maxRecDepth 100000 in
set_option maxHeartbeats 4000000 in
theorem rpick_any (p q : Option Addr) (n m c k d : Nat) (A : Nat → Option Addr) (C : Nat → Nat) (X : Nat → Nat → K) (R : Nat → Nat) (w : World) (h0 : 1 ≤ n) (hn : n ≤ 32) (h1 : 1 ≤ m) (hm : m ≤ 32) (hk0 : 1 ≤ k) (hk : k ≤ 32)
  (h : MatAt w p n A (fun _ => m) C X) (hR : IntsAt w q k fun i => ((R i : Nat) : Int)) (hlt : ∀ i, i < k → R i < n) :
  Calls Tryz.prog 93 #[.slice p n c, .slice q k d] w fun e w' => ∃ g cp G Q, e = .returned (.tuple #[.slice (some ⟨g, 0, none⟩) k cp, .int .i64 0]) ∧ OwnMat w.heap.size w' g cp k m G Q (fun i j => X (R i) j) ∧ Below w.heap.size w w' := by
 obtain ⟨i0, hi0, hz0, hz1, hz2⟩ := info_parts Tryz.info22
 have HE : Hid (errC n (fun _ => m) = 0) := errC_ok h0 hn h1 hm (fun _ _ => rfl)
 have T := hid h.top
 obtain ⟨b, o, rfl, bs, os, hc, hr⟩ := h.at (by omega) (by omega)
 obtain ⟨bq, oq, rfl, hcq⟩ := hR.pos (by omega)
 have HC := hid hc
 have HR := hid hr
 have HQ := hid hcq
 have HLT := hid hlt
 clear h hc hr hR hcq hlt
 go_enter Tryz.func93, Tryz.ntmps93
 go_wp2_with fail
 refine (rcheck_any _ n _ _ _ _ w (by omega) T.out).mono ?_
 rintro e w1 ⟨rfl, z1, hw1⟩
 have B1 : Hid (Below w.heap.size w w1) := by rw [hw1]; exact keep_drewN w z1
 rw [HE.out]
 clear hw1 T HE
 have hnz : ((k : Int) == 0) = false := by simp; omega
 go_wp2_with fail
 go_loopw [7, 8] (fun v x wr => ∃ i : Nat, ∃ G Q : Nat → Nat, i ≤ k ∧ x = .int .i64 i ∧ OwnV w.heap.size wr v i G (fun _ => m) Q (fun _ => m) Q (fun i j => X (R i) j) ∧ Below w.heap.size w wr) (fun _ x _ => (k - intOf x).toNat)
 case atStart => exact ⟨0, fun _ => 0, fun _ => 0, by omega, rfl, OwnV.start _ _ _ _ _ _ _ _, B1.out⟩
 case round =>
  clear B1
  obtain ⟨i, G, Q, hi, rfl, hv, hb⟩ := hrel
  by_cases hlt : i < k
  ·have hsz := hb.size
   have hri := HLT.out i hlt
   have c1 := Stays.of_below hb _ _ (HQ.out i hlt)
   have c2 := Stays.of_below hb _ _ (HC.out (R i) hri)
   have r1 := (HR.out (R i) hri).keep (Stays.of_below hb)
   have hbl : bs (R i) < wr.heap.size := World.block_lt_of_cell? wr _ (r1 0 (by omega))
   obtain ⟨g1, cp1, w1, hr1, hg1, ho1, hb1⟩ := copy0 wr w.heap.size hsz ⟨bs (R i), os (R i), none⟩ m (C (R i)) (X (R i)) (by omega) (vals_cells (fun j hj => by
    rw [World.cell?_alloc_lt _ _ _ hbl]; exact r1 j hj))
   have c1a : (wr.alloc (.cells #[] 5)).cell? ⟨bq, oq + i, none⟩ = some (.int .i64 ((R i : Nat) : Int)) := by rw [World.cell?_alloc_lt _ _ _ (World.block_lt_of_cell? wr _ c1)]; exact c1
   have c2a : (wr.alloc (.cells #[] 5)).cell? ⟨b, o + R i, none⟩ = some (.slice (some ⟨bs (R i), os (R i), none⟩) m (C (R i))) := by rw [World.cell?_alloc_lt _ _ _ (World.block_lt_of_cell? wr _ c2)]; exact c2
   have HV := hid hv
   have HB := hid hb
   have HR1 := hid hr1
   have O1 := hid ho1
   have B1 := hid hb1
   have hsz1 := hb1.size
   have HT := hid (HV.out.top_alloc B1.out (.cells #[.slice (some ⟨g1, 0, none⟩) m cp1] 22))
   have HN := hid (news_one w1 (.slice (some ⟨g1, 0, none⟩) m cp1))
   clear hv hb r1 hr1 ho1 hb1 HC HR HQ HLT
   go_wp2_with (first | (at_builtin; refine wpList_append_run (.tmp 41) (.tmp 48) 22 rfl (by first | rfl | simp [Region.wanted, yielded]) _ _ (.slice (some ⟨g1, 0, none⟩) m cp1) rfl rfl HR1.out ?_) | (at_builtin; refine wpList_append_lies _ rfl (.tmp 40) (.tmp 50) 24 rfl w.heap.size 22 i0 (.slice none 0 0) 1 24 Tryz.underlying24 hi0 hz0 hz1 hz2 rfl (by omega) u7 i _ rfl HT.out ⟨w1.heap.size, 0, none⟩ 1 1 [.slice (some ⟨g1, 0, none⟩) m cp1] rfl rfl HN.out (by intro u hu; simp at hu; subst hu; rfl) (by omega) (by unfold maxLen; omega) (by omega) (by simp; omega) _ rfl ?_; intro gg cap w4 hown4 hgrow hat hlt4))
   have HX := hid (HV.out.push B1.out g1 cp1 cp1 hg1 O1.out hgrow hown4)
   have HBX := hid (HV.out.bound (HB.out.trans (B1.out.mono hsz)) (by omega) hgrow)
   clear hown4 hgrow hat hlt4 HT HN HV HB O1 B1
   go_wp2
   go_roundw
   case rel => exact ⟨i + 1, _, _, by omega, by go_num, HX.out, HBX.out⟩
   case measure => simp [intOf]; omega
  ·have e : i = k := by omega
   subst e
   obtain ⟨g, c, rfl, hm⟩ := hv.toMat (by omega)
   have HM := hid hm
   have HB := hid hb
   clear hv hb hm HC HR HQ HLT
   go_wp2
   go_ret2
   exact ⟨g, c, G, Q, rfl, HM.out, HB.out⟩
end Go.Proofs.YtopibkoklagceaaGreat.U

/- Contracts of Mended and Mend of the document's own answer: as the program's; what was there is as it was. -/
namespace Go.Proofs.YtopibkoklagceaaGreat.U
open Go.RowKit

/-- What is gathered of the shards that are there: their numbers, and their values. -/
structure GatAt (w wr : World) (vr vl : Value) (T : List Nat) (AS : Nat → Option Addr) (L CS : Nat → Nat) : Prop where
 nums : wr.ownsRow w.heap.size 3 1 vr T.length (pivV T)
 lists : wr.ownsRow w.heap.size 22 1 vl T.length (vals T.length fun i => .slice (AS (pl T i)) (L (pl T i)) (CS (pl T i)))
 bel : Below w.heap.size w wr
theorem gat_nums {w1 wr w5 : World} {vr vl : Value} {T : List Nat} {AS : Nat → Option Addr} {L CS : Nat → Nat} {r g5 cap5 : Nat} (hg : GatAt w1 wr vr vl T AS L CS)
  (hown5 : w5.ownsRow w1.heap.size 3 1 (.slice (some ⟨g5, 0, none⟩) (T.length + 1) cap5) (T.length + 1) (pivV T ++ [.int .i64 ((r : Nat) : Int)])) (hgrow5 : (wr.alloc (.cells #[.int .i64 ((r : Nat) : Int)] 3)).grownBy w5 vr.ownBlock) :
  Hid (w5.ownsRow w1.heap.size 3 1 (.slice (some ⟨g5, 0, none⟩) (T.length + 1) cap5) (T.length + 1) (pivV (T ++ [r]))) ∧ Hid (w5.ownsRow w1.heap.size 22 1 vl T.length (vals T.length fun i => .slice (AS (pl T i)) (L (pl T i)) (CS (pl T i)))) ∧ Hid (Below w1.heap.size w1 w5) := by
 have hsz := hg.bel.size
 have hla := hg.lists.alloc (.cells #[.int .i64 ((r : Nat) : Int)] 3)
 have hna := hg.nums.alloc (.cells #[.int .i64 ((r : Nat) : Int)] 3)
 exact ⟨hid (by rw [pivV_append]; exact hown5), hid (own_keepV hla (fun b q => hgrow5.block b (hla.lt b q).2 (fun q2 => own_ne hla hna (by decide) q q2.symm))), hid (Below.grown (hg.bel.alloc hsz _) hgrow5 (by simp; omega) (fun b hb => (hg.nums.lt b hb).1))⟩
theorem pl_append (T : List Nat) (x i : Nat) (h : i < T.length) : pl (T ++ [x]) i = pl T i := by
 unfold pl; rw [List.getElem?_append_left h]
theorem pl_last (T : List Nat) (x : Nat) : pl (T ++ [x]) T.length = x := by
 unfold pl; rw [List.getElem?_append_right (Nat.le_refl _)]; simp

set_option maxRecDepth 100000 in
set_option maxHeartbeats 8000000 in
theorem rmended_any (pS pH : Option Addr) (k m l cS cH : Nat) (AS : Nat → Option Addr) (L CS : Nat → Nat) (S : Nat → Nat → K) (H : Nat → Bool) (w : World)
  (hS : MatAt w pS (k + m) AS L CS S) (hH : BoolsAt w pH (k + m) H) (h0 : 1 ≤ k) (h1 : 1 ≤ m) (h : k + m ≤ 16) (hl : l ≤ 65536) (hL : ∀ i, i < k + m → H i = true → L i = l) (hge : k ≤ cn H (k + m)) :
  Calls Tryz.prog 63 #[.slice pS (k + m) cS, .slice pH (k + m) cH, .int .i64 k, .int .i64 m] w fun e w' => ∃ g cp G, e = .returned (.slice (some ⟨g, 0, none⟩) (k + m) cp) ∧ OwnMat w.heap.size w' g cp (k + m) l G (fun _ => l) (mdd k (k + m) H S) ∧ Below w.heap.size w w' := by
 obtain ⟨i0, hi0, hz0, hz1, hz2⟩ := info_parts Tryz.info22
 obtain ⟨j0, hj0, jz0, jz1, jz2⟩ := info_parts Tryz.info3
 have RS := hid hS
 have RH := hid hH
 have HL := hid hL
 have TL : Hid (∀ i, i < k → pl (tk H k (k + m)) i < k + m ∧ H (pl (tk H k (k + m)) i) = true) := fun i hi => tk_lt hge i hi
 have RK := hid (tk_rank k (k + m) H (by omega) (by omega) hge)
 have LK : Hid ((tk H k (k + m)).length = k) := hid (by rw [tk_len]; omega)
 clear hS hH hL hge
 go_enter Tryz.func63, Tryz.ntmps63
 go_wp2_with fail
 refine (rcode_any k m w h0 h1 h).mono ?_
 rintro e w1 ⟨gC, cC, GC, QC, rfl, hmC, hb1⟩
 have MC := hid hmC.toMat
 have B1 := hid hb1
 have hs01 := hb1.size
 clear hmC hb1
 go_wp2_with fail
 go_loopw [11, 12, 13] (fun vr vl x wr => ∃ r : Nat, r ≤ k + m ∧ x = .int .i64 r ∧ GatAt w1 wr vr vl (tk H k r) AS L CS) (fun _ _ x _ => ((k + m : Nat) - intOf x).toNat)
 case atStart => exact ⟨0, by omega, rfl, World.ownsRow_nil _ _ _ _, World.ownsRow_nil _ _ _ _, Below.refl _ _⟩
 case round =>
  obtain ⟨r, hr, rfl, hg⟩ := hrel
  have hlen := tk_len H k r
  have hcn := cn_le H r
  obtain ⟨pv, cv, rfl, _⟩ := own_len hg.nums
  obtain ⟨pw, cw, rfl, _⟩ := own_len hg.lists
  by_cases hgo : r < k + m ∧ (tk H k r).length < k
  ·obtain ⟨hlt, hlk⟩ := hgo
   obtain ⟨bH, oH, rfl, hcH⟩ := RH.out.pos (by omega)
   obtain ⟨bS, oS, rfl, hcS⟩ := RS.out.top.pos (by omega)
   have c1 := Stays.of_below (B1.out.then hg.bel) _ _ (hcH r hlt)
   have c1w := hid (hcH r hlt)
   have c2w := hid (hcS r hlt)
   have HG := hid hg
   have hsz := hg.bel.size
   clear hg hcH hcS RS RH HL TL RK LK MC
   cases hq : H r with
   | false =>
    rw [hq] at c1
    have HT := hid (tk_off (k := k) hq)
    clear hlen hcn
    go_wp2
    go_roundw
    case rel => exact ⟨r + 1, by omega, by go_num, by rw [HT.out]; exact HG.out⟩
    case measure => simp [intOf]; omega
   | true =>
    rw [hq] at c1
    have HT := hid (tk_on (H := H) (k := k) (i := r) hlk hq)
    have hll : (tk H k r).length ≤ 16 := by omega
    obtain ⟨T, hT⟩ : ∃ T, T = tk H k r := ⟨_, rfl⟩
    rw [← hT] at HG HT hll hlk ⊢
    clear hlen hcn hT
    have HN : Hid (∀ q u, [Value.int .i64 ((r : Nat) : Int)][q]? = some u → (wr.alloc (.cells #[.int .i64 ((r : Nat) : Int)] 3)).cell? ((⟨wr.heap.size, 0, none⟩ : Addr).add q) = some u) :=
     World.news_of_block (cs := #[.int .i64 ((r : Nat) : Int)]) (t := 3) (fr := (0, 0)) (heap_alloc_new _ _)
    go_wp2_with (first
     | (at_builtin; refine wpList_append_lies _ rfl (.tmp 41) (.tmp 43) 47 rfl w1.heap.size 3 j0 (.int .i64 0) 1 8 Tryz.underlying47 hj0 jz0 jz1 jz2 rfl (by omega) (.slice pv T.length cv) T.length (pivV T) rfl (HG.out.nums.alloc _) ⟨wr.heap.size, 0, none⟩ 1 1 [.int .i64 ((r : Nat) : Int)] rfl rfl HN.out (by intro u hu; simp at hu; subst hu; rfl) (by omega) (by unfold maxLen; omega) (by omega) (by simp; omega) _ rfl ?_; intro g5 cap5 w5 hown5 hgrow5 hat5 hlt5; obtain ⟨N5, L5, B5⟩ := gat_nums HG.out hown5 hgrow5; have hsz5 := B5.out.size; have c3 := Stays.of_below (B1.out.then B5.out) _ _ c2w.out; clear hown5 hgrow5 hat5 hlt5)
     | (at_builtin; refine wpList_append_lies _ rfl (.tmp 45) (.tmp 50) 24 rfl w1.heap.size 22 i0 (.slice none 0 0) 1 24 Tryz.underlying24 hi0 hz0 hz1 hz2 rfl (by omega) (.slice pw T.length cw) T.length _ rfl (L5.out.alloc _) ⟨w5.heap.size, 0, none⟩ 1 1 [.slice (AS r) (L r) (CS r)] rfl rfl (news_one w5 _) (by intro u hu; simp at hu; subst hu; rfl) (by omega) (by unfold maxLen; omega) (by omega) (by simp; omega) _ rfl ?_; intro g6 cap6 w6 hown6 hgrow6 hat6 hlt6))
    have hna := N5.out.alloc (.cells #[.slice (AS r) (L r) (CS r)] 22)
    have hla := L5.out.alloc (.cells #[.slice (AS r) (L r) (CS r)] 22)
    have G6 : Hid (GatAt w1 w6 (.slice (some ⟨g5, 0, none⟩) (T.length + 1) cap5) (.slice (some ⟨g6, 0, none⟩) (T.length + 1) cap6) (T ++ [r]) AS L CS) := hid {
     nums := by
      rw [List.length_append]
      exact own_keep hna (hgrow6.block g5 (own_ge hna).2 (fun q2 => own_ne hna hla (by decide) rfl q2.symm))
     lists := by
      rw [List.length_append]
      show w6.ownsRow w1.heap.size 22 1 (.slice (some ⟨g6, 0, none⟩) (T.length + 1) cap6) (T.length + 1) (vals (T.length + 1) fun i => .slice (AS (pl (T ++ [r]) i)) (L (pl (T ++ [r]) i)) (CS (pl (T ++ [r]) i)))
      rw [vals_succ, pl_last, vals_congr (W := fun i => .slice (AS (pl T i)) (L (pl T i)) (CS (pl T i))) (fun i hi => by rw [pl_append T r i hi])]
      exact hown6
     bel := Below.grown (B5.out.alloc hsz5 _) hgrow6 (by simp; omega) (fun b q => (L5.out.lt b q).1) }
    clear hown6 hgrow6 hat6 hlt6 hna hla N5 L5 B5 HG HN
    go_wp2
    go_roundw
    case rel => exact ⟨r + 1, by omega, by go_num, by rw [HT.out]; exact G6.out⟩
    case measure => simp [intOf]; omega
  ·have ET : Hid (tk H k r = tk H k (k + m)) := hid (by
     by_cases q : r < k + m
     ·exact (tk_end (by omega) (by omega)).symm
     ·rw [show r = k + m by omega])
   have LR : Hid ((tk H k r).length = k) := hid (by rw [ET.out]; exact LK.out)
   have HG := hid hg
   have hlr := LR.out
   clear hg hlen hcn
   rw [hlr] at HG ⊢
   have hn0 := HG.out.nums
   have hl0 := HG.out.lists
   rw [hlr] at hn0 hl0
   obtain ⟨gv, cv', hform, _, hgv⟩ := hn0.form (by omega)
   cases hform
   obtain ⟨gw, cw', hform2, _, hgw⟩ := hl0.form (by omega)
   cases hform2
   have B2 := hid (B1.out.then HG.out.bel)
   have st2 := Stays.of_below B2.out
   have IR : Hid (IntsAt wr (some ⟨gv, 0, none⟩) k (fun i => ((pl (tk H k (k + m)) i : Nat) : Int))) := hid (.inr ⟨gv, 0, rfl, fun i hi => by
    rw [Nat.zero_add, ← ET.out]; exact pivV_cell hn0 i hi hlr⟩)
   have MT : Hid (MatAt wr (some ⟨gw, 0, none⟩) k (fun i => AS (pl (tk H k (k + m)) i)) (fun _ => l) (fun i => CS (pl (tk H k (k + m)) i)) (fun i j => S (pl (tk H k (k + m)) i) j)) := hid {
    top := .inr ⟨_, _, rfl, fun i hi => by
     rw [Nat.zero_add, own_cell hl0 i hi, ET.out, HL.out _ (TL.out i hi).1 (TL.out i hi).2]⟩
    row := fun i hi => by
     have h1 := (RS.out.row _ (TL.out i hi).1).keep st2
     rw [HL.out _ (TL.out i hi).1 (TL.out i hi).2] at h1
     exact h1
    le := fun i hi => by
     have h1 := RS.out.le _ (TL.out i hi).1
     rw [HL.out _ (TL.out i hi).1 (TL.out i hi).2] at h1
     exact h1 }
   have MC2 := hid (MC.out.keep (Stays.of_below HG.out.bel))
   clear HG hn0 hl0 RS RH HL MC st2
   by_cases q9 : r < k + m
   ·clear hgo
    go_wp2_with fail
    refine (rpick_any _ _ (k + m) k _ k _ _ _ (codeX k) (fun i => pl (tk H k (k + m)) i) wr (by omega) (by omega) h0 (by omega) h0 (by omega) MC2.out IR.out (fun i hi => (TL.out i hi).1)).mono ?_
    rintro e w3 ⟨gp, cp, Gp, Qp, rfl, hmp, hb3⟩
    have B3 := hid (B2.out.then hb3)
    have MT3 := hid (MT.out.keep (Stays.of_below hb3))
    have MC3 := hid (MC2.out.keep (Stays.of_below hb3))
    have MP := hid hmp.toMat
    clear hb3 hmp IR MC2 MT B2
    go_wp2_with fail
    refine (rinvert_square _ k _ _ _ (fun i c => codeX k (pl (tk H k (k + m)) i) c) w3 h0 (by omega) (by exact MP.out)).mono ?_
    rintro e w4 ⟨hb4, ⟨hf, _⟩ | ⟨_, gi, ci, Gi, Qi, Y, rfl, hmY, hY⟩⟩
    ·exact absurd hf (by rw [RK.out]; omega)
    have HY : Hid (∀ a b, a < k → b < k → Y a b = ivm k (fun i c => codeX k (pl (tk H k (k + m)) i) c) a b) := hid (fun a b ha hb => ivm_eq RK.out hY a b ha hb)
    have B4 := hid (B3.out.then hb4)
    have MT4 := hid (MT3.out.keep (Stays.of_below hb4))
    have MC4 := hid (MC3.out.keep (Stays.of_below hb4))
    have MY := hid hmY.toMat
    clear hb4 hmY hY MP MT3 MC3 B3
    go_wp2_with fail
    refine (times_any _ _ k k l _ _ _ _ _ _ Y (fun i j => S (pl (tk H k (k + m)) i) j) w4 MY.out MT4.out h0 (by omega) h0 (by omega) hl).mono ?_
    rintro e w5 ⟨g5, c5, G5, rfl, hm5, hb5⟩
    have B5 := hid (B4.out.then hb5)
    have MC5 := hid (MC4.out.keep (Stays.of_below hb5))
    have M5 := hid hm5.toMat
    clear hb5 hm5 MY MT4 MC4 B4
    go_wp2_with fail
    refine (times_any _ _ (k + m) k l _ _ _ _ _ _ (codeX k) (pr k Y (fun i j => S (pl (tk H k (k + m)) i) j)) w5 MC5.out M5.out (by omega) (by omega) h0 (by omega) hl).mono ?_
    rintro e w6 ⟨g6, c6, G6, rfl, hm6, hb6⟩
    have hs5 := B5.out.size
    have HM := hid ((hm6.congr (Y := mdd k (k + m) H S) (fun i _ j _ => by
     unfold mdd
     rw [pr_assoc]
     exact pr_congr (fun _ _ => rfl) (fun q hq => pr_congr (fun u hu => HY.out q u hq hu) (fun _ _ => rfl)))).base hs5)
    have B6 := hid (B5.out.then hb6)
    clear hm6 hb6 MC5 M5 B5
    go_wp2
    go_ret
    exact ⟨g6, c6, G6, rfl, HM.out, B6.out⟩
   ·clear hgo
    go_wp2_with fail
    refine (rpick_any _ _ (k + m) k _ k _ _ _ (codeX k) (fun i => pl (tk H k (k + m)) i) wr (by omega) (by omega) h0 (by omega) h0 (by omega) MC2.out IR.out (fun i hi => (TL.out i hi).1)).mono ?_
    rintro e w3 ⟨gp, cp, Gp, Qp, rfl, hmp, hb3⟩
    have B3 := hid (B2.out.then hb3)
    have MT3 := hid (MT.out.keep (Stays.of_below hb3))
    have MC3 := hid (MC2.out.keep (Stays.of_below hb3))
    have MP := hid hmp.toMat
    clear hb3 hmp IR MC2 MT B2
    go_wp2_with fail
    refine (rinvert_square _ k _ _ _ (fun i c => codeX k (pl (tk H k (k + m)) i) c) w3 h0 (by omega) (by exact MP.out)).mono ?_
    rintro e w4 ⟨hb4, ⟨hf, _⟩ | ⟨_, gi, ci, Gi, Qi, Y, rfl, hmY, hY⟩⟩
    ·exact absurd hf (by rw [RK.out]; omega)
    have HY : Hid (∀ a b, a < k → b < k → Y a b = ivm k (fun i c => codeX k (pl (tk H k (k + m)) i) c) a b) := hid (fun a b ha hb => ivm_eq RK.out hY a b ha hb)
    have B4 := hid (B3.out.then hb4)
    have MT4 := hid (MT3.out.keep (Stays.of_below hb4))
    have MC4 := hid (MC3.out.keep (Stays.of_below hb4))
    have MY := hid hmY.toMat
    clear hb4 hmY hY MP MT3 MC3 B3
    go_wp2_with fail
    refine (times_any _ _ k k l _ _ _ _ _ _ Y (fun i j => S (pl (tk H k (k + m)) i) j) w4 MY.out MT4.out h0 (by omega) h0 (by omega) hl).mono ?_
    rintro e w5 ⟨g5, c5, G5, rfl, hm5, hb5⟩
    have B5 := hid (B4.out.then hb5)
    have MC5 := hid (MC4.out.keep (Stays.of_below hb5))
    have M5 := hid hm5.toMat
    clear hb5 hm5 MY MT4 MC4 B4
    go_wp2_with fail
    refine (times_any _ _ (k + m) k l _ _ _ _ _ _ (codeX k) (pr k Y (fun i j => S (pl (tk H k (k + m)) i) j)) w5 MC5.out M5.out (by omega) (by omega) h0 (by omega) hl).mono ?_
    rintro e w6 ⟨g6, c6, G6, rfl, hm6, hb6⟩
    have hs5 := B5.out.size
    have HM := hid ((hm6.congr (Y := mdd k (k + m) H S) (fun i _ j _ => by
     unfold mdd
     rw [pr_assoc]
     exact pr_congr (fun _ _ => rfl) (fun q hq => pr_congr (fun u hu => HY.out q u hq hu) (fun _ _ => rfl)))).base hs5)
    have B6 := hid (B5.out.then hb6)
    clear hm6 hb6 MC5 M5 B5
    go_wp2
    go_ret
    exact ⟨g6, c6, G6, rfl, HM.out, B6.out⟩
end Go.Proofs.YtopibkoklagceaaGreat.U

/- Contracts of Mend, Join, all and Sound of the document's own answer: as the program's; what was there is as it was. -/
namespace Go.Proofs.YtopibkoklagceaaGreat.U
open Go.RowKit

/-- A row put behind what is there. -/
theorem more_run {w : World} {B n : Nat} {v : Value} {xs : List Value} (hv : w.ownsRow B 5 1 v n xs) (g l c : Nat) (y : Nat → K) (hy : ∀ j, j < l → w.cell? ⟨g, j, none⟩ = some (kv (y j))) (hn : n + l ≤ 2000000) (hB : B ≤ w.heap.size) :
  ∃ v' w', (Builtin.append_ #[22, 22] 22 #[v, .slice (some ⟨g, 0, none⟩) l c]).run Tryz.prog w = .ok v' w' ∧ w'.ownsRow B 5 1 v' (n + l) (xs ++ vals l fun j => kv (y j)) ∧ w.grownBy w' v.ownBlock := by
 obtain ⟨i0, hi0, hz0, hz1, hz2⟩ := info_parts Tryz.info5
 obtain ⟨v', w', hr, h2, h3, _, _⟩ := run_append_own_at (P := Tryz.prog) w B 22 22 5 i0 (.int .u8 0) 1 1 Tryz.underlying22 hi0 hz0 hz1 hz2 rfl (by decide) v n xs hv ⟨g, 0, none⟩ l c (vals l fun j => kv (y j)) (by rw [vals_len, Nat.mul_one]) (vals_cells (fun j hj => by rw [Nat.zero_add]; exact hy j hj)) (by intro u hu; unfold vals at hu; obtain ⟨i, _, rfl⟩ := List.mem_map.1 hu; rfl) (by unfold maxLen; omega) (by omega) hB
 exact ⟨v', w', hr, h2, h3⟩
theorem jnd_vals (l r : Nat) (X : Nat → Nat → K) : (vals (r * l) fun j => kv (jnd l X j)) ++ (vals l fun j => kv (X r j)) = vals ((r + 1) * l) fun j => kv (jnd l X j) := by
 rw [vals_append, show (r + 1) * l = r * l + l by rw [Nat.add_mul, Nat.one_mul]]
 refine vals_congr (fun j hj => ?_)
 by_cases q : j < r * l
 ·rw [if_pos q]
 ·rw [if_neg q]
  have := jnd_at l r (j - r * l) X (by omega)
  rw [show r * l + (j - r * l) = j by omega] at this
  rw [this]
theorem run_hi22 (p : Option Addr) (n c k : Nat) (hp : ∀ a, p = some a → ∃ b o, a = ⟨b, o, none⟩) (hk : k ≤ c) (w : World) : (Instr.slice 22 (.slice p n c) none (some (.int .i64 (k : Int))) none).run Tryz.prog w = .ok (.slice p k c) w := by
 rw [run_slice_h (P := Tryz.prog) w 22 p n c under41 .i64 (k : Int) (by omega) (by omega), size41]
 cases p with
 | none => simp [Result.andThen, sliced]
 | some a =>
  obtain ⟨b, o, rfl⟩ := hp a rfl
  by_cases h0 : c = 0
  ·simp [Result.andThen, sliced, h0]
  ·simp [Result.andThen, sliced, h0, Addr.add]

set_option maxRecDepth 100000 in
set_option maxHeartbeats 8000000 in
theorem rjoin_any (pS pH : Option Addr) (ns nh cS cH k m s : Nat) (AS : Nat → Option Addr) (L CS : Nat → Nat) (S : Nat → Nat → K) (H : Nat → Bool) (w : World) (hS : MatAt w pS ns AS L CS S) (hH : BoolsAt w pH nh H) (h0 : 1 ≤ k) (h1 : 1 ≤ m) (h : k + m ≤ 16) (hs : s ≤ 65536) :
  Calls Tryz.prog 41 #[.slice pS ns cS, .slice pH nh cH, .int .i64 k, .int .i64 m, .int .i64 s] w fun e w' => Below w.heap.size w w' ∧ ((errMd k m ns nh H L ((lgt s k : Nat) : Int) ≠ 0 ∧ e = .returned (.tuple #[.slice none 0 0, .int .i64 (errMd k m ns nh H L ((lgt s k : Nat) : Int))])) ∨
   (errMd k m ns nh H L ((lgt s k : Nat) : Int) = 0 ∧ ∃ p c, e = .returned (.tuple #[.slice p s c, .int .i64 0]) ∧ StrAt w' p s (fun j => (jnd (lgt s k) (mdd k (k + m) H S) j).val) ∧ s ≤ c ∧ (p = none → c = 0))) := by
 have RS := hid hS
 have RH := hid hH
 have hll := lgt_le s k hs h0
 clear hS hH
 go_enter Tryz.func41, Tryz.ntmps41
 go_wp2_with fail
 refine (may_ok k m w h0 h1 h).mono ?_
 rintro e w' ⟨rfl, hw⟩
 have hw2 := hw.symm
 subst hw2
 clear hw
 go_wp2_with fail
 refine (rlong_any s k w hs h0 (by omega)).mono ?_
 rintro e w' ⟨rfl, hw⟩
 have hw2 := hw.symm
 subst hw2
 clear hw
 go_wp2_with fail
 refine (rwrong_any _ _ ns _ nh _ k m AS L CS H ((lgt s k : Nat) : Int) w (by omega) (by omega) RS.out.top RH.out).mono ?_
 rintro e w' ⟨rfl, hw⟩
 have hw2 := hw.symm
 subst hw2
 clear hw
 by_cases he : errMd k m ns nh H L ((lgt s k : Nat) : Int) = 0
 ·have ht : errMt ns nh (k + m) H L ((lgt s k : Nat) : Int) = 0 := Classical.byContradiction (fun q => by rw [errMd_bad q] at he; exact q he)
  obtain ⟨rfl, rfl, hL1, hL2⟩ := errMt_zero ht
  have hcn : k ≤ cn H (k + m) := Classical.byContradiction (fun q => by rw [errMd_few ht (by omega)] at he; exact absurd he (by decide))
  have HL : Hid (∀ i, i < k + m → H i = true → L i = lgt s k) := fun i hi hq => by
   have h2 := hL2 i hi hq
   rw [lenSt_ge (by omega)] at h2
   omega
  have HE := hid he
  have hroom := lgt_room s k h0
  rw [he]
  clear he ht hL1 hL2
  go_wp2_with fail
  refine (rmended_any pS pH k m (lgt s k) _ _ AS L CS S H w RS.out RH.out h0 h1 h hll HL.out hcn).mono ?_
  rintro e w2 ⟨g, cp, G, rfl, hm2, hb2⟩
  have B2 := hid hb2
  have M2 := hid hm2
  obtain ⟨l, hl⟩ : ∃ l, l = lgt s k := ⟨_, rfl⟩
  rw [← hl] at M2 hroom hll ⊢
  have HLL := hid hl
  clear hb2 hm2 hl HL RS RH hcn
  go_wp2_with fail
  go_loopw [14, 15] (fun v x wr => ∃ r : Nat, r ≤ k ∧ x = .int .i64 r ∧ wr.ownsRow w2.heap.size 5 1 v (r * l) (vals (r * l) fun j => kv (jnd l (mdd k (k + m) H S) j)) ∧ Below w2.heap.size w2 wr) (fun _ x _ => (k - intOf x).toNat)
  case atStart => exact ⟨0, by omega, rfl, by rw [Nat.zero_mul]; exact World.ownsRow_nil _ _ _ _, Below.refl _ _⟩
  case round =>
   obtain ⟨r, hr, rfl, hv, hb⟩ := hrel
   by_cases hlt : r < k
   ·have hmr := M2.out.stay hb
    have c1 := hmr.topCell r (by omega)
    have hsz := hb.size
    have hrl : r * l ≤ 16 * 65536 := Nat.mul_le_mul (by omega) hll
    obtain ⟨v', w', hr1, ho1, hg1⟩ := more_run hv (G r) l l (mdd k (k + m) H S r) (fun j hj => hmr.cell r j (by omega) hj) (by omega) hsz
    have HR1 := hid hr1
    have HO : Hid (w'.ownsRow w2.heap.size 5 1 v' ((r + 1) * l) (vals ((r + 1) * l) fun j => kv (jnd l (mdd k (k + m) H S) j))) := hid (by
     rw [jnd_vals] at ho1
     rw [show r * l + l = (r + 1) * l by rw [Nat.add_mul, Nat.one_mul]] at ho1
     exact ho1)
    have HB : Hid (Below w2.heap.size w2 w') := hid (Below.grown hb hg1 (by omega) (fun b q => (hv.lt b q).1))
    clear hv hb hmr hr1 ho1 hg1 M2
    go_wp2_with (at_builtin; refine wpList_append_run (.tmp 49) (.tmp 53) 22 rfl (by first | rfl | simp [Region.wanted, yielded]) _ _ v' rfl rfl HR1.out ?_)
    go_roundw
    case rel => exact ⟨r + 1, by omega, by go_num, HO.out, HB.out⟩
    case measure => simp [intOf]; omega
   ·have e : r = k := by omega
    subst e
    obtain ⟨pv, cv, rfl, hcv⟩ := own_len hv
    have hpl : ∀ a, pv = some a → ∃ b o, a = ⟨b, o, none⟩ := fun a q => by
     rcases hv.2 with ⟨z, _⟩ | ⟨g', cap, cur, z, _⟩
     ·have z1 := (Value.slice.inj z).1
      rw [z1] at q; cases q
     ·have z1 := (Value.slice.inj z).1
      rw [z1] at q; cases q; exact ⟨_, _, rfl⟩
    have hsl := run_hi22 pv (r * l) cv s hpl (by omega)
    have HS : Hid (StrAt wr pv s (fun j => (jnd l (mdd r (r + m) H S) j).val)) := hid (by
     by_cases q0 : s = 0
     ·exact .inl q0
     ·obtain ⟨gv, cv2, z, _, _⟩ := hv.form (by omega)
      have z1 := (Value.slice.inj z).1
      subst z1
      exact .inr ⟨_, _, rfl, fun j hj => by rw [Nat.zero_add]; exact own_cell (V := fun j => kv (jnd l (mdd r (r + m) H S) j)) hv j (by omega)⟩)
    have B3 := hid (B2.out.then hb)
    have HCV : Hid (s ≤ cv ∧ (pv = none → cv = 0)) := hid ⟨by omega, fun q => by
     rcases hv.2 with ⟨z, _⟩ | ⟨g', cap, cur, z, _⟩
     ·exact (Value.slice.inj z).2.2
     ·have z1 := (Value.slice.inj z).1
      rw [z1] at q; cases q⟩
    clear hv hb hpl M2
    go_wp2
    go_ret2
    exact ⟨B3.out, .inr ⟨by rw [HLL.out] at *; exact HE.out, pv, cv, rfl, by rw [← HLL.out]; exact HS.out, HCV.out.1, HCV.out.2⟩⟩
 ·have he' : (errMd k m ns nh H L ((lgt s k : Nat) : Int) != 0) = true := by simpa using he
  have NE := hid he
  clear he
  go_wp2
  go_ret2
  exact ⟨Below.refl _ _, .inl ⟨NE.out, rfl⟩⟩
end Go.Proofs.YtopibkoklagceaaGreat.U
