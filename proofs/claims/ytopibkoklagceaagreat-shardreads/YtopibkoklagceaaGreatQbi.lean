/- Texts laid into one, cut to what is needed: the remark ahead of each part says what is proved there. -/
import Derived.Test.YtopibkoklagceaaGreatQav
import Derived.Test.YtopibkoklagceaaGreatQaw
/- Contract of times of the document's own answer: what a matrix' rows make of lists lies in new memory; what was there is as it was. -/
namespace Go.Proofs.YtopibkoklagceaaGreat.U
open Go.RowKit

/-- The row as far as it was made: list j is added up to place p. -/
def tmRow (X Y : Nat → Nat → K) (i j p : Nat) : Nat → K := fun c => if c < p then sm (fun q => X i q * Y q c) (j + 1) else sm (fun q => X i q * Y q c) j
theorem tmRow_at (X Y : Nat → Nat → K) (i j p : Nat) : tmRow X Y i j p p = sm (fun q => X i q * Y q p) j := by unfold tmRow; rw [if_neg (by omega)]
theorem tmRow_step (X Y : Nat → Nat → K) (i j p c : Nat) : upd (fun c => kv (tmRow X Y i j p c)) p (kv (tmRow X Y i j p p + X i j * Y j p)) c = kv (tmRow X Y i j (p + 1) c) := by
 unfold upd
 by_cases e : c = p
 ·subst e
  rw [if_pos rfl, tmRow_at]
  unfold tmRow
  rw [if_pos (by omega)]; rfl
 ·rw [if_neg e]
  show kv (tmRow X Y i j p c) = kv (tmRow X Y i j (p + 1) c)
  unfold tmRow
  by_cases q : c < p
  ·rw [if_pos q, if_pos (by omega)]
  ·rw [if_neg q, if_neg (by omega)]
theorem tmRow_next (X Y : Nat → Nat → K) (i j l c : Nat) (hc : c < l) : tmRow X Y i j l c = tmRow X Y i (j + 1) 0 c := by
 unfold tmRow; rw [if_pos hc, if_neg (by omega)]
theorem tmRow_start (X Y : Nat → Nat → K) (i c : Nat) : tmRow X Y i 0 0 c = 0 := by
 unfold tmRow; rw [if_neg (by omega)]; rfl

set_option maxRecDepth 100000 in
set_option maxHeartbeats 8000000 in
theorem times_any (p q : Option Addr) (n m l c d : Nat) (A A' : Nat → Option Addr) (C C' : Nat → Nat) (X Y : Nat → Nat → K) (w : World) (h : MatAt w p n A (fun _ => m) C X) (h' : MatAt w q m A' (fun _ => l) C' Y)
  (h0 : 1 ≤ n) (hn : n ≤ 32) (h1 : 1 ≤ m) (hm : m ≤ 32) (hl : l ≤ 65536) :
  Calls Tryz.prog 55 #[.slice p n c, .slice q m d] w fun e w' => ∃ g cp G, e = .returned (.slice (some ⟨g, 0, none⟩) n cp) ∧ OwnMat w.heap.size w' g cp n l G (fun _ => l) (pr m X Y) ∧ Below w.heap.size w w' := by
 obtain ⟨i0, hi0, hz0, hz1, hz2⟩ := info_parts Tryz.info22
 obtain ⟨b, o, rfl, bs, os, hc, hr⟩ := h.at (by omega) (by omega)
 obtain ⟨b', o', rfl, hc'⟩ := h'.top.pos (by omega)
 have HC := hid hc
 have HR := hid hr
 have HC' := hid hc'
 have HR' := hid h'.row
 clear h h' hc hr hc'
 go_enter Tryz.func55, Tryz.ntmps55
 go_wp2
 go_loopw [5, 6] (fun v x wr => ∃ i : Nat, ∃ G : Nat → Nat, i ≤ n ∧ x = .int .i64 i ∧ OwnV w.heap.size wr v i G (fun _ => l) (fun _ => l) (fun _ => l) (fun _ => l) (pr m X Y) ∧ Below w.heap.size w wr) (fun _ x _ => (n - intOf x).toNat)
 case atStart => exact ⟨0, fun _ => 0, by omega, rfl, OwnV.start _ _ _ _ _ _ _ _, Below.refl _ _⟩
 case round =>
  obtain ⟨i, G, hi, rfl, hv, hb⟩ := hrel
  by_cases hlt : i < n
  ·have hsz := hb.size
   have c0 : wr.cell? ⟨b', o', none⟩ = some (.slice (A' 0) l (C' 0)) := by have := Stays.of_below hb _ _ (HC'.out 0 (by omega)); rwa [Nat.add_zero] at this
   have hmk := run_make_u8 l (by omega) wr
   have HRM : Hid (RowMade wr.heap.size wr (wr.alloc (.cells (madeCells #[.int .u8 0] l) 5)) wr.heap.size l (tmRow X Y i 0 0)) := by
    refine ⟨?_, (Below.refl _ _).alloc (Nat.le_refl _) _⟩
    have := own_made wr 5 (.int .u8 0) l wr.heap.size (by omega) (Nat.le_refl _)
    rwa [vals_congr (W := fun c => kv (tmRow X Y i 0 0 c)) (fun c _ => by rw [tmRow_start]; rfl)] at this
   have HV := hid hv
   have HB := hid hb
   clear hv hb
   go_wp2_with fail
   clear hmk c0
   obtain ⟨wo, hwo⟩ : ∃ wo, wo = wr := ⟨_, rfl⟩
   subst hwo
   go_loopw [8] (fun x wy => ∃ j : Nat, j ≤ m ∧ x = .int .i64 j ∧ RowMade wo.heap.size wo wy wo.heap.size l (tmRow X Y i j 0)) (fun x _ => (m - intOf x).toNat)
   case atStart => exact ⟨0, by omega, rfl, HRM.out⟩
   case round =>
    clear HRM
    obtain ⟨j, hj, rfl, hrm⟩ := hrel
    have HRM := hid hrm
    clear hrm
    by_cases hlt2 : j < m
    ·go_wp2_with fail
     go_loopw [9] (fun x wy => ∃ k : Nat, k ≤ l ∧ x = .int .i64 k ∧ RowMade wo.heap.size wo wy wo.heap.size l (tmRow X Y i j k)) (fun x _ => (l - intOf x).toNat)
     case atStart => exact ⟨0, by omega, rfl, HRM.out⟩
     case round =>
      clear HRM
      obtain ⟨k, hk, rfl, hrm⟩ := hrel
      by_cases hlt3 : k < l
      ·have hbw := HB.out.then hrm.bel
       have e1 := own_cell (V := fun c => kv (tmRow X Y i j k c)) hrm.row k hlt3
       have e2 := hrm.row.frozenAt k
       have e3 := Stays.of_below hbw _ _ (HC.out i hlt)
       have e4 := Stays.of_below hbw _ _ (HR.out i hlt j hlt2)
       have e5 := Stays.of_below hbw _ _ (HC'.out j hlt2)
       obtain ⟨b2, o2, ha2, hr2⟩ : ∃ b2 o2, A' j = some ⟨b2, o2, none⟩ ∧ RowAt w b2 o2 l (fun q => (Y j q).val) := by
        rcases HR'.out j hlt2 with q | q
        ·omega
        ·exact q
       rw [ha2] at e5
       have e6 := Stays.of_below hbw _ _ (hr2 k hlt3)
       have hx := xor_k (tmRow X Y i j k k) (X i j * Y j k)
       have HM := hid ((hrm.set k (tmRow X Y i j k k + X i j * Y j k) (fun c => tmRow_step X Y i j k c)).drew)
       have i1 : (i : Int) < (n : Int) := by omega
       have i2 : (j : Int) < (m : Int) := by omega
       have i3 : (k : Int) < (l : Int) := by omega
       clear hrm hbw HC HR HC' HR' HV HB ha2 hr2
       simp only [kv] at e1
       go_wp2_with fail
       go_region_with ((go_at_call 79; refine (rmul_k _ _ _).mono ?_; rintro e w' ⟨rfl, rfl⟩))
       all_goals (go_wp2; go_roundw; (case rel => exact ⟨k + 1, by omega, by go_num, HM.out⟩); (case measure => simp [intOf]; omega))
      ·have e : k = l := by omega
       have HM := hid (hrm.congr (y := tmRow X Y i (j + 1) 0) (fun c hc => by rw [e]; exact tmRow_next X Y i j l c hc))
       clear e
       clear hrm HC HR HC' HR' HV HB
       go_wp2
       go_roundw
       case rel => exact ⟨j + 1, by omega, by go_num, HM.out⟩
       case measure => simp [intOf]; omega
    ·have HR1 : Hid (wr.ownsRow wo.heap.size 5 1 (.slice (some ⟨wo.heap.size, 0, none⟩) l l) l (vals l fun c => kv (pr m X Y i c))) := by
       have := HRM.out.row
       rwa [vals_congr (W := fun c => kv (pr m X Y i c)) (fun c hc => by unfold tmRow pr; rw [if_neg (by omega), show j = m by omega])] at this
     have HB1 := hid HRM.out.bel
     have HT := hid (HV.out.top_alloc HB1.out (.cells #[.slice (some ⟨wo.heap.size, 0, none⟩) l l] 22))
     have HN := hid (news_one wr (.slice (some ⟨wo.heap.size, 0, none⟩) l l))
     have hsz1 := HB1.out.size
     clear HRM HC HR HC' HR'
     go_wp2_with (at_builtin; refine wpList_append_lies _ rfl _ _ 24 rfl w.heap.size 22 i0 (.slice none 0 0) 1 24 Tryz.underlying24 hi0 hz0 hz1 hz2 rfl (by omega) u5 i _ rfl HT.out ⟨wr.heap.size, 0, none⟩ 1 1 [.slice (some ⟨wo.heap.size, 0, none⟩) l l] rfl rfl HN.out (by intro u hu; simp at hu; subst hu; rfl) (by omega) (by unfold maxLen; omega) (by omega) (by simp; omega) _ rfl ?_; intro gg cap w4 hown4 hgrow hat hlt4)
     have HX := hid (HV.out.push HB1.out wo.heap.size l l (Nat.le_refl _) (own_base HR1.out hsz) hgrow hown4)
     have HBX := hid (HV.out.bound (HB.out.trans (HB1.out.mono hsz)) (by omega) hgrow)
     rw [upd_const] at HX
     clear hown4 hgrow hat hlt4 HT HN HR1 HB1 HV HB
     go_wp2
     go_roundw
     case rel => exact ⟨i + 1, _, by omega, by go_num, HX.out, HBX.out⟩
     case measure => simp [intOf]; omega
  ·have e : i = n := by omega
   subst e
   obtain ⟨g, c, rfl, hm⟩ := hv.toMat (by omega)
   have HM := hid hm
   have HB := hid hb
   clear hv hb hm HC HR HC' HR'
   go_wp2
   go_ret
   exact ⟨g, c, G, rfl, HM.out, HB.out⟩
end Go.Proofs.YtopibkoklagceaaGreat.U
