/- Contract of Split of the document's own answer: as the program's; what was there is as it was. -/
import Derived.Test.YtapgdenodhcliaaSv
import Derived.Test.YtapgdenodhcliaaSt
namespace Go.Proofs.Ytapgdenodhcliaa
open Go.RowKit

set_option maxRecDepth 100000 in
set_option maxHeartbeats 1000000 in
theorem rsplit_err (p : Option Addr) (n c : Nat) (k m : Int) (w : World) (hk : -9223372036854775808 ≤ k) (hk' : k ≤ 9223372036854775807) (hm : -9223372036854775808 ≤ m) (hm' : m ≤ 9223372036854775807) (h : k < 1 ∨ m < 1 ∨ 16 < k + m) :
    Calls Try.prog 11 #[.slice p n c, .int .i64 k, .int .i64 m] w fun e w' => e = .returned (.tuple #[.slice none 0 0, .int .i64 5]) ∧ w' = w := by
  go_enter Try.func11, Try.ntmps11
  go_wp2_with fail
  refine (may_bad k m w hk hk' hm hm' h).mono ?_
  rintro e w' ⟨rfl, hw⟩
  have hw2 := hw.symm
  subst hw2
  clear hw h
  go_wp2
  go_ret2
  exact ⟨rfl, rfl⟩
set_option maxRecDepth 100000 in
set_option maxHeartbeats 1000000 in
theorem rsplit_long (p : Option Addr) (n c k m : Nat) (w : World) (h0 : 1 ≤ k) (h1 : 1 ≤ m) (h : k + m ≤ 16) (hn : 65536 < n) :
    Calls Try.prog 11 #[.slice p n c, .int .i64 k, .int .i64 m] w fun e w' => e = .returned (.tuple #[.slice none 0 0, .int .i64 3]) ∧ w' = w := by
  go_enter Try.func11, Try.ntmps11
  go_wp2_with fail
  refine (may_ok k m w h0 h1 h).mono ?_
  rintro e w' ⟨rfl, hw⟩
  have hw2 := hw.symm
  subst hw2
  clear hw
  go_wp2
  go_ret2
  exact ⟨rfl, rfl⟩
theorem dsh_step (l n i j : Nat) (x : Nat → K) (c : Nat) (v : K) (hv : v = dsh l n x i j) : upd (fun c => kv (if c < j then dsh l n x i c else 0)) j (kv v) c = kv (if c < j + 1 then dsh l n x i c else 0) := by
  unfold upd
  by_cases e : c = j
  · subst e; rw [if_pos rfl, if_pos (by omega), hv]
  · rw [if_neg e]
    show kv (if c < j then dsh l n x i c else 0) = _
    by_cases q : c < j
    · rw [if_pos q, if_pos (by omega)]
    · rw [if_neg q, if_neg (by omega)]

set_option maxRecDepth 100000 in
set_option maxHeartbeats 8000000 in
theorem rsplit_ok (p : Option Addr) (n c k m : Nat) (x : Nat → K) (w : World) (h0 : 1 ≤ k) (h1 : 1 ≤ m) (h : k + m ≤ 16) (hn : n ≤ 65536) (hx : StrAt w p n fun j => (x j).val) :
    Calls Try.prog 11 #[.slice p n c, .int .i64 k, .int .i64 m] w fun e w' => ∃ g cp G, e = .returned (.tuple #[.slice (some ⟨g, 0, none⟩) (k + m) cp, .int .i64 0]) ∧ OwnMat w.heap.size w' g cp (k + m) (lgt n k) G (fun _ => lgt n k) (ash k (lgt n k) n x) ∧ Below w.heap.size w w' := by
  obtain ⟨i0, hi0, hz0, hz1, hz2⟩ := info_parts Try.info22
  have HX := hid hx
  have hll := lgt_le n k hn h0
  clear hx
  go_enter Try.func11, Try.ntmps11
  go_wp2_with fail
  refine (may_ok k m w h0 h1 h).mono ?_
  rintro e w' ⟨rfl, hw⟩
  have hw2 := hw.symm
  subst hw2
  clear hw
  go_wp2_with fail
  refine (rlong_any n k w hn h0 (by omega)).mono ?_
  rintro e w' ⟨rfl, hw⟩
  have hw2 := hw.symm
  subst hw2
  clear hw
  obtain ⟨l, hl⟩ : ∃ l, l = lgt n k := ⟨_, rfl⟩
  rw [← hl]
  have HLL := hid hl
  rw [← hl] at hll
  clear hl
  go_wp2_with fail
  go_loopw [9, 10] (fun v y wr => ∃ i : Nat, ∃ G : Nat → Nat, i ≤ k ∧ y = .int .i64 i ∧ OwnV w.heap.size wr v i G (fun _ => l) (fun _ => l) (fun _ => l) (fun _ => l) (dsh l n x) ∧ Below w.heap.size w wr) (fun _ y _ => (k - intOf y).toNat)
  case atStart => exact ⟨0, fun _ => 0, by omega, rfl, OwnV.start _ _ _ _ _ _ _ _, Below.refl _ _⟩
  case round =>
    obtain ⟨i, G, hi, rfl, hv, hb⟩ := hrel
    by_cases hlt : i < k
    · have hsz := hb.size
      have hmk := run_make_u8 l (by omega) wr
      have HRM : Hid (RowMade wr.heap.size wr (wr.alloc (.cells (madeCells #[.int .u8 0] l) 5)) wr.heap.size l (fun c => if c < 0 then dsh l n x i c else 0)) := by
        refine ⟨?_, (Below.refl _ _).alloc (Nat.le_refl _) _⟩
        have := own_made wr 5 (.int .u8 0) l wr.heap.size (by omega) (Nat.le_refl _)
        rwa [vals_congr (W := fun c => kv (if c < 0 then dsh l n x i c else 0)) (fun c _ => by rw [if_neg (by omega)]; rfl)] at this
      have HV := hid hv
      have HB := hid hb
      obtain ⟨q, hq⟩ : ∃ q, q = i * l := ⟨_, rfl⟩
      have hqb : q ≤ 1048576 := by
        have h9 : i * l ≤ 16 * 65536 := Nat.mul_le_mul (by omega) hll
        omega
      have hqi : (i : Int) * (l : Int) = ((q : Nat) : Int) := by rw [hq]; exact (Int.natCast_mul i l).symm
      have HQ := hid hq
      clear hv hb hq
      go_wp2_with fail
      clear hmk
      obtain ⟨wo, hwo⟩ : ∃ wo, wo = wr := ⟨_, rfl⟩
      subst hwo
      go_loopw [12] (fun y wy => ∃ j : Nat, j ≤ l ∧ y = .int .i64 j ∧ RowMade wo.heap.size wo wy wo.heap.size l (fun c => if c < j then dsh l n x i c else 0)) (fun y _ => (l - intOf y).toNat)
      case atStart => exact ⟨0, by omega, rfl, HRM.out⟩
      case round =>
        clear HRM
        obtain ⟨j, hj, rfl, hrm⟩ := hrel
        by_cases hgo : j < l ∧ q + j < n
        · obtain ⟨hlt2, hlt3⟩ := hgo
          obtain ⟨bx, ox, rfl, hxr⟩ : ∃ b o, p = some ⟨b, o, none⟩ ∧ RowAt w b o n fun j => (x j).val := by
            rcases HX.out with z | z
            · omega
            · exact z
          have e1 := own_cell (V := fun c => kv (if c < j then dsh l n x i c else 0)) hrm.row j hlt2
          have e2 := hrm.row.frozenAt j
          have e3 := Stays.of_below (HB.out.then hrm.bel) _ _ (hxr (q + j) hlt3)
          have HM := hid (hrm.set j (x (q + j)) (fun c => dsh_step l n i j x c (x (q + j)) (by unfold dsh; rw [← HQ.out, if_pos hlt3])))
          have hti : (((q : Nat) : Int) + (j : Int)).toNat = q + j := by omega
          clear hrm hxr HV HB HX
          simp only [kv] at e1
          go_wp2
          go_roundw
          case rel => exact ⟨j + 1, by omega, by go_num, HM.out⟩
          case measure => simp [intOf]; omega
        · have HR1 : Hid (wr.ownsRow wo.heap.size 5 1 (.slice (some ⟨wo.heap.size, 0, none⟩) l l) l (vals l fun c => kv (dsh l n x i c))) := by
            have h9 := hrm.row
            rwa [vals_congr (W := fun c => kv (dsh l n x i c)) (fun c hc => by
              by_cases e : c < j
              · rw [if_pos e]
              · rw [if_neg e]; unfold dsh; rw [← HQ.out, if_neg (by omega)])] at h9
          have HB1 := hid hrm.bel
          have HT := hid (HV.out.top_alloc HB1.out (.cells #[.slice (some ⟨wo.heap.size, 0, none⟩) l l] 22))
          have HN := hid (news_one wr (.slice (some ⟨wo.heap.size, 0, none⟩) l l))
          have hsz1 := HB1.out.size
          clear hrm
          by_cases hlt2 : j < l
          · have hlt3 : ¬ q + j < n := by omega
            clear hgo
            go_wp2_with (at_builtin; refine wpList_append_lies _ rfl _ _ 24 rfl w.heap.size 22 i0 (.slice none 0 0) 1 24 Try.underlying24 hi0 hz0 hz1 hz2 rfl (by omega) u9 i _ rfl HT.out ⟨wr.heap.size, 0, none⟩ 1 1 [.slice (some ⟨wo.heap.size, 0, none⟩) l l] rfl rfl HN.out (by intro u hu; simp at hu; subst hu; rfl) (by omega) (by unfold maxLen; omega) (by omega) (by simp; omega) _ rfl ?_; intro gg cap w4 hown4 hgrow hat hlt4)
            have HXX := hid (HV.out.push HB1.out wo.heap.size l l (Nat.le_refl _) (own_base HR1.out hsz) hgrow hown4)
            have HBX := hid (HV.out.bound (HB.out.trans (HB1.out.mono hsz)) (by omega) hgrow)
            rw [upd_const] at HXX
            clear hown4 hgrow hat hlt4 HT HN HR1 HB1 HV HB HX
            go_wp2
            go_roundw
            case rel => exact ⟨i + 1, _, by omega, by go_num, HXX.out, HBX.out⟩
            case measure => simp [intOf]; omega
          · clear hgo
            go_wp2_with (at_builtin; refine wpList_append_lies _ rfl _ _ 24 rfl w.heap.size 22 i0 (.slice none 0 0) 1 24 Try.underlying24 hi0 hz0 hz1 hz2 rfl (by omega) u9 i _ rfl HT.out ⟨wr.heap.size, 0, none⟩ 1 1 [.slice (some ⟨wo.heap.size, 0, none⟩) l l] rfl rfl HN.out (by intro u hu; simp at hu; subst hu; rfl) (by omega) (by unfold maxLen; omega) (by omega) (by simp; omega) _ rfl ?_; intro gg cap w4 hown4 hgrow hat hlt4)
            have HXX := hid (HV.out.push HB1.out wo.heap.size l l (Nat.le_refl _) (own_base HR1.out hsz) hgrow hown4)
            have HBX := hid (HV.out.bound (HB.out.trans (HB1.out.mono hsz)) (by omega) hgrow)
            rw [upd_const] at HXX
            clear hown4 hgrow hat hlt4 HT HN HR1 HB1 HV HB HX
            go_wp2
            go_roundw
            case rel => exact ⟨i + 1, _, by omega, by go_num, HXX.out, HBX.out⟩
            case measure => simp [intOf]; omega
    · have e : i = k := by omega
      subst e
      obtain ⟨g, c9, rfl, hm⟩ := hv.toMat (by omega)
      have MS := hid hm
      have B1 := hid hb
      clear hv hb hm HX
      go_wp2_with fail
      refine (rcode_any i m wr h0 h1 h).mono ?_
      rintro e w2 ⟨gC, cC, GC, QC, rfl, hmC, hb2⟩
      have MC := hid hmC.toMat
      have MS2 := hid (MS.out.toMat.keep (Stays.of_below hb2))
      have B2 := hid (B1.out.then hb2)
      clear hmC hb2 MS B1
      go_wp2_with fail
      refine (times_any _ _ (i + m) i l _ _ _ _ _ _ (codeX i) (dsh l n x) w2 MC.out MS2.out (by omega) (by omega) h0 (by omega) hll).mono ?_
      rintro e w3 ⟨g3, c3, G3, rfl, hm3, hb3⟩
      have hsz3 := B2.out.size
      have HM := hid (hm3.base hsz3)
      have HB := hid (B2.out.then hb3)
      clear hm3 hb3 MC MS2 B2
      go_wp2
      go_ret2
      exact ⟨g3, c3, G3, rfl, by rw [← HLL.out]; exact HM.out, HB.out⟩
end Go.Proofs.Ytapgdenodhcliaa
