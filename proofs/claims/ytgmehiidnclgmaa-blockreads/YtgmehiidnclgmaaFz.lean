/- Contract of ApartBytes of the statements' kit. -/
import Derived.Test.YtgmehiidnclgmaaFy
namespace Go.Proofs.Ytgmehiidnclgmaa
open Go Go.RowKit

set_option maxRecDepth 100000 in
set_option maxHeartbeats 8000000 in
theorem apart_any (gt n c : Nat) (A : Nat → Option Addr) (L C G : Nat → Nat) (X : Nat → Nat → Nat) (w : World) (hn : n ≤ 300) (hC : ∀ i, i < n → C i ≤ 100000) (h : Ap w gt n A L C G X) :
    Calls Try.prog 25 #[.slice (some ⟨gt, 0, none⟩) n c] w fun e w' => e = .returned (.bool true) ∧ SpareIn (fun b => ∃ r, r < n ∧ A r ≠ none ∧ b = G r) w w' := by
  have H0 := hid h
  have HC := hid hC
  clear h hC
  go_enter Try.func25, Try.ntmps25
  go_wp2
  go_loopw [3] (fun x wr => ∃ i : Nat, ∃ X : Nat → Nat → Nat, i ≤ n ∧ x = .int .i64 i ∧ Ap wr gt n A L C G X ∧ SpareIn (fun b => ∃ r, r < n ∧ A r ≠ none ∧ b = G r) w wr) (fun x _ => (n - intOf x).toNat)
  case atStart => exact ⟨0, X, by omega, rfl, H0.out, SpareIn.refl _ _⟩
  case round =>
    clear H0 X
    obtain ⟨i, X, hi, rfl, hv, hs⟩ := hrel
    by_cases hlt : i < n
    · have hgt := hv.lt
      have hmk := run_make_tops n (by omega) wr
      have HW0 : Hid (WasAt wr (wr.alloc (.cells (madeCells #[.slice none 0 0] n) 22)) n 0 C X (fun _ => none) (fun _ => 0)) :=
        ⟨(Below.refl _ _).alloc (Nat.le_refl _) _, by unfold RowV; rw [wasV_zero]; exact heap_alloc_new _ _, fun q hq => absurd hq (by omega)⟩
      have HV := hid hv
      have HS := hid hs
      clear hv hs
      go_wp2_with fail
      clear hmk
      obtain ⟨wo, hwo⟩ : ∃ wo, wo = wr := ⟨_, rfl⟩
      subst hwo
      go_loopw [5] (fun x wy => ∃ k : Nat, ∃ (P : Nat → Option Addr) (Q : Nat → Nat), k ≤ n ∧ x = .int .i64 k ∧ WasAt wo wy n k C X P Q) (fun x _ => (n - intOf x).toNat)
      case atStart => exact ⟨0, _, _, by omega, rfl, HW0.out⟩
      case round =>
        clear HW0
        obtain ⟨k, P, Q, hk, rfl, hw⟩ := hrel
        by_cases hlt2 : k < n
        · have t1 : wr.cell? ⟨gt, k, none⟩ = some (.slice (A k) (L k) (C k)) := (hw.bel.cell (p := ⟨gt, k, none⟩) hgt).trans (HV.out.top k hlt2)
          have r0 := (HV.out.stay hw.bel.drew).row k hlt2
          have r1 : StrAt wr.drew (A k) (C k) (X k) := r0.str
          have t2 : wr.cell? ⟨wo.heap.size, k, none⟩ = some (.slice none 0 0) := by rw [hw.top.cell k (by rw [wasV_len]; exact hlt2), wasV_get, if_neg (by omega)]
          have t3 := hw.top.free k
          have hsz := hw.top.lt
          have hck := HC.out k hlt2
          have hs1 := r0.cap
          have i1 : (k : Int) < (n : Int) := by omega
          have HW := hid hw
          have R1 := hid r1
          have R0 := hid r0.none
          clear hw r1 r0 HC
          go_wp2_with fail
          go_region_held3 (fun w' => w'.cell? ⟨gt, k, none⟩ = some (.slice (A k) (L k) (C k))) (first | exact (hbz.cell (p := ⟨gt, k, none⟩) (by show gt < _; have := HW.out.bel.size; simp; omega)).trans t1 | exact far_top hgt ((hbz.cell (p := ⟨gt, k, none⟩) (by show gt < _; have := HW.out.bel.size; simp; omega)).trans t1) | go_keep) (first | (go_at_call 32; refine (copyC_any (A k) (C k) (X k) _ (by omega) R0.out (by exact R1.out)).mono ?_; rintro e wz ⟨p1, c1, rfl, hr1, hg1, hbz⟩; have d1 := (hbz.cell (p := ⟨wo.heap.size, k, none⟩) (by show wo.heap.size < _; simp; omega)).trans t2; have d2 := (hbz.frozen (p := ⟨wo.heap.size, k, none⟩) (by show wo.heap.size < _; simp; omega)).trans t3))
          have hbz' : Below wr.heap.size wr wz := (Below.refl _ _).drew.trans hbz
          have HP := hid (HW.out.push hlt2 hbz' p1 c1 hr1 hg1)
          clear hr1 hbz hbz' HW R1 R0 t1 t2 t3 d1 d2 hs1 hg1
          go_wp2
          go_roundw
          case rel => exact ⟨k + 1, _, _, by omega, by go_num, HP.out⟩
          case measure => simp [intOf]; omega
        · have e : k = n := by omega
          subst e
          have t1 : wr.cell? ⟨gt, i, none⟩ = some (.slice (A i) (L i) (C i)) := (hw.bel.cell (p := ⟨gt, i, none⟩) hgt).trans (HV.out.top i hlt)
          have HW := hid hw
          have HVy := hid (HV.out.stay hw.bel)
          have HSy := hid (HS.out.after hw.bel)
          have hci := HC.out i hlt
          have HGI : Hid (A i ≠ none → G i < wo.heap.size) := fun q => by rcases HV.out.row i hlt with e | e; exact absurd e.1 q; exact e.2.2
          clear hw HV HS
          go_wp2_with fail
          refine (overO_any (A i) (L i) (C i) (G i) (X i) wr hci (HVy.out.row i hlt)).mono ?_
          rintro e wb ⟨rfl, ho, x2, hx2⟩
          obtain ⟨Xb, hVb, hXb⟩ := HVy.out.oneRow hlt ho hx2
          have HVb := hid hVb
          have HSb := hid (HSy.out.onlyIf ho (fun q => ⟨i, hlt, q, rfl⟩))
          have HSM : Hid (∀ q, q < k → q ≠ i → StrAt wb (A q) (C q) (X q) ∧ StrAt wb (P q) (C q) (X q)) := fun q hq hne => by
            refine ⟨by have h1 := (hVb.row q hq).str; rw [hXb q hne] at h1; exact h1, ?_⟩
            have h1 := HW.out.row q hq
            exact h1.1.blocks (fun a ha => ho.block _ (fun z e => by
              have a1 := (h1.2 a ha).1
              have a2 := HGI.out z
              omega))
          have HT1 : Hid (∀ q, q < k → wb.cell? ⟨gt, q, none⟩ = some (.slice (A q) (L q) (C q)) ∧ wb.cell? ⟨wo.heap.size, q, none⟩ = some (.slice (P q) (C q) (Q q))) := fun q hq => by
            refine ⟨hVb.top q hq, ?_⟩
            have h2 : wb.heap[wo.heap.size]? = wr.heap[wo.heap.size]? := ho.block _ (fun z e => by have a2 := HGI.out z; omega)
            rw [(HW.out.top.keep h2).cell q (by rw [wasV_len]; exact hq), wasV_get, if_pos hq]
          have HPL : Hid (∀ q, q < k → ∀ w1 : World, (Instr.slice 22 (.slice (A q) (L q) (C q)) none (some (.int .i64 (C q : Int))) none).run Try.prog w1 = .ok (.slice (A q) (C q) (C q)) w1) := fun q hq => (hVb.row q hq).cap
          have hgb : gt < wb.heap.size := hVb.lt
          clear hx2 ho HVy HSy HW t1 hVb hXb
          go_wp2_with fail
          go_loopw [6] (fun x wy => ∃ q z : Nat, q ≤ k ∧ x = .int .i64 q ∧ wy = wb.drewN z) (fun x _ => (k - intOf x).toNat)
          case atStart => exact ⟨0, 0, by omega, rfl, rfl⟩
          case round =>
            obtain ⟨q, z, hq, rfl, hwy⟩ := hrel
            have HWY := hid hwy
            by_cases hlt3 : q < k
            · have t1 : wr.cell? ⟨gt, q, none⟩ = some (.slice (A q) (L q) (C q)) := by rw [hwy]; simpa using (HT1.out q hlt3).1
              have t2 : wr.cell? ⟨wo.heap.size, q, none⟩ = some (.slice (P q) (C q) (Q q)) := by rw [hwy]; simpa using (HT1.out q hlt3).2
              have i1 : (q : Int) < (k : Int) := by omega
              have hs1 := HPL.out q hlt3
              by_cases hqi : q = i
              · have hqi' : ((q : Int) != (i : Int)) = false := by rw [hqi]; simp
                clear hwy hqi
                go_wp2_with fail
                go_quiet (fail)
                go_wp2
                go_roundw
                case rel => exact ⟨q + 1, z + nq, by omega, by go_num, by rw [HWY.out, World.drewN_drewN]⟩
                case measure => simp [intOf]; omega
              · have hqi' : ((q : Int) != (i : Int)) = true := by simp; omega
                have hss := HSM.out q hlt3 hqi
                have S1 : Hid (StrAt wr (A q) (C q) (X q)) := by rw [hwy]; exact hss.1.below (Below.drewN' (Below.refl _ _) _)
                have S2 : Hid (StrAt wr (P q) (C q) (X q)) := by rw [hwy]; exact hss.2.below (Below.drewN' (Below.refl _ _) _)
                clear hwy hqi hss
                go_wp2_with fail
                go_quiet ((go_at_call 14; refine Calls.quiet_of_same (same_true _ _ (C q) _ _ (X q) _ (by exact S1.out) (by exact S2.out))))
                go_wp2
                go_roundw
                case rel => exact ⟨q + 1, z + nq, by omega, by go_num, by rw [HWY.out, World.drewN_drewN]⟩
                case measure => simp [intOf]; omega
            · have hbd : Below wb.heap.size wb wr := by rw [hwy]; exact Below.drewN' (Below.refl _ _) _
              have t1 : wr.cell? ⟨gt, i, none⟩ = some (.slice (A i) (L i) (C i)) := (hbd.cell (p := ⟨gt, i, none⟩) hgb).trans (HT1.out i hlt).1
              have HVc := hid (HVb.out.stay hbd)
              have HSc := hid (HSb.out.after hbd)
              clear hwy hbd
              go_wp2_with fail
              refine (overO_any (A i) (L i) (C i) (G i) _ wr hci (HVc.out.row i hlt)).mono ?_
              rintro e wd ⟨rfl, ho2, x3, hx3⟩
              obtain ⟨Xd, hVd, _⟩ := HVc.out.oneRow hlt ho2 hx3
              have HVd := hid hVd
              have HSd := hid (HSc.out.onlyIf ho2 (fun q => ⟨i, hlt, q, rfl⟩))
              clear hx3 ho2 HVc HSc HVb HSb t1 hVd
              go_wp2
              go_roundw
              case rel => exact ⟨i + 1, _, by omega, by go_num, HVd.out, HSd.out⟩
              case measure => simp [intOf]; omega
    · have HS := hid hs
      clear hv hs HC
      go_wp2
      go_ret
      exact ⟨rfl, HS.out⟩
end Go.Proofs.Ytgmehiidnclgmaa
