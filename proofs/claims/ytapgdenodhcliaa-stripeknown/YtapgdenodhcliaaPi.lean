/- Contract of ApartBytes of the statements' kit, over lists each of which lies whole in a block of its own: it returns true, and touches no block that was there but those. -/
import Derived.Test.YtapgdenodhcliaaPh
namespace Go.Proofs.Ytapgdenodhcliaa
open Go.RowKit

theorem far_top {w : World} {g k b x : Nat} {v u : Value} (h : b < g) (hc : w.cell? ⟨b, x, none⟩ = some u) : (w.setCell ⟨g, k, none⟩ v).cell? ⟨b, x, none⟩ = some u :=
  (World.cell?_setCell_other _ _ _ _ (by intro q; have := congrArg Addr.block q; simp at this; omega)).trans hc

set_option maxRecDepth 100000 in
set_option maxHeartbeats 8000000 in
theorem apart_any (B : Nat) (v : Value) (n : Nat) (G L C : Nat → Nat) (X : Nat → Nat → K) (w : World) (hn : n ≤ 300) (hC : ∀ i, i < n → 1 ≤ C i ∧ C i ≤ 300) (h : OwnV B w v n G L C C C X) :
    Calls Try.prog 16 #[v] w fun e w' => e = .returned (.bool true) ∧ SpareIn (fun b => ∃ r, r < n ∧ b = G r) w w' := by
  obtain ⟨p, c, rfl, _⟩ := own_len h.top
  have H0 := hid h
  have HC := hid hC
  clear h hC
  go_enter Try.func16, Try.ntmps16
  go_wp2
  go_loopw [3] (fun x wr => ∃ i : Nat, ∃ X : Nat → Nat → K, i ≤ n ∧ x = .int .i64 i ∧ OwnV B wr (.slice p n c) n G L C C C X ∧ SpareIn (fun b => ∃ r, r < n ∧ b = G r) w wr) (fun x _ => (n - intOf x).toNat)
  case atStart => exact ⟨0, X, by omega, rfl, H0.out, SpareIn.refl _ _⟩
  case round =>
    clear H0 X
    obtain ⟨i, X, hi, rfl, hv, hs⟩ := hrel
    by_cases hlt : i < n
    · obtain ⟨gt, ct, hform, _, hgt⟩ := hv.top.form (by omega)
      cases hform
      have hmk := run_make_top n (by omega) wr
      have HW0 : Hid (WasAt wr (wr.alloc (.cells (madeCells #[.slice none 0 0] n) 22)) wr.heap.size n 0 C (fun _ => 0) (fun _ => 0) X) :=
        ⟨by simpa using own_made wr 22 (.slice none 0 0) n wr.heap.size (by omega) (Nat.le_refl _), fun i hi => absurd hi (by omega), (Below.refl _ _).alloc (Nat.le_refl _) _⟩
      have HV := hid hv
      have HS := hid hs
      clear hv hs
      go_wp2_with fail
      clear hmk
      obtain ⟨wo, hwo⟩ : ∃ wo, wo = wr := ⟨_, rfl⟩
      subst hwo
      go_loopw [5] (fun x wy => ∃ k : Nat, ∃ Gc Qc : Nat → Nat, k ≤ n ∧ x = .int .i64 k ∧ WasAt wo wy wo.heap.size n k C Gc Qc X) (fun x _ => (n - intOf x).toNat)
      case atStart => exact ⟨0, _, _, by omega, rfl, HW0.out⟩
      case round =>
        clear HW0
        obtain ⟨k, Gc, Qc, hk, rfl, hw⟩ := hrel
        by_cases hlt2 : k < n
        · have t1 : wr.cell? ⟨gt, k, none⟩ = some (.slice (some ⟨G k, 0, none⟩) (L k) (C k)) := (hw.bel.cell (p := ⟨gt, k, none⟩) hgt).trans (own_cell (V := fun i => .slice (some ⟨G i, 0, none⟩) (L i) (C i)) HV.out.top k hlt2)
          have r1 : RowAt wr.drew (G k) 0 (C k) fun j => (X k j).val := fun j hj => by
            rw [Nat.zero_add]
            exact (hw.bel.cell (p := ⟨G k, j, none⟩) (own_ge (HV.out.row k hlt2)).2).trans (own_cell (V := fun j => kv (X k j)) (HV.out.row k hlt2) j hj)
          have t2 : wr.cell? ⟨wo.heap.size, k, none⟩ = some (.slice none 0 0) := by rw [own_cell hw.top k hlt2]; simp
          have t3 := hw.top.frozenAt k
          have hsz := (own_ge hw.top).2
          have hck := HC.out k hlt2
          have hs1 := run_cap41 (G k) (L k) (C k)
          have i1 : (k : Int) < (n : Int) := by omega
          have HW := hid hw
          have R1 := hid r1
          clear hw r1 HC
          go_wp2_with fail
          go_region_held3 (fun w' => w'.cell? ⟨gt, k, none⟩ = some (.slice (some ⟨G k, 0, none⟩) (L k) (C k))) (first | exact (hbz.cell (p := ⟨gt, k, none⟩) (by show gt < _; have := HW.out.bel.size; simp; omega)).trans t1 | exact far_top hgt ((hbz.cell (p := ⟨gt, k, none⟩) (by show gt < _; have := HW.out.bel.size; simp; omega)).trans t1) | go_keep) (first | (go_at_call 41; refine (copyB_any (G k) 0 (C k) (C k) (X k) _ (by omega) (by omega) (by exact R1.out)).mono ?_; rintro e wz ⟨g1, c1, rfl, hg1, hr1, hbz⟩; have d1 := (hbz.cell (p := ⟨wo.heap.size, k, none⟩) (by show wo.heap.size < _; simp; omega)).trans t2; have d2 := (hbz.frozen (p := ⟨wo.heap.size, k, none⟩) (by show wo.heap.size < _; simp; omega)).trans t3))
          have hbz' : Below wr.heap.size wr wz := (Below.refl _ _).drew.trans hbz
          have HP := hid (HW.out.push hbz' g1 c1 hg1 hr1)
          clear hr1 hbz hbz' HW R1 t1 t2 t3 d1 d2 hs1
          go_wp2
          go_roundw
          case rel => exact ⟨k + 1, _, _, by omega, by go_num, HP.out⟩
          case measure => simp [intOf]; omega
        · have e : k = n := by omega
          subst e
          have t1 : wr.cell? ⟨gt, i, none⟩ = some (.slice (some ⟨G i, 0, none⟩) (L i) (C i)) := (hw.bel.cell (p := ⟨gt, i, none⟩) hgt).trans (own_cell (V := fun i => .slice (some ⟨G i, 0, none⟩) (L i) (C i)) HV.out.top i hlt)
          have HW := hid hw
          have HVy := hid (HV.out.stay hw.bel)
          have HSy := hid (HS.out.after hw.bel)
          have hci := HC.out i hlt
          have hgi : G i < wo.heap.size := (own_ge (HV.out.row i hlt)).2
          clear hw HV HS
          go_wp2_with fail
          refine (overB_any B (G i) (L i) (C i) (X i) wr hci.2 (HVy.out.row i hlt)).mono ?_
          rintro e wb ⟨rfl, ⟨y, hy⟩, ho⟩
          have HVb := hid (HVy.out.oneRow hlt hy ho)
          have HSb := hid (HSy.out.only ho ⟨i, hlt, rfl⟩)
          have HSM : Hid (∀ q, q < k → q ≠ i → (StrAt wb (some ⟨G q, 0, none⟩) (C q) (fun j => (X q j).val)) ∧ StrAt wb (some ⟨Gc q, 0, none⟩) (C q) (fun j => (X q j).val)) := fun q hq hne => by
            refine ⟨.inr ⟨_, _, rfl, fun j hj => ?_⟩, .inr ⟨_, _, rfl, fun j hj => ?_⟩⟩
            · have h1 := own_cell (HVb.out.row q hq) j hj
              simp only [if_neg hne] at h1
              rw [Nat.zero_add]; exact h1
            · have h1 := HW.out.row q hq
              have h2 : wb.heap[Gc q]? = wr.heap[Gc q]? := ho.block _ (fun z => by
                have a1 := (own_ge h1).1
                have z' : Gc q = G i := z
                omega)
              rw [Nat.zero_add]; exact own_cell (V := fun j => kv (X q j)) (own_keep h1 h2) j hj
          have HT1 : Hid (∀ q, q < k → wb.cell? ⟨gt, q, none⟩ = some (.slice (some ⟨G q, 0, none⟩) (L q) (C q)) ∧ wb.cell? ⟨wo.heap.size, q, none⟩ = some (.slice (some ⟨Gc q, 0, none⟩) (C q) (Qc q))) := fun q hq => by
            refine ⟨own_cell (V := fun i => .slice (some ⟨G i, 0, none⟩) (L i) (C i)) HVb.out.top q hq, ?_⟩
            have h2 : wb.heap[wo.heap.size]? = wr.heap[wo.heap.size]? := ho.block _ (fun z => by have z' : wo.heap.size = G i := z; omega)
            rw [own_cell (own_keep HW.out.top h2) q hq]; simp [hq]
          have hgb : gt < wb.heap.size := (own_ge HVb.out.top).2
          clear hy ho HVy HSy HW t1
          go_wp2_with fail
          go_loopw [6] (fun x wy => ∃ q z : Nat, q ≤ k ∧ x = .int .i64 q ∧ wy = wb.drewN z) (fun x _ => (k - intOf x).toNat)
          case atStart => exact ⟨0, 0, by omega, rfl, rfl⟩
          case round =>
            obtain ⟨q, z, hq, rfl, hwy⟩ := hrel
            have HWY := hid hwy
            by_cases hlt3 : q < k
            · have t1 : wr.cell? ⟨gt, q, none⟩ = some (.slice (some ⟨G q, 0, none⟩) (L q) (C q)) := by rw [hwy]; simpa using (HT1.out q hlt3).1
              have t2 : wr.cell? ⟨wo.heap.size, q, none⟩ = some (.slice (some ⟨Gc q, 0, none⟩) (C q) (Qc q)) := by rw [hwy]; simpa using (HT1.out q hlt3).2
              have i1 : (q : Int) < (k : Int) := by omega
              have hs1 := run_cap41 (G q) (L q) (C q)
              by_cases hqi : q = i
              · have hqi' : ((q : Int) != (i : Int)) = false := by rw [hqi]; simp
                clear hwy hqi
                go_wp2_with fail
                go_quiet (fail)
                go_wp2
                go_roundw
                case rel => exact ⟨q + 1, z + nq, by omega, by go_num, by rw [HWY.out, World.drewN_drewN]⟩
                case measure => simp [intOf]; omega
              · have hqi' : ((q : Int) != (i : Int)) = true := by simp; omega
                have hss := HSM.out q hlt3 hqi
                have S1 : Hid (StrAt wr (some ⟨G q, 0, none⟩) (C q) (fun j => (X q j).val)) := by rw [hwy]; exact hss.1.keep (Stays.of_below (below_drewN (Below.refl _ _)))
                have S2 : Hid (StrAt wr (some ⟨Gc q, 0, none⟩) (C q) (fun j => (X q j).val)) := by rw [hwy]; exact hss.2.keep (Stays.of_below (below_drewN (Below.refl _ _)))
                clear hwy hqi hss
                go_wp2_with fail
                go_quiet ((go_at_call 27; refine Calls.quiet_of_same (same_true _ _ (C q) _ _ (fun j => (X q j).val) _ (by exact S1.out) (by exact S2.out))))
                go_wp2
                go_roundw
                case rel => exact ⟨q + 1, z + nq, by omega, by go_num, by rw [HWY.out, World.drewN_drewN]⟩
                case measure => simp [intOf]; omega
            · have hbd : Below wb.heap.size wb wr := by rw [hwy]; exact below_drewN (Below.refl _ _)
              have t1 : wr.cell? ⟨gt, i, none⟩ = some (.slice (some ⟨G i, 0, none⟩) (L i) (C i)) := Stays.of_below hbd _ _ (HT1.out i hlt).1
              have HVc := hid (HVb.out.stay hbd)
              have HSc := hid (HSb.out.after hbd)
              clear hwy hbd
              go_wp2_with fail
              refine (overB_any B (G i) (L i) (C i) _ wr hci.2 (HVc.out.row i hlt)).mono ?_
              rintro e wd ⟨rfl, ⟨y2, hy2⟩, ho2⟩
              have HVd := hid (HVc.out.oneRow hlt hy2 ho2)
              have HSd := hid (HSc.out.only ho2 ⟨i, hlt, rfl⟩)
              clear hy2 ho2 HVc HSc HVb HSb t1
              go_wp2
              go_roundw
              case rel => exact ⟨i + 1, _, by omega, by go_num, HVd.out, HSd.out⟩
              case measure => simp [intOf]; omega
    · have HS := hid hs
      clear hv hs HC
      go_wp2
      go_ret
      exact ⟨rfl, HS.out⟩
end Go.Proofs.Ytapgdenodhcliaa
