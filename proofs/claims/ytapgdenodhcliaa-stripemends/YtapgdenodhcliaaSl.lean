/- Contract of some of the statements on stripe: as many are there as are asked for, in new memory; what was there is as it was. And Split once more, whatever k and m are. -/
import Derived.Test.YtapgdenodhcliaaSk
namespace Go.Proofs.Ytapgdenodhcliaa
open Go.RowKit

/-- What some leaves. -/
def SomeAt (kk n : Nat) (w w' : World) (e : Ending) : Prop := ∃ g H, e = .returned (.slice (some ⟨g, 0, none⟩) n n) ∧ OwnB w.heap.size w' g n H ∧ cn H n = kk ∧ Below w.heap.size w w'
theorem cn_succ (H : Nat → Bool) (i : Nat) : cn H (i + 1) = cn H i + (if H i = true then 1 else 0) := rfl
theorem cn_false : ∀ n, cn (fun _ => false) n = 0
  | 0 => rfl
  | i + 1 => by rw [cn_succ, cn_false i]; rfl

set_option maxRecDepth 100000 in
set_option maxHeartbeats 4000000 in
theorem some_any (kk n : Nat) (q : Option Addr) (nc cc : Nat) (R : Nat → Int) (w : World) (hk : kk ≤ n) (hn : n ≤ 100) (hR : IntsAt w q nc R) :
    Calls Try.prog 31 #[.int .i64 kk, .int .i64 n, .slice q nc cc] w fun e w' => SomeAt kk n w w' e := by
  have hmk := run_make_bools n (by omega) w
  have H0 : Hid (OwnB w.heap.size (w.alloc (.cells (madeCells #[.bool false] n) 4)) w.heap.size n (fun _ => false)) := (own_made w 4 (.bool false) n w.heap.size (by omega) (Nat.le_refl _))
  have HR := hid hR
  clear hR
  go_enter Try.func31, Try.ntmps31
  go_wp2
  clear hmk
  go_loopw [8] (fun x wr => ∃ (i : Nat) (H : Nat → Bool), i ≤ kk ∧ x = .int .i64 i ∧ OwnB w.heap.size wr w.heap.size n H ∧ cn H n = i ∧ Below w.heap.size w wr) (fun x _ => (kk - intOf x).toNat)
  case atStart => exact ⟨0, _, by omega, rfl, H0.out, cn_false n, (Below.refl _ _).alloc (Nat.le_refl _) _⟩
  case round =>
    clear H0
    obtain ⟨i, H, hi, rfl, ho, hcn, hb⟩ := hrel
    by_cases hlt : i < kk
    · have HO := hid ho
      have HB := hid hb
      have HCN := hid hcn
      have HC : Hid (((n : Int) - (i : Int)) = ((n - i : Nat) : Int)) := by show ((n : Int) - (i : Int)) = ((n - i : Nat) : Int); omega
      have hcn0 : cn H 0 = 0 := rfl
      clear ho hcn
      by_cases hch : i < nc
      · obtain ⟨bq, oq, rfl, hcq⟩ := HR.out.pos (by omega)
        have c1 := Stays.of_below hb _ _ (hcq i hch)
        clear hcq hb HR
        go_wp2_with fail
        rw [HC.out]
        refine (kitPick_any (R i) (n - i) wr (by omega) (by omega)).mono ?_
        rintro e w' ⟨⟨a0, ha0, rfl⟩, hw⟩
        have hw2 := hw.symm
        subst hw2
        clear hw c1
        go_wp2_with fail
        obtain ⟨wo, hwo⟩ : ∃ wo, wo = wr := ⟨_, rfl⟩
        subst hwo
        go_loopw [9, 10] (fun v x wy => ∃ j a : Nat, j ≤ n ∧ a ≤ n ∧ v = .int .i64 a ∧ x = .int .i64 j ∧ wy = wo ∧ a + j < n - i + cn H j) (fun _ x _ => (n - intOf x).toNat)
        case atStart => exact ⟨0, a0, by omega, by omega, rfl, rfl, rfl, by omega⟩
        case round =>
          obtain ⟨j, a, hj, ha, rfl, rfl, hwy, hinv⟩ := hrel
          subst hwy
          have hcs := cn_succ H j
          have hcl := cn_le H j
          by_cases hlt2 : j < n
          · have c1 := own_cell (V := fun j => .bool (H j)) HO.out j hlt2
            have c2 := World.ownsRow.frozenAt HO.out j
            cases hq : H j with
            | true =>
              rw [hq] at c1
              have INV : Hid (a + (j + 1) < n - i + cn H (j + 1)) := by
                show a + (j + 1) < n - i + cn H (j + 1)
                rw [hcs, hq, if_pos rfl]; omega
              clear hcs hinv hcl
              go_wp2
              go_roundw
              case rel => exact ⟨j + 1, a, by omega, ha, rfl, by go_num, by first | trivial | rfl, INV.out⟩
              case measure => simp [intOf]; omega
            | false =>
              rw [hq] at c1
              by_cases hz : a = 0
              · have hz' : ((a : Int) == 0) = true := by simp; omega
                have HO2 := hid (OwnB.set HO.out j true)
                have HB2 := hid (HB.out.setCell (p := ⟨w.heap.size, j, none⟩) (Nat.le_refl _) (.bool true))
                have HCN2 : Hid (cn (upd H j true) n = i + 1) := by
                  show cn (upd H j true) n = i + 1
                  rw [cn_set hq (H' := upd H j true) (by simp [upd]) (fun q hq => by simp [upd, hq]) n hlt2, HCN.out]
                clear hcs hinv hcl hz
                go_wp2
                go_roundw
                case rel => exact ⟨i + 1, _, by omega, by go_num, HO2.out, HCN2.out, HB2.out⟩
                case measure => simp [intOf]; omega
              · have hz' : ((a : Int) == 0) = false := by simp; omega
                have INV : Hid (a - 1 + (j + 1) < n - i + cn H (j + 1)) := by
                  show a - 1 + (j + 1) < n - i + cn H (j + 1)
                  rw [hcs, hq, if_neg (by decide)]; omega
                clear hcs hinv hcl
                go_wp2
                go_roundw
                case rel => exact ⟨j + 1, a - 1, by omega, by omega, by go_num, by go_num, by first | trivial | rfl, INV.out⟩
                case measure => simp [intOf]; omega
          · exfalso
            have e : j = n := by omega
            subst e
            have := HCN.out
            omega
      · clear hb
        go_wp2_with fail
        obtain ⟨wo, hwo⟩ : ∃ wo, wo = wr := ⟨_, rfl⟩
        subst hwo
        go_loopw [9, 10] (fun v x wy => ∃ j a : Nat, j ≤ n ∧ a ≤ n ∧ v = .int .i64 a ∧ x = .int .i64 j ∧ wy = wo ∧ a + j < n - i + cn H j) (fun _ x _ => (n - intOf x).toNat)
        case atStart => exact ⟨0, 0, by omega, by omega, rfl, rfl, rfl, by omega⟩
        case round =>
          obtain ⟨j, a, hj, ha, rfl, rfl, hwy, hinv⟩ := hrel
          subst hwy
          have hcs := cn_succ H j
          have hcl := cn_le H j
          by_cases hlt2 : j < n
          · have c1 := own_cell (V := fun j => .bool (H j)) HO.out j hlt2
            have c2 := World.ownsRow.frozenAt HO.out j
            cases hq : H j with
            | true =>
              rw [hq] at c1
              have INV : Hid (a + (j + 1) < n - i + cn H (j + 1)) := by
                show a + (j + 1) < n - i + cn H (j + 1)
                rw [hcs, hq, if_pos rfl]; omega
              clear hcs hinv hcl
              go_wp2
              go_roundw
              case rel => exact ⟨j + 1, a, by omega, ha, rfl, by go_num, by first | trivial | rfl, INV.out⟩
              case measure => simp [intOf]; omega
            | false =>
              rw [hq] at c1
              by_cases hz : a = 0
              · have hz' : ((a : Int) == 0) = true := by simp; omega
                have HO2 := hid (OwnB.set HO.out j true)
                have HB2 := hid (HB.out.setCell (p := ⟨w.heap.size, j, none⟩) (Nat.le_refl _) (.bool true))
                have HCN2 : Hid (cn (upd H j true) n = i + 1) := by
                  show cn (upd H j true) n = i + 1
                  rw [cn_set hq (H' := upd H j true) (by simp [upd]) (fun q hq => by simp [upd, hq]) n hlt2, HCN.out]
                clear hcs hinv hcl hz
                go_wp2
                go_roundw
                case rel => exact ⟨i + 1, _, by omega, by go_num, HO2.out, HCN2.out, HB2.out⟩
                case measure => simp [intOf]; omega
              · have hz' : ((a : Int) == 0) = false := by simp; omega
                have INV : Hid (a - 1 + (j + 1) < n - i + cn H (j + 1)) := by
                  show a - 1 + (j + 1) < n - i + cn H (j + 1)
                  rw [hcs, hq, if_neg (by decide)]; omega
                clear hcs hinv hcl
                go_wp2
                go_roundw
                case rel => exact ⟨j + 1, a - 1, by omega, by omega, by go_num, by go_num, by first | trivial | rfl, INV.out⟩
                case measure => simp [intOf]; omega
          · exfalso
            have e : j = n := by omega
            subst e
            have := HCN.out
            omega
    · have e : i = kk := by omega
      subst e
      have HO := hid ho
      have HB := hid hb
      have HCN := hid hcn
      clear ho hb hcn HR
      go_wp2
      go_ret
      exact ⟨_, H, rfl, HO.out, HCN.out, HB.out⟩
end Go.Proofs.Ytapgdenodhcliaa
