/- Contracts of ordered, Invert and Rank of package matrix: the inverse is read out of the sweep, or the error's number is told; what was there is as it was. -/
import Derived.Test.YtapgdenodhcliaaMh
namespace Go.Proofs.Ytapgdenodhcliaa
open Go.RowKit

/-- The pivots of a list, by place. -/
def pl (l : List Nat) (i : Nat) : Nat := (l[i]?).getD 0
theorem pivV_get (l : List Nat) (i : Nat) (h : i < l.length) : (pivV l)[i]? = some (.int .i64 ((pl l i : Nat) : Int)) := by
  unfold pivV pl; rw [List.getElem?_map, List.getElem?_eq_getElem h]; rfl
theorem pivV_cell {w : World} {B g n c : Nat} {l : List Nat} (h : w.ownsRow B 3 1 (.slice (some ⟨g, 0, none⟩) n c) n (pivV l)) (i : Nat) (hi : i < n) (hl : l.length = n) : w.cell? ⟨g, i, none⟩ = some (.int .i64 ((pl l i : Nat) : Int)) := by
  rw [h.cellAt i (by omega), pivV_get l i (by omega)]

set_option maxRecDepth 100000 in
set_option maxHeartbeats 4000000 in
theorem ordered_any (B Bp g c n gp cp : Nat) (G Q : Nat → Nat) (T : Nat → Nat → K) (l : List Nat) (w : World) (h : OwnMat B w g c n n G Q T) (hp : w.ownsRow Bp 3 1 (.slice (some ⟨gp, 0, none⟩) n cp) n (pivV l)) (hl : l.length = n)
    (h0 : 1 ≤ n) (hn : n ≤ 32) (hlt : ∀ i, i < n → pl l i < n) (hinj : ∀ i j, i < n → j < n → pl l i = pl l j → i = j) :
    Calls Try.prog 74 #[.slice (some ⟨g, 0, none⟩) n c, .slice (some ⟨gp, 0, none⟩) n cp] w fun e w' => ∃ gi Gi Y, e = .returned (.slice (some ⟨gi, 0, none⟩) n n) ∧ OwnMat w.heap.size w' gi n n n Gi (fun _ => n) Y ∧ (∀ i, i < n → ∀ k, k < n → Y (pl l i) k = T i (pl l k)) ∧ Below w.heap.size w w' := by
  have H := hid h
  have HP := hid hp
  have HL := hid hl
  have HLT := hid hlt
  have HJ := hid hinj
  clear h hp hl hlt hinj
  go_enter Try.func74, Try.ntmps74
  go_wp2_with fail
  refine (zeros_any n n w (by omega) (by omega)).mono ?_
  rintro e w1 ⟨gi, Gi, rfl, hmat, hb⟩
  have HM := hid hmat
  have HB := hid hb
  clear hmat hb
  go_wp2_with fail
  go_loopw [17] (fun x wr => ∃ i : Nat, ∃ Y, i ≤ n ∧ x = .int .i64 i ∧ OwnMat w.heap.size wr gi n n n Gi (fun _ => n) Y ∧ (∀ r, r < i → ∀ k, k < n → Y (pl l r) k = T r (pl l k)) ∧ Below w.heap.size w wr) (fun x _ => (n - intOf x).toNat)
  case atStart => exact ⟨0, _, by omega, rfl, HM.out, fun r hr => absurd hr (by omega), HB.out⟩
  case round =>
    obtain ⟨i, Y, hi, rfl, hmat, hY, hb⟩ := hrel
    clear HM HB
    by_cases hlt : i < n
    · have c1 := Stays.of_below hb _ _ (H.out.topCell i hlt)
      have HM := hid hmat
      have HB := hid hb
      have HY := hid hY
      clear hmat hb hY
      go_wp2_with fail
      go_loopw [24] (fun x wr => ∃ k : Nat, ∃ Y, k ≤ n ∧ x = .int .i64 k ∧ OwnMat w.heap.size wr gi n n n Gi (fun _ => n) Y ∧ (∀ r, r < i → ∀ k, k < n → Y (pl l r) k = T r (pl l k)) ∧ (∀ k', k' < k → Y (pl l i) k' = T i (pl l k')) ∧ Below w.heap.size w wr) (fun x _ => (n - intOf x).toNat)
      case atStart => exact ⟨0, Y, by omega, rfl, HM.out, HY.out, fun r hr => absurd hr (by omega), HB.out⟩
      case round =>
        clear HM HB HY c1
        obtain ⟨k, Y, hk, rfl, hmat, hY, hY2, hb⟩ := hrel
        by_cases hlt2 : k < n
        · have hpi := HLT.out i hlt
          have hpk := HLT.out k hlt2
          have c1 := Stays.of_below hb _ _ (pivV_cell HP.out k hlt2 HL.out)
          have c2 := Stays.of_below hb _ _ (pivV_cell HP.out i hlt HL.out)
          have c3 := Stays.of_below hb _ _ (H.out.cell i (pl l k) hlt hpk)
          have c4 := hmat.topCell (pl l i) hpi
          have c5 := hmat.cell (pl l i) k hpi hlt2
          have c6 := hmat.free (pl l i) k hpi
          have hge := (hmat.ge (pl l i) hpi).1
          have b1 := (own_ge HP.out).2
          have b2 := (H.out.ge i hlt).2
          have b3 := hmat.apart (pl l i) hpi
          have C7 : Hid (∀ v, (wr.setCell ⟨Gi (pl l i), k, none⟩ v).drew.cell? ⟨gp, i, none⟩ = some (.int .i64 ((pl l i : Nat) : Int)) ∧ (wr.setCell ⟨Gi (pl l i), k, none⟩ v).drew.cell? ⟨G i, pl l k, none⟩ = some (.int .u8 ((T i (pl l k)).val : Nat)) ∧ (wr.setCell ⟨Gi (pl l i), k, none⟩ v).drew.cell? ⟨gi, pl l i, none⟩ = some (.slice (some ⟨Gi (pl l i), 0, none⟩) n n)) := fun v => by
            refine ⟨?_, ?_, ?_⟩
            · show (wr.setCell ⟨Gi (pl l i), k, none⟩ v).cell? _ = _
              rw [World.cell?_setCell_other _ _ _ _ (by intro q; cases q; omega)]; exact c2
            · show (wr.setCell ⟨Gi (pl l i), k, none⟩ v).cell? _ = _
              rw [World.cell?_setCell_other _ _ _ _ (by intro q; have := congrArg Addr.block q; simp at this; omega)]; exact c3
            · show (wr.setCell ⟨Gi (pl l i), k, none⟩ v).cell? _ = _
              rw [World.cell?_setCell_other _ _ _ _ (by intro q; have := congrArg Addr.block q; simp at this; omega)]; exact c4
          have HM := hid ((hmat.set (pl l i) k (T i (pl l k)) hpi).drew)
          have HB := hid ((hb.setCell (p := ⟨Gi (pl l i), k, none⟩) hge (.int .u8 (((T i (pl l k)).val : Nat) : Int))).drew)
          have HY : Hid (∀ r, r < i → ∀ k', k' < n → up2 Y (pl l i) k (T i (pl l k)) (pl l r) k' = T r (pl l k')) := fun r hr k' hk' => by
            unfold up2
            rw [if_neg (fun q => by have := HJ.out r i (by omega) hlt q.1; omega)]; exact hY r hr k' hk'
          have HY2 : Hid (∀ k', k' < k + 1 → up2 Y (pl l i) k (T i (pl l k)) (pl l i) k' = T i (pl l k')) := fun k' hk' => by
            unfold up2
            by_cases e : k' = k
            · rw [if_pos ⟨rfl, e⟩, e]
            · rw [if_neg (fun q => e q.2)]; exact hY2 k' (by omega)
          clear hmat hb hY hY2 H HP HL HLT HJ
          go_wp2_with fail
          go_region_held3 (fun w' => w'.cell? ⟨gp, i, none⟩ = some (.int .i64 ((pl l i : Nat) : Int)) ∧ w'.cell? ⟨G i, pl l k, none⟩ = some (.int .u8 ((T i (pl l k)).val : Nat)) ∧ w'.cell? ⟨gi, pl l i, none⟩ = some (.slice (some ⟨Gi (pl l i), 0, none⟩) n n)) (first | exact C7.out _ | go_keep) (fail)
          go_wp2
          go_roundw
          case rel => exact ⟨k + 1, _, by omega, by go_num, HM.out, HY.out, HY2.out, HB.out⟩
          case measure => simp [intOf]; omega
        · have HM := hid hmat
          have HB := hid hb
          have HY : Hid (∀ r, r < i + 1 → ∀ k', k' < n → Y (pl l r) k' = T r (pl l k')) := fun r hr k' hk' => by
            by_cases e : r = i
            · rw [e]; exact hY2 k' (by omega)
            · exact hY r (by omega) k' hk'
          clear hmat hb hY hY2 H HP HL HLT HJ
          go_wp2
          go_roundw
          case rel => exact ⟨i + 1, Y, by omega, by go_num, HM.out, HY.out, HB.out⟩
          case measure => simp [intOf]; omega
    · have HM := hid hmat
      have HB := hid hb
      have HY : Hid (∀ r, r < n → ∀ k', k' < n → Y (pl l r) k' = T r (pl l k')) := fun r hr k' hk' => hY r (by omega) k' hk'
      clear hmat hb hY H HP HL HLT HJ
      go_wp2
      go_ret
      exact ⟨gi, Gi, Y, rfl, HM.out, HY.out, HB.out⟩
end Go.Proofs.Ytapgdenodhcliaa
