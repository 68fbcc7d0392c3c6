/- Contract of part of package stripe: the bytes are laid into shards in new memory, with noughts behind them; what was there is as it was. -/
import Derived.Test.YtapgdenodhcliaaSb
namespace Go.Proofs.Ytapgdenodhcliaa
open Go.RowKit

theorem OnlyIn.setCells (g : Nat) : ∀ (vs : List Value) (o : Nat) (w w' : World), OnlyIn (fun b => b = g) w w' → OnlyIn (fun b => b = g) w (w'.setCells g o vs)
  | [], _, _, _, h => h
  | v :: vs, o, w, _, h => OnlyIn.setCells g vs (o + 1) w _ (h.setCell g o rfl v)
theorem Half.congr {B : Nat} {w : World} {g cp n m k : Nat} {G Q : Nat → Nat} {X Y : Nat → Nat → K} {V : Nat → Value} (h : Half B w g cp n m k G Q X V) (e : ∀ i, i < k → ∀ j, j < m → X i j = Y i j) : Half B w g cp n m k G Q Y V where
  top := h.top
  row := fun i hi => by
    have := h.row i hi
    rwa [vals_congr (W := fun j => kv (Y i j)) (fun j hj => by show kv (X i j) = kv (Y i j); rw [e i hi j hj])] at this
  inj := h.inj
/-- One row turned. -/
theorem Half.turn {B : Nat} {w w' : World} {g cp n m k r : Nat} {G Q : Nat → Nat} {X Y : Nat → Nat → K} {V : Nat → Value} (h : Half B w g cp n m k G Q X V) (hr : r < k)
    (hrow : w'.ownsRow B 5 1 (.slice (some ⟨G r, 0, none⟩) m (Q r)) m (vals m fun j => kv (Y r j))) (e : ∀ i, i < k → i ≠ r → ∀ j, j < m → X i j = Y i j) (ho : OnlyIn (fun b => b = G r) w w') : Half B w' g cp n m k G Q Y V where
  top := own_keep h.top (ho.block g (fun q => own_apart h.top (h.row r hr) (by decide) q))
  row := fun i hi => by
    by_cases q : i = r
    · subst q; exact hrow
    · have h1 := own_keep (h.row i hi) (ho.block (G i) (fun z => q (h.inj i r hi hr z)))
      rwa [vals_congr (W := fun j => kv (Y i j)) (fun j hj => by show kv (X i j) = kv (Y i j); rw [e i hi q j hj])] at h1
  inj := h.inj
theorem min_sub (n r l : Nat) : n - r * l - min (n - r * l) l = n - (r + 1) * l := by
  rw [Nat.add_mul, Nat.one_mul]; omega
theorem dsh_row (l n r j : Nat) (x : Nat → K) (hj : j < l) : (if 0 ≤ j ∧ j < 0 + min (n - r * l) l then x (r * l + (j - 0)) else 0) = dsh l n x r j := by
  unfold dsh
  by_cases e : r * l + j < n
  · rw [if_pos (by omega), if_pos e, Nat.sub_zero]
  · rw [if_neg (by omega), if_neg e]

set_option maxRecDepth 100000 in
set_option maxHeartbeats 4000000 in
theorem part_any (p : Option Addr) (n c k l : Nat) (x : Nat → K) (w : World) (hk : k ≤ 16) (hl : l ≤ 65536) (hn : n ≤ 65536) (hc : n ≤ c) (h : StrAt w p n fun j => (x j).val) :
    Calls Try.prog 35 #[.slice p n c, .int .i64 k, .int .i64 l] w fun e w' => ∃ g G, e = .returned (.slice (some ⟨g, 0, none⟩) k k) ∧ OwnMat w.heap.size w' g k k l G (fun _ => l) (dsh l n x) ∧ Below w.heap.size w w' := by
  have hmk := run_make_top k (by omega) w
  have H0 := hid (own_made w 22 (.slice none 0 0) k w.heap.size (by omega) (Nat.le_refl _))
  have HX := hid h
  clear h
  go_enter Try.func35, Try.ntmps35
  go_wp2
  clear hmk
  go_loopw [0, 14] (fun d i wr => ∃ (r n' c' : Nat) (p' : Option Addr) (G : Nat → Nat), r ≤ k ∧ i = .int .i64 r ∧ d = .slice p' n' c' ∧ n' = n - r * l ∧ n' ≤ c' ∧ StrAt w p' n' (fun j => (x (r * l + j)).val) ∧ Half w.heap.size wr w.heap.size k k l r G (fun _ => l) (dsh l n x) (fun _ => .slice none 0 0) ∧ Below w.heap.size w wr) (fun _ i _ => (k - intOf i).toNat)
  case atStart => exact ⟨0, n, c, p, fun _ => 0, by omega, rfl, rfl, by omega, hc, HX.out.congr (fun j _ => by rw [Nat.zero_mul, Nat.zero_add]), ⟨by simpa using H0.out, fun i hi => absurd hi (by omega), fun i j hi => absurd hi (by omega)⟩, (Below.refl _ _).alloc (Nat.le_refl _) _⟩
  case round =>
    obtain ⟨r, n', c', p', G, hr, rfl, rfl, hn', hc', hs, hh, hb⟩ := hrel
    clear H0 HX
    have hle : n' ≤ 65536 := by omega
    by_cases hlt : r < k
    · have hmk := run_make_u8 l (by omega) wr
      have hsz : w.heap.size < wr.heap.size := (own_ge hh.top).2
      have c1 : (wr.alloc (.cells (madeCells #[.int .u8 0] l) 5)).cell? ⟨w.heap.size, r, none⟩ = some (.slice none 0 0) := by
        rw [World.cell?_alloc_lt _ _ _ hsz, own_cell hh.top r hlt]; simp
      have c2 : (wr.alloc (.cells (madeCells #[.int .u8 0] l) 5)).frozen? ⟨w.heap.size, r, none⟩ = false := by
        rw [World.frozen?_alloc_old _ _ _ (Nat.ne_of_lt hsz)]; exact hh.top.frozenAt r
      have HP0 := (hh.congr (Y := fun i j => if i < r then dsh l n x i j else 0) (fun i hi j _ => by rw [if_pos hi])).push (w1 := wr.alloc (.cells (madeCells #[.int .u8 0] l) 5)) (fun b hb => Below.heap_alloc _ _ _ hb) wr.heap.size l (Nat.le_refl _) (by
        have h1 := own_made wr 5 (.int .u8 0) l w.heap.size (by omega) (by omega)
        rwa [vals_congr (W := fun j => kv (if r < r then dsh l n x r j else 0)) (fun j _ => by rw [if_neg (by omega)]; rfl)] at h1)
      have HB0 := (hb.alloc (by omega) (.cells (madeCells #[.int .u8 0] l) 5)).setCell (p := ⟨w.heap.size, r, none⟩) (Nat.le_refl _) (rv wr.heap.size l l)
      rw [World.setCell_alloc_past _ _ _ _ hsz] at HP0 HB0
      rw [upd_const] at HP0
      obtain ⟨W1, hW1⟩ : ∃ W1, W1 = (wr.setCell ⟨w.heap.size, r, none⟩ (rv wr.heap.size l l)).alloc (.cells (madeCells #[.int .u8 0] l) 5) := ⟨_, rfl⟩
      rw [← hW1] at HP0 HB0
      have e1 : W1.cell? ⟨w.heap.size, r, none⟩ = some (.slice (some ⟨wr.heap.size, 0, none⟩) l l) := by
        rw [own_cell HP0.top r hlt, if_pos (by omega)]; unfold upd; rw [if_pos rfl]; rfl
      have hrow0 := HP0.row r (by omega)
      have hg : upd G r wr.heap.size r = wr.heap.size := by unfold upd; rw [if_pos rfl]
      rw [hg] at hrow0
      have hcp := fun ty => run_copyG W1 wr.heap.size 0 l l p' n' c' (fun j => (x (r * l + j)).val) (hs.keep (Stays.of_below HB0)) (fun j hj => ⟨_, by rw [Nat.zero_add]; exact own_cell hrow0 j hj⟩) (fun j => by rw [Nat.zero_add]; exact hrow0.frozenAt j) ty
      obtain ⟨W2, hW2⟩ : ∃ W2, W2 = W1.setCells wr.heap.size 0 (valN (min n' l) fun j => (x (r * l + j)).val) := ⟨_, rfl⟩
      have ho : OnlyIn (fun b => b = wr.heap.size) W1 W2 := by rw [hW2]; exact OnlyIn.setCells _ _ _ _ _ (OnlyIn.refl _ _)
      have hrow2 := own_laid hrow0 0 (min n' l) (fun j => x (r * l + j))
      rw [← hW2] at hcp hrow2
      have HH := hid (HP0.turn (w' := W2) (r := r) (Y := dsh l n x) (by omega) (by
        rw [hg]
        rwa [vals_congr (W := fun j => kv (dsh l n x r j)) (fun j hj => by
          have h1 := dsh_row l n r j x hj
          rw [← hn'] at h1
          rw [← h1]
          by_cases e : 0 ≤ j ∧ j < 0 + min n' l
          · rw [if_pos e, if_pos e]
          · rw [if_neg e, if_neg e, if_neg (by omega)])] at hrow2) (fun i hi hne j _ => by rw [if_pos (by omega)]) (by rw [hg]; exact ho))
      have HB := hid (ho.below HB0 (fun b hb => by rw [hb]; omega))
      obtain ⟨p2, hsl, hp2⟩ := run_lo22 p' n' c' (min n' l) (by omega)
      have HS := hid (hs.drop hc' hp2)
      have hcp2 : ∀ ty, (Builtin.copy_ #[22, 22] ty #[.slice (some ⟨wr.heap.size, 0, none⟩) l l, .slice p' n' c']).run Try.prog ((wr.setCell ⟨w.heap.size, r, none⟩ (.slice (some ⟨wr.heap.size, 0, none⟩) l l)).alloc (.cells (madeCells #[.int .u8 0] l) 5)) = .ok (goInt ((min n' l : Nat) : Int)) W2 := fun ty => by have h1 := hcp ty; rw [hW1] at h1; exact h1
      have e2 : ((wr.setCell ⟨w.heap.size, r, none⟩ (.slice (some ⟨wr.heap.size, 0, none⟩) l l)).alloc (.cells (madeCells #[.int .u8 0] l) 5)).cell? ⟨w.heap.size, r, none⟩ = some (.slice (some ⟨wr.heap.size, 0, none⟩) l l) := by rw [hW1] at e1; exact e1
      have HN := hid hn'
      have hmin : min n' l ≤ 65536 := by omega
      clear hh hb hs HP0 HB0 hrow0 hrow2 ho hcp hW2 hW1 e1 hp2 hn'
      go_wp2
      go_roundw
      case rel => exact ⟨r + 1, n' - min n' l, c' - min n' l, p2, _, by omega, by go_num, rfl, by rw [HN.out]; exact min_sub n r l, by omega, HS.out.congr (fun j hj => by
        rw [Nat.add_mul, Nat.one_mul]
        have : min n' l = l := by omega
        rw [this, Nat.add_assoc]), HH.out, HB.out⟩
      case measure => simp [intOf]; omega
    · have e : r = k := by omega
      subst e
      have HO := hid hh.done
      have HB := hid hb
      clear hh hb hs hn'
      go_wp2
      go_ret
      exact ⟨_, G, rfl, HO.out, HB.out⟩
end Go.Proofs.Ytapgdenodhcliaa
