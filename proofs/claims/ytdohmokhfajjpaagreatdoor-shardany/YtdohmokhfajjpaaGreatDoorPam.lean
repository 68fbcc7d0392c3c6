/- Texts laid into one, cut to what is needed: the remark ahead of each part says what is proved there. -/
import Derived.Test.YtdohmokhfajjpaaGreatDoorPal
import Derived.Test.YtdohmokhfajjpaaGreatDoorPai
import Derived.BigRegion
/- Contract of part of package stripe: the bytes are laid into shards in new memory, with noughts behind them; what was there is as it was. -/
namespace Go.Proofs.YtdohmokhfajjpaaGreatDoor.U
open Go.RowKit

theorem OnlyIn.setCells (g : Nat) : ∀ (vs : List Value) (o : Nat) (w w' : World), OnlyIn (fun b => b = g) w w' → OnlyIn (fun b => b = g) w (w'.setCells g o vs)
 | [], _, _, _, h => h
 | v :: vs, o, w, _, h => OnlyIn.setCells g vs (o + 1) w _ (h.setCell g o rfl v)
theorem Half.congr {B : Nat} {w : World} {g cp n m k : Nat} {G Q : Nat → Nat} {X Y : Nat → Nat → K} {V : Nat → Value} (h : Half B w g cp n m k G Q X V) (e : ∀ i, i < k → ∀ j, j < m → X i j = Y i j) : Half B w g cp n m k G Q Y V where
 top := h.top
 row := fun i hi => by
  have := h.row i hi
  rwa [vals_congr (W := fun j => kv (Y i j)) (fun j hj => by show kv (X i j) = kv (Y i j); rw [e i hi j hj])] at this
 inj := h.inj
/-- One row turned. -/
theorem Half.turn {B : Nat} {w w' : World} {g cp n m k r : Nat} {G Q : Nat → Nat} {X Y : Nat → Nat → K} {V : Nat → Value} (h : Half B w g cp n m k G Q X V) (hr : r < k)
  (hrow : w'.ownsRow B 5 1 (.slice (some ⟨G r, 0, none⟩) m (Q r)) m (vals m fun j => kv (Y r j))) (e : ∀ i, i < k → i ≠ r → ∀ j, j < m → X i j = Y i j) (ho : OnlyIn (fun b => b = G r) w w') : Half B w' g cp n m k G Q Y V where
 top := own_keep h.top (ho.block g (fun q => own_apart h.top (h.row r hr) (by decide) q))
 row := fun i hi => by
  by_cases q : i = r
  ·subst q; exact hrow
  ·have h1 := own_keep (h.row i hi) (ho.block (G i) (fun z => q (h.inj i r hi hr z)))
   rwa [vals_congr (W := fun j => kv (Y i j)) (fun j hj => by show kv (X i j) = kv (Y i j); rw [e i hi q j hj])] at h1
 inj := h.inj
theorem min_sub (n r l : Nat) : n - r * l - min (n - r * l) l = n - (r + 1) * l := by
 rw [Nat.add_mul, Nat.one_mul]; omega
theorem dsh_row (l n r j : Nat) (x : Nat → K) (hj : j < l) : (if 0 ≤ j ∧ j < 0 + min (n - r * l) l then x (r * l + (j - 0)) else 0) = dsh l n x r j := by
 unfold dsh
 by_cases e : r * l + j < n
 ·rw [if_pos (by omega), if_pos e, Nat.sub_zero]
 ·rw [if_neg (by omega), if_neg e]

set_option maxRecDepth 100000 in
set_option maxHeartbeats 4000000 in
theorem part_any (p : Option Addr) (n c k l : Nat) (x : Nat → K) (w : World) (hk : k ≤ 16) (hl : l ≤ 65536) (hn : n ≤ 65536) (hc : n ≤ c) (h : StrAt w p n fun j => (x j).val) :
  Calls Tryz.prog 27 #[.slice p n c, .int .i64 k, .int .i64 l] w fun e w' => ∃ g G, e = .returned (.slice (some ⟨g, 0, none⟩) k k) ∧ OwnMat w.heap.size w' g k k l G (fun _ => l) (dsh l n x) ∧ Below w.heap.size w w' := by
 have hmk := run_make_top k (by omega) w
 have H0 := hid (own_made w 22 (.slice none 0 0) k w.heap.size (by omega) (Nat.le_refl _))
 have HX := hid h
 clear h
 go_enter Tryz.func27, Tryz.ntmps27
 go_wp2
 clear hmk
 go_loopw [0, 14] (fun d i wr => ∃ (r n' c' : Nat) (p' : Option Addr) (G : Nat → Nat), r ≤ k ∧ i = .int .i64 r ∧ d = .slice p' n' c' ∧ n' = n - r * l ∧ n' ≤ c' ∧ StrAt w p' n' (fun j => (x (r * l + j)).val) ∧ Half w.heap.size wr w.heap.size k k l r G (fun _ => l) (dsh l n x) (fun _ => .slice none 0 0) ∧ Below w.heap.size w wr) (fun _ i _ => (k - intOf i).toNat)
 case atStart => exact ⟨0, n, c, p, fun _ => 0, by omega, rfl, rfl, by omega, hc, HX.out.congr (fun j _ => by rw [Nat.zero_mul, Nat.zero_add]), ⟨by simpa using H0.out, fun i hi => absurd hi (by omega), fun i j hi => absurd hi (by omega)⟩, (Below.refl _ _).alloc (Nat.le_refl _) _⟩
 case round =>
  obtain ⟨r, n', c', p', G, hr, rfl, rfl, hn', hc', hs, hh, hb⟩ := hrel
  clear H0 HX
  have hle : n' ≤ 65536 := by omega
  by_cases hlt : r < k
  ·have hmk := run_make_u8 l (by omega) wr
   have hsz : w.heap.size < wr.heap.size := (own_ge hh.top).2
   have c1 : (wr.alloc (.cells (madeCells #[.int .u8 0] l) 5)).cell? ⟨w.heap.size, r, none⟩ = some (.slice none 0 0) := by
    rw [World.cell?_alloc_lt _ _ _ hsz, own_cell hh.top r hlt]; simp
   have c2 : (wr.alloc (.cells (madeCells #[.int .u8 0] l) 5)).frozen? ⟨w.heap.size, r, none⟩ = false := by
    rw [World.frozen?_alloc_old _ _ _ (Nat.ne_of_lt hsz)]; exact hh.top.frozenAt r
   have HP0 := (hh.congr (Y := fun i j => if i < r then dsh l n x i j else 0) (fun i hi j _ => by rw [if_pos hi])).push (w1 := wr.alloc (.cells (madeCells #[.int .u8 0] l) 5)) (fun b hb => Below.heap_alloc _ _ _ hb) wr.heap.size l (Nat.le_refl _) (by
    have h1 := own_made wr 5 (.int .u8 0) l w.heap.size (by omega) (by omega)
    rwa [vals_congr (W := fun j => kv (if r < r then dsh l n x r j else 0)) (fun j _ => by rw [if_neg (by omega)]; rfl)] at h1)
   have HB0 := (hb.alloc (by omega) (.cells (madeCells #[.int .u8 0] l) 5)).setCell (p := ⟨w.heap.size, r, none⟩) (Nat.le_refl _) (rv wr.heap.size l l)
   rw [World.setCell_alloc_past _ _ _ _ hsz] at HP0 HB0
   rw [upd_const] at HP0
   obtain ⟨W1, hW1⟩ : ∃ W1, W1 = (wr.setCell ⟨w.heap.size, r, none⟩ (rv wr.heap.size l l)).alloc (.cells (madeCells #[.int .u8 0] l) 5) := ⟨_, rfl⟩
   rw [← hW1] at HP0 HB0
   have e1 : W1.cell? ⟨w.heap.size, r, none⟩ = some (.slice (some ⟨wr.heap.size, 0, none⟩) l l) := by
    rw [own_cell HP0.top r hlt, if_pos (by omega)]; unfold upd; rw [if_pos rfl]; rfl
   have hrow0 := HP0.row r (by omega)
   have hg : upd G r wr.heap.size r = wr.heap.size := by unfold upd; rw [if_pos rfl]
   rw [hg] at hrow0
   have hcp := fun ty => run_copyG W1 wr.heap.size 0 l l p' n' c' (fun j => (x (r * l + j)).val) (hs.keep (Stays.of_below HB0)) (fun j hj => ⟨_, by rw [Nat.zero_add]; exact own_cell hrow0 j hj⟩) (fun j => by rw [Nat.zero_add]; exact hrow0.frozenAt j) ty
   obtain ⟨W2, hW2⟩ : ∃ W2, W2 = W1.setCells wr.heap.size 0 (valN (min n' l) fun j => (x (r * l + j)).val) := ⟨_, rfl⟩
   have ho : OnlyIn (fun b => b = wr.heap.size) W1 W2 := by rw [hW2]; exact OnlyIn.setCells _ _ _ _ _ (OnlyIn.refl _ _)
   have hrow2 := own_laid hrow0 0 (min n' l) (fun j => x (r * l + j))
   rw [← hW2] at hcp hrow2
   have HH := hid (HP0.turn (w' := W2) (r := r) (Y := dsh l n x) (by omega) (by
    rw [hg]
    rwa [vals_congr (W := fun j => kv (dsh l n x r j)) (fun j hj => by
     have h1 := dsh_row l n r j x hj
     rw [← hn'] at h1
     rw [← h1]
     by_cases e : 0 ≤ j ∧ j < 0 + min n' l
     ·rw [if_pos e, if_pos e]
     ·rw [if_neg e, if_neg e, if_neg (by omega)])] at hrow2) (fun i hi hne j _ => by rw [if_pos (by omega)]) (by rw [hg]; exact ho))
   have HB := hid (ho.below HB0 (fun b hb => by rw [hb]; omega))
   obtain ⟨p2, hsl, hp2⟩ := run_lo22 p' n' c' (min n' l) (by omega)
   have HS := hid (hs.drop hc' hp2)
   have hcp2 : ∀ ty, (Builtin.copy_ #[22, 22] ty #[.slice (some ⟨wr.heap.size, 0, none⟩) l l, .slice p' n' c']).run Tryz.prog ((wr.setCell ⟨w.heap.size, r, none⟩ (.slice (some ⟨wr.heap.size, 0, none⟩) l l)).alloc (.cells (madeCells #[.int .u8 0] l) 5)) = .ok (goInt ((min n' l : Nat) : Int)) W2 := fun ty => by have h1 := hcp ty; rw [hW1] at h1; exact h1
   have e2 : ((wr.setCell ⟨w.heap.size, r, none⟩ (.slice (some ⟨wr.heap.size, 0, none⟩) l l)).alloc (.cells (madeCells #[.int .u8 0] l) 5)).cell? ⟨w.heap.size, r, none⟩ = some (.slice (some ⟨wr.heap.size, 0, none⟩) l l) := by rw [hW1] at e1; exact e1
   have HN := hid hn'
   have hmin : min n' l ≤ 65536 := by omega
   clear hh hb hs HP0 HB0 hrow0 hrow2 ho hcp hW2 hW1 e1 hp2 hn'
   go_wp2
   go_roundw
   case rel => exact ⟨r + 1, n' - min n' l, c' - min n' l, p2, _, by omega, by go_num, rfl, by rw [HN.out]; exact min_sub n r l, by omega, HS.out.congr (fun j hj => by
    rw [Nat.add_mul, Nat.one_mul]
    have : min n' l = l := by omega
    rw [this, Nat.add_assoc]), HH.out, HB.out⟩
   case measure => simp [intOf]; omega
  ·have e : r = k := by omega
   subst e
   have HO := hid hh.done
   have HB := hid hb
   clear hh hb hs hn'
   go_wp2
   go_ret
   exact ⟨_, G, rfl, HO.out, HB.out⟩
end Go.Proofs.YtdohmokhfajjpaaGreatDoor.U

/- Contract of combine of package stripe: what rows make of shards, place by place, lies in new memory; what was there is as it was. -/
namespace Go.Proofs.YtdohmokhfajjpaaGreatDoor.U
open Go.RowKit

theorem under66 : Tryz.prog.underlying 90 = some (.array (Tryz.prog.arrayLen 90) (Tryz.prog.elem 90)) := by kernel_rfl
theorem len66 : Tryz.prog.arrayLen 90 = 16 := by kernel_rfl
theorem size66 (w : World) : (sizeOf (Tryz.prog.elem 90)).run Tryz.prog w = .ok 1 w := by
 obtain ⟨i0, hi0, hz0, hz1, hz2⟩ := info_parts Tryz.info5
 rw [show Tryz.prog.elem 90 = 5 by kernel_rfl]
 simp [sizeOf, typeInfo, hi0, hz1]
theorem run_arr16 (ab k : Nat) (h : k ≤ 16) (w : World) : (Instr.sliceAt 90 (.pointer (some ⟨ab, 0, none⟩)) none (some (.int .i64 (k : Int))) none).run Tryz.prog w = .ok (.slice (some ⟨ab, 0, none⟩) k 16) w := by
 rw [run_sliceAt_array_h (P := Tryz.prog) w 90 ⟨ab, 0, none⟩ under66 .i64 (k : Int) (by omega) (by rw [len66]; omega), size66]
 simp [Result.andThen, slicedAt, Addr.add, len66]

/-- The rows as far as they were made, and the column on the stack. -/
structure ComAt (w wr : World) (g n l ab : Nat) (G : Nat → Nat) (X : Nat → Nat → K) (col : Nat → K) : Prop where
 mat : OwnMat w.heap.size wr g n n l G (fun _ => l) X
 arr : wr.ownsRow w.heap.size 90 1 (.slice (some ⟨ab, 0, none⟩) 16 16) 16 (vals 16 fun j => kv (col j))
 bel : Below w.heap.size w wr
section
variable {w wr : World} {g n l ab : Nat} {G : Nat → Nat} {X : Nat → Nat → K} {col : Nat → K}
theorem ComAt.setArr (h : ComAt w wr g n l ab G X col) (j : Nat) (v : K) : ComAt w (wr.setCell ⟨ab, j, none⟩ (.int .u8 ((v.val : Nat) : Int))) g n l ab G X (upd col j v) where
 mat := h.mat.setOther h.arr (by decide) (by decide) rfl _
 arr := by
  have h1 := (h.arr.stored j (kv v)).1
  rw [vals_set, vals_congr (W := fun c => kv (upd col j v c)) (fun c _ => by unfold upd; by_cases e : c = j <;> simp [e])] at h1
  exact h1
 bel := h.bel.setCell (p := ⟨ab, j, none⟩) (own_ge h.arr).1 _
theorem ComAt.setMat (h : ComAt w wr g n l ab G X col) (i j : Nat) (v : K) (hi : i < n) : ComAt w (wr.setCell ⟨G i, j, none⟩ (.int .u8 ((v.val : Nat) : Int))) g n l ab G (up2 X i j v) col where
 mat := h.mat.set i j v hi
 arr := ownsRow_setCell_other h.arr (a := ⟨G i, j, none⟩) (fun q => own_apart h.arr (h.mat.row i hi) (by decide) (by simpa [Value.ownBlock] using q)) _
 bel := h.bel.setCell (p := ⟨G i, j, none⟩) (h.mat.ge i hi).1 _
theorem ComAt.drew (h : ComAt w wr g n l ab G X col) : ComAt w wr.drew g n l ab G X col := ⟨h.mat.drew, h.arr.drew, h.bel.drew⟩
theorem ComAt.congr {Y : Nat → Nat → K} (h : ComAt w wr g n l ab G X col) (e : ∀ i, i < n → ∀ j, j < l → X i j = Y i j) : ComAt w wr g n l ab G Y col := ⟨h.mat.congr e, h.arr, h.bel⟩
end
theorem upd_below (f : Nat → K) (col : Nat → K) (i : Nat) (h : ∀ j, j < i → col j = f j) : ∀ j, j < i + 1 → upd col i (f i) j = f j := fun j hj => by
 unfold upd
 by_cases e : j = i
 ·subst e; rw [if_pos rfl]
 ·rw [if_neg e]; exact h j (by omega)

set_option maxRecDepth 100000 in
set_option maxHeartbeats 8000000 in
theorem combine_any (p q : Option Addr) (n k l c d : Nat) (A A' : Nat → Option Addr) (C C' : Nat → Nat) (R S : Nat → Nat → K) (w : World)
  (h : MatAt w p n A (fun _ => k) C R) (h' : MatAt w q k A' (fun _ => l) C' S) (hn0 : 1 ≤ n) (hn : n ≤ 32) (h1 : 1 ≤ k) (hk : k ≤ 16) (hl : l ≤ 65536) :
  Calls Tryz.prog 28 #[.slice p n c, .slice q k d] w fun e w' => ∃ g G, e = .returned (.slice (some ⟨g, 0, none⟩) n n) ∧ OwnMat w.heap.size w' g n n l G (fun _ => l) (pr k R S) ∧ Below w.heap.size w w' := by
 obtain ⟨b, o, rfl, bs, os, hc, hr⟩ := h.at (by omega) (by omega)
 have HC := hid hc
 have HR := hid hr
 have HLE := hid h.le
 obtain ⟨b', o', rfl, hc'⟩ := h'.top.pos (by omega)
 have c0 := hc' 0 (by omega)
 rw [Nat.add_zero] at c0
 have HC' := hid hc'
 have HR' := hid h'.row
 have hmk := run_make_top n (by omega) w
 have H0 := hid (own_made w 22 (.slice none 0 0) n w.heap.size (by omega) (Nat.le_refl _))
 clear hc hr hc' h h'
 go_enter Tryz.func28, Tryz.ntmps28
 go_wp2
 clear hmk
 go_loopw [23] (fun i wr => ∃ r : Nat, ∃ G : Nat → Nat, r ≤ n ∧ i = .int .i64 r ∧ Half w.heap.size wr w.heap.size n n l r G (fun _ => l) (fun _ _ => 0) (fun _ => .slice none 0 0) ∧ Below w.heap.size w wr) (fun i _ => (n - intOf i).toNat)
 case atStart => exact ⟨0, fun _ => 0, by omega, rfl, ⟨by simpa using H0.out, fun i hi => absurd hi (by omega), fun i j hi => absurd hi (by omega)⟩, (Below.refl _ _).alloc (Nat.le_refl _) _⟩
 case round =>
  obtain ⟨r, G, hr, rfl, hh, hb⟩ := hrel
  clear H0
  by_cases hlt : r < n
  ·have hmk := run_make_u8 l (by omega) wr
   have hsz : w.heap.size < wr.heap.size := (own_ge hh.top).2
   have c1 : (wr.alloc (.cells (madeCells #[.int .u8 0] l) 5)).cell? ⟨w.heap.size, r, none⟩ = some (.slice none 0 0) := by
    rw [World.cell?_alloc_lt _ _ _ hsz, own_cell hh.top r hlt]; simp
   have c2 : (wr.alloc (.cells (madeCells #[.int .u8 0] l) 5)).frozen? ⟨w.heap.size, r, none⟩ = false := by
    rw [World.frozen?_alloc_old _ _ _ (Nat.ne_of_lt hsz)]; exact hh.top.frozenAt r
   have HP := hid (hh.push (w1 := wr.alloc (.cells (madeCells #[.int .u8 0] l) 5)) (fun b hb => Below.heap_alloc _ _ _ hb) wr.heap.size l (Nat.le_refl _) (own_made wr 5 (.int .u8 0) l w.heap.size (by omega) (by omega)))
   have HB := hid ((hb.alloc (by omega) (.cells (madeCells #[.int .u8 0] l) 5)).setCell (p := ⟨w.heap.size, r, none⟩) (Nat.le_refl _) (rv wr.heap.size l l))
   rw [World.setCell_alloc_past _ _ _ _ hsz] at HP HB
   clear hh hb
   go_wp2
   go_roundw
   case rel => exact ⟨r + 1, upd G r wr.heap.size, by omega, by go_num, by
    have := HP.out
    rw [upd_const] at this; exact this, HB.out⟩
   case measure => simp [intOf]; omega
  ·have e : r = n := by omega
   subst e
   have hsz := hb.size
   have HS : Hid (ComAt w (wr.alloc (.cells #[.int .u8 0, .int .u8 0, .int .u8 0, .int .u8 0, .int .u8 0, .int .u8 0, .int .u8 0, .int .u8 0, .int .u8 0, .int .u8 0, .int .u8 0, .int .u8 0, .int .u8 0, .int .u8 0, .int .u8 0, .int .u8 0] 90)) w.heap.size r l wr.heap.size G (turnTo (fun a b => pr k R S b a) 0 0) (fun _ => 0)) :=
    ⟨(hh.done.keep (fun b hb => Below.heap_alloc _ _ _ hb)).congr (fun i _ j _ => by simp [turnTo]), World.ownsRow_lit (base := w.heap.size) (e := 90) (size := 1) wr #[.int .u8 0, .int .u8 0, .int .u8 0, .int .u8 0, .int .u8 0, .int .u8 0, .int .u8 0, .int .u8 0, .int .u8 0, .int .u8 0, .int .u8 0, .int .u8 0, .int .u8 0, .int .u8 0, .int .u8 0, .int .u8 0] 16 hsz (by unfold maxLen; omega) rfl, hb.alloc hsz _⟩
   clear hh hb c0
   obtain ⟨ab, hab⟩ : ∃ ab, ab = wr.heap.size := ⟨_, rfl⟩
   rw [← hab] at HS
   have hs16 := run_arr16 ab k hk
   go_wp2_with fail
   rw [← hab]
   clear hab
   go_loopw [33] (fun i wr => ∃ (z : Nat) (col : Nat → K), z ≤ l ∧ i = .int .i64 z ∧ ComAt w wr w.heap.size r l ab G (turnTo (fun a b => pr k R S b a) z 0) col) (fun i _ => (l - intOf i).toNat)
   case atStart => exact ⟨0, _, by omega, rfl, HS.out⟩
   case round =>
    clear HS
    obtain ⟨z, col, hz, rfl, hs⟩ := hrel
    by_cases hlt2 : z < l
    ·have HS := hid hs
     clear hs
     go_wp2_with fail
     go_loopw [38] (fun i wr => ∃ (y : Nat) (col : Nat → K), y ≤ k ∧ i = .int .i64 y ∧ ComAt w wr w.heap.size r l ab G (turnTo (fun a b => pr k R S b a) z 0) col ∧ ∀ j, j < y → col j = S j z) (fun i _ => (k - intOf i).toNat)
     case atStart => exact ⟨0, _, by omega, rfl, HS.out, fun j hj => absurd hj (by omega)⟩
     case round =>
      clear HS
      obtain ⟨y, col, hy, rfl, hs, hcol⟩ := hrel
      by_cases hlt3 : y < k
      ·have c1 : wr.cell? ⟨b', o' + y, none⟩ = some (.slice (A' y) l (C' y)) := Stays.of_below hs.bel _ _ (HC'.out y hlt3)
       obtain ⟨b2, o2, ha2, hr2⟩ : ∃ b2 o2, A' y = some ⟨b2, o2, none⟩ ∧ RowAt w b2 o2 l (fun j => (S y j).val) := by
        rcases HR'.out y hlt3 with q | q
        ·omega
        ·exact q
       rw [ha2] at c1
       have c2 : wr.cell? ⟨b2, o2 + z, none⟩ = some (.int .u8 ((S y z).val : Nat)) := Stays.of_below hs.bel _ _ (hr2 z hlt2)
       have c3 : wr.cell? ⟨ab, y, none⟩ = some (.int .u8 ((col y).val : Nat)) := own_cell (V := fun j => kv (col j)) hs.arr y (by omega)
       have c4 := hs.arr.frozenAt y
       have HS := hid (hs.setArr y (S y z))
       have HCOL := hid (upd_below (fun j => S j z) col y hcol)
       clear hs hcol ha2 hr2 HC HR HLE HC' HR'
       go_wp2
       go_roundw
       case rel => exact ⟨y + 1, _, by omega, by go_num, HS.out, HCOL.out⟩
       case measure => simp [intOf]; omega
      ·have e : y = k := by omega
       subst e
       have HS := hid hs
       have HCOL := hid hcol
       clear hs hcol hlt3 HC' HR'
       go_wp2_with fail
       go_loopw [52] (fun i wr => ∃ v : Nat, v ≤ r ∧ i = .int .i64 v ∧ ComAt w wr w.heap.size r l ab G (turnTo (fun a b => pr y R S b a) z v) col) (fun i _ => (r - intOf i).toNat)
       case atStart => exact ⟨0, by omega, rfl, HS.out⟩
       case round =>
        clear HS
        obtain ⟨v, hv, rfl, hs⟩ := hrel
        by_cases hlt4 : v < r
        ·have c1 : wr.cell? ⟨b, o + v, none⟩ = some (.slice (some ⟨bs v, os v, none⟩) y (C v)) := Stays.of_below hs.bel _ _ (HC.out v hlt4)
         have r1 : RowAt wr.drew (bs v) (os v) y (fun i => (R v i).val) := (HR.out v hlt4).keep (Stays.of_below hs.bel.drew)
         have r2 : RowAt wr.drew ab 0 y (fun i => (S i z).val) := fun i hi => by
          rw [Nat.zero_add]
          have := own_cell (V := fun j => kv (col j)) hs.arr i (by omega)
          rw [HCOL.out i hi] at this; exact this
         have c3 := hs.mat.topCell v hlt4
         have c4 := hs.mat.cell v z hlt4 hlt2
         have c5 := hs.mat.free v z hlt4
         have C6 : Hid (∀ u, (wr.setCell ⟨G v, z, none⟩ u).drew.cell? ⟨w.heap.size, v, none⟩ = some (.slice (some ⟨G v, 0, none⟩) l l)) := fun u => by
          show (wr.setCell ⟨G v, z, none⟩ u).cell? ⟨w.heap.size, v, none⟩ = _
          rw [World.cell?_setCell_other _ _ _ _ (by intro q; exact hs.mat.apart v hlt4 (congrArg Addr.block q).symm)]; exact c3
         have hle := HLE.out v hlt4
         have HS := hid ((hs.setMat v z (pr y R S v z) hlt4).congr (fun r _ c _ => turnTo_step (fun a b => pr y R S b a) z v r c))
         clear hs HC HR HLE HCOL
         go_wp2_with fail
         go_region_held3 (fun w' => w'.cell? ⟨w.heap.size, v, none⟩ = some (.slice (some ⟨G v, 0, none⟩) l l)) (first | exact C6.out _ | go_keep) (first | (go_at_call 42; refine (dot_k _ _ y _ _ _ _ (R v) (fun i => S i z) _ (by omega) hle (by omega) (by exact r1) (by exact r2)).mono ?_; rintro e w3 ⟨rfl, rfl⟩))
         go_wp2
         go_roundw
         case rel => exact ⟨v + 1, by omega, by go_num, HS.out.drew⟩
         case measure => simp [intOf]; omega
        ·have HS := hid (hs.congr (fun i hi j _ => turnTo_next (fun a b => pr y R S b a) z v i j (by omega)))
         clear hs HC HR HLE HCOL
         go_wp2
         go_roundw
         case rel => exact ⟨z + 1, col, by omega, by go_num, HS.out⟩
         case measure => simp [intOf]; omega
    ·have HM := hid (hs.mat.congr (Y := pr k R S) (fun i hi j hj => by simp [turnTo, show j < z by omega]))
     have HB := hid hs.bel
     clear hs HC HR HLE HC' HR'
     go_wp2
     go_ret
     exact ⟨_, G, rfl, HM.out, HB.out⟩
end Go.Proofs.YtdohmokhfajjpaaGreatDoor.U

/- Texts laid into one: the remark ahead of each part says what is proved there. -/
/- The walk of MatrixJoins: of any three matrices that are not large the products may be put together in any way. No conditions. -/
namespace Go.Proofs.YtdohmokhfajjpaaGreatDoor.U
open Go.RowKit

end Go.Proofs.YtdohmokhfajjpaaGreatDoor.U

/- For the walk of MatrixAny: append of any number of values at a step of a region that draws; Pick of the statements' kit; lists whose numbers are unlike. No conditions. -/
namespace Go.Proofs.YtdohmokhfajjpaaGreatDoor.U
open Go.RowKit

/-- The rows that were taken and those that are left: unlike, and below t. -/
structure Parts (t i : Nat) (l r : List Nat) : Prop where
 len : l.length + i = t
 taken : r.length = i
 nodup : (r ++ l).Nodup
 lt : ∀ y ∈ r ++ l, y < t
theorem Parts.start (t : Nat) : Parts t 0 (List.range t) [] := ⟨by simp, rfl, by simpa using List.nodup_range, fun y hy => by simpa using hy⟩
theorem pl_get (l : List Nat) (i : Nat) (h : i < l.length) : pl l i = l[i] := by unfold pl; rw [List.getElem?_eq_getElem h]; rfl
theorem Parts.inj {t i : Nat} {l r : List Nat} (h : Parts t i l r) (a b : Nat) (ha : a < i) (hb : b < i) (e : pl r a = pl r b) : a = b := by
 have hr : r.Nodup := (List.nodup_append.1 h.nodup).1
 have ht := h.taken
 rw [pl_get r a (by omega), pl_get r b (by omega)] at e
 have hp := List.pairwise_iff_getElem.1 hr
 rcases Nat.lt_trichotomy a b with q | q | q
 ·exact absurd e (hp a b (by omega) (by omega) q)
 ·exact q
 ·exact absurd e.symm (hp b a (by omega) (by omega) q)
theorem Parts.below {t i : Nat} {l r : List Nat} (h : Parts t i l r) (a : Nat) (ha : a < i) : pl r a < t := by
 have ht := h.taken
 rw [pl_get r a (by omega)]
 exact h.lt _ (by simp)
theorem pivV_append (l r : List Nat) : pivV (l ++ r) = pivV l ++ pivV r := by simp [pivV]
end Go.Proofs.YtdohmokhfajjpaaGreatDoor.U

/- The walk of MatrixAny: any k unlike rows of the code of k and m have an inverse, for any k and m and any choice of rows. No conditions. -/
namespace Go.Proofs.YtdohmokhfajjpaaGreatDoor.U
open Go.RowKit

end Go.Proofs.YtdohmokhfajjpaaGreatDoor.U

/- Texts laid into one: the remark ahead of each part says what is proved there. -/
/- Contract of sweep of the document's own answer: it leaves the rank, and with full rank the inverse beside it; nothing below the call's own memory is touched. -/
namespace Go.Proofs.YtdohmokhfajjpaaGreatDoor.U
open Go.RowKit

/-- Two matrices that share nothing. -/
structure Two (B : Nat) (w : World) (ga ca gw cw n m : Nat) (Ga Qa Gw Qw : Nat → Nat) (T W : Nat → Nat → K) : Prop where
 a : OwnMat B w ga ca n m Ga Qa T
 b : OwnMat B w gw cw n n Gw Qw W
 tops : ga ≠ gw
 rows : ∀ i k, i < n → k < n → Ga i ≠ Gw k
section
variable {B : Nat} {w w' : World} {ga ca gw cw n m : Nat} {Ga Qa Gw Qw : Nat → Nat} {T W T' W' : Nat → Nat → K}
theorem Two.congr (h : Two B w ga ca gw cw n m Ga Qa Gw Qw T W) (e1 : ∀ i, i < n → ∀ j, j < m → T i j = T' i j) (e2 : ∀ i, i < n → ∀ j, j < n → W i j = W' i j) : Two B w ga ca gw cw n m Ga Qa Gw Qw T' W' := ⟨h.a.congr e1, h.b.congr e2, h.tops, h.rows⟩
end
end Go.Proofs.YtdohmokhfajjpaaGreatDoor.U

/- Contract of Product of the document's own answer: the product lies in new memory; what was there is as it was. -/
namespace Go.Proofs.YtdohmokhfajjpaaGreatDoor.U
open Go.RowKit

/-- What holds while the row in block g is made, beside rows that stand. -/
structure RowMade (B : Nat) (w wr : World) (g m : Nat) (x : Nat → K) : Prop where
 row : wr.ownsRow B 5 1 (.slice (some ⟨g, 0, none⟩) m m) m (vals m fun c => kv (x c))
 bel : Below B w wr
theorem RowMade.congr {B : Nat} {w wr : World} {g m : Nat} {x y : Nat → K} (h : RowMade B w wr g m x) (e : ∀ c, c < m → x c = y c) : RowMade B w wr g m y :=
 ⟨by have := h.row; rwa [vals_congr (W := fun c => kv (y c)) (fun c hc => by show kv (x c) = kv (y c); rw [e c hc])] at this, h.bel⟩
theorem RowMade.set {B : Nat} {w wr : World} {g m : Nat} {x y : Nat → K} (h : RowMade B w wr g m x) (k : Nat) (v : K) (e : ∀ c, upd (fun c => kv (x c)) k (kv v) c = kv (y c)) : RowMade B w (wr.setCell ⟨g, k, none⟩ (.int .u8 ((v.val : Nat) : Int))) g m y := by
 refine ⟨?_, h.bel.setCell (p := ⟨g, k, none⟩) (own_ge h.row).1 _⟩
 have h1 := (h.row.stored k (kv v)).1
 rw [vals_set, vals_congr (W := fun c => kv (y c)) (fun c _ => e c)] at h1
 exact h1
end Go.Proofs.YtdohmokhfajjpaaGreatDoor.U

/- Contracts of Invert and Rank of the document's own answer: as the program's, for there is one rank and one inverse; what was there is as it was. -/
namespace Go.Proofs.YtdohmokhfajjpaaGreatDoor.U
open Go.RowKit

theorem OwnMat.two {w w1 w2 : World} {ga ca gw cw n m : Nat} {Ga Qa Gw Qw : Nat → Nat} {T W : Nat → Nat → K} (ha : OwnMat w.heap.size w1 ga ca n m Ga Qa T) (hb : OwnMat w1.heap.size w2 gw cw n n Gw Qw W) (hbel : Below w1.heap.size w1 w2) (hsz : w.heap.size ≤ w1.heap.size) :
  Two w.heap.size w2 ga ca gw cw n m Ga Qa Gw Qw T W where
 a := ha.stay hbel
 b := hb.base hsz
 tops := by have := (own_ge ha.top).2; have := (own_ge hb.top).1; omega
 rows := fun i k hi hk => by have := (ha.ge i hi).2; have := (hb.ge k hk).1; omega
end Go.Proofs.YtdohmokhfajjpaaGreatDoor.U

/- Contract of ApartBytes of the statements' kit, over lists each of which lies whole in a block of its own: it returns true, and touches no block that was there but those. -/
namespace Go.Proofs.YtdohmokhfajjpaaGreatDoor.U
open Go.RowKit

end Go.Proofs.YtdohmokhfajjpaaGreatDoor.U

/- Contracts of Mul, Invert and Rank once more, the program's and the document's own, in one form for all inputs: a list of rows, of none where there is an error, and the error's number. -/
namespace Go.Proofs.YtdohmokhfajjpaaGreatDoor.U
open Go.RowKit

theorem OwnV.nil {B : Nat} {w : World} {G M C N Q : Nat → Nat} {Y : Nat → Nat → K} : OwnV B w (.slice none 0 0) 0 G M C N Q Y := OwnV.start _ _ _ _ _ _ _ _
theorem OwnV.base {B B' : Nat} {w : World} {v : Value} {n : Nat} {G M C N Q : Nat → Nat} {X : Nat → Nat → K} (h : OwnV B w v n G M C N Q X) (hb : B' ≤ B) : OwnV B' w v n G M C N Q X where
 top := by
  refine ⟨h.top.1, ?_⟩
  rcases h.top.2 with q | ⟨g', cap, cur, hv, h1, h2, h3⟩
  ·exact .inl q
  ·exact .inr ⟨g', cap, cur, hv, Nat.le_trans hb h1, h2, h3⟩
 row := fun i hi => own_base (h.row i hi) hb
 inj := h.inj
/-- How many rows an answer has. -/
def cnt (e : Int) (n : Nat) : Nat := if e = 0 then n else 0
end Go.Proofs.YtdohmokhfajjpaaGreatDoor.U

/- The walk of MatrixTells: of any two matrices that are not large the product, the inverse, the rank and the errors are the document's own; what is handed in stays, and the answers lie in memory of their own. No conditions. -/
namespace Go.Proofs.YtdohmokhfajjpaaGreatDoor.U
open Go.RowKit

/-- append at its place, guarded or not, by what it is known to do. -/
theorem wpList_append_run {P : Program} {w w' : World} {ops : Array Oper} {rest : List Oper} {o : Oper} {a : Act} {Q : Exit → Act → World → Prop} (s x : Operand) (t : TypeId)
  (ho : o.op = .call { callee := .builtin .append, args := #[s, x], argTypes := #[t, t] }) (hw : Region.wanted o (yielded ops a.tmps) = true)
  (v xv v' : Value) (hs : a.eval s = v) (hx : a.eval x = xv) (hr : (Builtin.append_ #[t, t] o.type #[v, xv]).run P w = .ok v' w') (h : wpList P ops Q rest (a.put o.dst v') w') : wpList P ops Q (o :: rest) a w := by
 refine BigFrame.wpList_want hw fun K hK => ?_
 unfold Oper.wp execOp
 simp only [ho, resolve, invoke, builtin, Sem.run_bind, Sem.run_pure, Result.andThen_ok, List.map_toArray, List.map_cons, List.map_nil, hs, hx, hr]
 exact hK _ _ h
theorem vals_append (n m : Nat) (V W : Nat → Value) : vals n V ++ vals m W = vals (n + m) fun i => if i < n then V i else W (i - n) := by
 apply List.ext_getElem?
 intro i
 by_cases h1 : i < n
 ·rw [List.getElem?_append_left (by rw [vals_len]; exact h1), vals_get _ _ _ h1, vals_get _ _ _ (by omega), if_pos h1]
 ·rw [List.getElem?_append_right (by rw [vals_len]; omega), vals_len]
  by_cases h2 : i < n + m
  ·rw [vals_get _ _ _ (by omega), vals_get _ _ _ h2, if_neg h1]
  ·rw [List.getElem?_eq_none (by rw [vals_len]; omega), List.getElem?_eq_none (by rw [vals_len]; omega)]
/-- One of two, by place. -/
def two {α : Type} (n : Nat) (f g : Nat → α) (i : Nat) : α := if i < n then f i else g (i - n)
theorem OwnV.spare {B : Nat} {S : Nat → Prop} {w w' : World} {v : Value} {n : Nat} {G M C N Q : Nat → Nat} {X : Nat → Nat → K} (h : OwnV B w v n G M C N Q X) (hs : SpareIn S w w') (h1 : ∀ i, i < n → ¬ S (G i)) (h2 : ∀ b, v.ownBlock = some b → ¬ S b) : OwnV B w' v n G M C N Q X where
 top := own_keepV h.top (fun b q => hs.block b (h.top.lt b q).2 (h2 b q))
 row := fun i hi => own_keep (h.row i hi) (hs.block _ (own_ge (h.row i hi)).2 (h1 i hi))
 inj := h.inj
end Go.Proofs.YtdohmokhfajjpaaGreatDoor.U

/- Contract of Split of package stripe: all shards of the bytes lie in new memory, or the error's number is told; what was there is as it was. -/
namespace Go.Proofs.YtdohmokhfajjpaaGreatDoor.U
open Go.RowKit

theorem size24 (w : World) : (sizeOf (Tryz.prog.elem 25)).run Tryz.prog w = .ok 1 w := by
 obtain ⟨i0, hi0, hz0, hz1, hz2⟩ := info_parts Tryz.info22
 rw [show Tryz.prog.elem 25 = 22 by kernel_rfl]
 simp [sizeOf, typeInfo, hi0, hz1]
theorem under24 : Tryz.prog.underlying 25 = some (.slice (Tryz.prog.elem 25)) := by kernel_rfl
theorem run_lo24 (b o n c k : Nat) (hk : k ≤ n) (hc : k < c) (w : World) : (Instr.slice 25 (.slice (some ⟨b, o, none⟩) n c) (some (.int .i64 (k : Int))) none none).run Tryz.prog w = .ok (.slice (some ⟨b, o + k, none⟩) (n - k) (c - k)) w := by
 rw [run_slice_l (P := Tryz.prog) w 25 (some ⟨b, o, none⟩) n c under24 .i64 (k : Int) (by omega) (by omega), size24]
 simp [Result.andThen, sliced, show ¬ c = k by omega, add_plain']
theorem run_hi24 (p : Option Addr) (n c k : Nat) (hk : k ≤ c) (hc : 0 < c) (w : World) : (Instr.slice 25 (.slice p n c) none (some (.int .i64 (k : Int))) none).run Tryz.prog w = .ok (.slice p k c) w := by
 rw [run_slice_h (P := Tryz.prog) w 25 p n c under24 .i64 (k : Int) (by omega) (by omega), size24]
 cases p with
 | none => simp [Result.andThen, sliced, Nat.pos_iff_ne_zero.1 hc]
 | some a => obtain ⟨b, o, s⟩ := a; simp [Result.andThen, sliced, Addr.add]; try (cases s <;> simp)
/-- Some of the rows. -/
theorem MatAt.sub {w : World} {b o n : Nat} {A : Nat → Option Addr} {L C : Nat → Nat} {X : Nat → Nat → K} (h : MatAt w (some ⟨b, o, none⟩) n A L C X) (r m : Nat) (hr : r + m ≤ n) :
  MatAt w (some ⟨b, o + r, none⟩) m (fun i => A (r + i)) (fun i => L (r + i)) (fun i => C (r + i)) (fun i j => X (r + i) j) where
 top := by
  by_cases h0 : m = 0
  ·exact .inl h0
  ·obtain ⟨b', o', hp, hc⟩ := h.top.pos (by omega)
   cases hp
   exact .inr ⟨b, o + r, rfl, fun i hi => by rw [Nat.add_assoc]; exact hc (r + i) (by omega)⟩
 row := fun i hi => h.row (r + i) (by omega)
 le := fun i hi => h.le (r + i) (by omega)
theorem MatAt.first {w : World} {p : Option Addr} {n : Nat} {A : Nat → Option Addr} {L C : Nat → Nat} {X : Nat → Nat → K} (h : MatAt w p n A L C X) (m : Nat) (hr : m ≤ n) : MatAt w p m A L C X where
 top := by
  rcases h.top with h0 | ⟨b, o, hp, hc⟩
  ·exact .inl (by omega)
  ·exact .inr ⟨b, o, hp, fun i hi => hc i (by omega)⟩
 row := fun i hi => h.row i (by omega)
 le := fun i hi => h.le i (by omega)
theorem OwnMat.congrQ {B : Nat} {w : World} {g c n m : Nat} {G Q Q' : Nat → Nat} {X : Nat → Nat → K} (h : OwnMat B w g c n m G Q X) (e : ∀ i, i < n → Q i = Q' i) : OwnMat B w g c n m G Q' X where
 top := by
  have := h.top
  rwa [vals_congr (W := fun i => rv (G i) m (Q' i)) (fun i hi => by rw [e i hi])] at this
 row := fun i hi => by have := h.row i hi; rwa [e i hi] at this
 inj := h.inj
/-- Rows that are put behind others. -/
theorem ownMat_join {B B2 : Nat} {w w' : World} {g1 c1 n1 m g2 c2 n2 gg cap : Nat} {G1 Q1 G2 Q2 : Nat → Nat} {X1 X2 : Nat → Nat → K} (h1 : OwnMat B w g1 c1 n1 m G1 Q1 X1) (h2 : OwnMat B2 w g2 c2 n2 m G2 Q2 X2) (hB : B ≤ B2) (hlt : ∀ i, i < n1 → G1 i < B2)
  (hgrow : w.grownBy w' (Value.slice (some ⟨g1, 0, none⟩) n1 c1).ownBlock) (hown : w'.ownsRow B 22 1 (.slice (some ⟨gg, 0, none⟩) (n1 + n2) cap) (n1 + n2) ((vals n1 fun i => rv (G1 i) m (Q1 i)) ++ vals n2 fun i => rv (G2 i) m (Q2 i))) :
  OwnMat B w' gg cap (n1 + n2) m (two n1 G1 G2) (two n1 Q1 Q2) (two n1 X1 X2) where
 top := by
  rw [vals_append] at hown
  rwa [vals_congr (W := fun i => rv (two n1 G1 G2 i) m (two n1 Q1 Q2 i)) (fun i _ => by
   unfold two
   by_cases q : i < n1
   ·rw [if_pos q, if_pos q, if_pos q]
   ·rw [if_neg q, if_neg q, if_neg q])] at hown
 row := fun i hi => by
  have hk : ∀ B0 b cr mr ys, w.ownsRow B0 5 1 (.slice (some ⟨b, 0, none⟩) mr cr) mr ys → w'.ownsRow B0 5 1 (.slice (some ⟨b, 0, none⟩) mr cr) mr ys := fun B0 b cr mr ys hh =>
   own_keep hh (hgrow.block b (own_ge hh).2 (fun q => own_ne hh h1.top (by decide) rfl q.symm))
  unfold two
  by_cases q : i < n1
  ·simp only [if_pos q]; exact hk _ _ _ _ _ (h1.row i q)
  ·simp only [if_neg q]; exact own_base (hk _ _ _ _ _ (h2.row (i - n1) (by omega))) hB
 inj := fun i j hi hj q => by
  have hge : ∀ k, k < n2 → B2 ≤ G2 k := fun k hk => (h2.ge k hk).1
  unfold two at q
  by_cases q1 : i < n1
  ·by_cases q2 : j < n1
   ·rw [if_pos q1, if_pos q2] at q; exact h1.inj i j q1 q2 q
   ·rw [if_pos q1, if_neg q2] at q; have := hlt i q1; have := hge (j - n1) (by omega); omega
  ·by_cases q2 : j < n1
   ·rw [if_neg q1, if_pos q2] at q; have := hlt j q2; have := hge (i - n1) (by omega); omega
   ·rw [if_neg q1, if_neg q2] at q; have := h2.inj (i - n1) (j - n1) (by omega) (by omega) q; omega

theorem ash_two (k m l n : Nat) (x : Nat → K) : ∀ i, i < k + m → ∀ j, j < l → two k (dsh l n x) (pr k (fun i j => codeX k (k + i) j) (dsh l n x)) i j = ash k l n x i j := fun i _ j _ => by
 unfold two ash
 by_cases q : i < k
 ·rw [if_pos q, pr_code k _ i j q]
 ·rw [if_neg q]
  show pr k (codeX k) (dsh l n x) (k + (i - k)) j = _
  rw [show k + (i - k) = i by omega]

set_option maxRecDepth 100000 in
set_option maxHeartbeats 4000000 in
theorem split_ok (p : Option Addr) (n c k m : Nat) (x : Nat → K) (w : World) (h0 : 1 ≤ k) (h1 : 1 ≤ m) (h : k + m ≤ 16) (hn : n ≤ 65536) (hc : n ≤ c) (hx : StrAt w p n fun j => (x j).val) :
  Calls Tryz.prog 17 #[.slice p n c, .int .i64 k, .int .i64 m] w fun e w' => ∃ g cp G, e = .returned (.tuple #[.slice (some ⟨g, 0, none⟩) (k + m) cp, .int .i64 0]) ∧ OwnMat w.heap.size w' g cp (k + m) (lgt n k) G (fun _ => lgt n k) (ash k (lgt n k) n x) ∧ Below w.heap.size w w' := by
 obtain ⟨i0, hi0, hz0, hz1, hz2⟩ := info_parts Tryz.info22
 have HX := hid hx
 clear hx
 have hll := lgt_le n k hn h0
 go_enter Tryz.func17, Tryz.ntmps17
 go_wp2_with fail
 refine (code_any k m w h0 h1 h).mono ?_
 rintro e w1 ⟨gC, cC, GC, QC, rfl, hmC, hb1⟩
 have MC := hid hmC
 have B1 := hid hb1
 have X1 := hid (HX.out.keep (Stays.of_below hb1))
 have hcC := own_le hmC.top
 have hsz1 := hb1.size
 clear hb1 hmC HX
 go_wp2_with fail
 refine (length_ok n k w1 (by omega) h0 (by omega)).mono ?_
 rintro e w' ⟨rfl, hw⟩
 have hw2 := hw.symm
 subst hw2
 clear hw
 go_wp2_with fail
 refine (part_any p n c k (lgt n k) x w1 (by omega) hll hn hc X1.out).mono ?_
 rintro e w2 ⟨gS, GS, rfl, hmS, hb2⟩
 have MS := hid hmS
 have MC2 := hid ((MC.out.stay hb2).toMat)
 have B2 := hid (B1.out.then hb2)
 have hsl := run_lo24 gC 0 (k + m) cC k (by omega) (by omega)
 rw [Nat.zero_add, show k + m - k = m by omega] at hsl
 have HLT : Hid (∀ i, i < k → GS i < w2.heap.size) := fun i hi => (hmS.ge i hi).2
 have hgS := (own_ge hmS.top).2
 clear hmS hb2 B1 MC X1
 go_wp2_with fail
 refine (combine_any _ _ m k (lgt n k) (cC - k) k _ _ _ _ (fun i j => codeX k (k + i) j) (dsh (lgt n k) n x) w2 (by have := MC2.out.sub k m (by omega); rw [Nat.zero_add] at this; exact this) MS.out.toMat h1 (by omega) h0 (by omega) hll).mono ?_
 rintro e w3 ⟨gN, GN, rfl, hmN, hb3⟩
 have MN := hid hmN
 have MS3 := hid (MS.out.stay hb3)
 have B3 := hid (B2.out.then hb3)
 have hs12 := B2.out.size
 have hs23 := hb3.size
 clear hmN hb3 B2 MC2
 go_wp2_with (at_builtin; refine wpList_append_lies _ rfl _ _ 25 rfl w1.heap.size 22 i0 (.slice none 0 0) 1 24 Tryz.underlying25 hi0 hz0 hz1 hz2 rfl (by omega) (.slice (some ⟨gS, 0, none⟩) k k) k (vals k fun i => rv (GS i) (lgt n k) (lgt n k)) rfl MS3.out.top ⟨gN, 0, none⟩ m m (vals m fun i => rv (GN i) (lgt n k) (lgt n k)) rfl (by rw [vals_len]; omega) (MN.out.top.cells (g := gN) rfl) (by intro u hu; unfold vals at hu; obtain ⟨i, _, rfl⟩ := List.mem_map.1 hu; rfl) (by omega) (by unfold maxLen; omega) (by omega) (by have := (own_ge MS3.out.top); omega) _ rfl ?_; intro gg cap w4 hown4 hgrow hat hlt4)
 have HM := hid (((ownMat_join MS3.out MN.out (by have := own_ge MS.out.top; omega) HLT.out hgrow hown4).congr (ash_two k m (lgt n k) n x)).base (B' := w.heap.size) hsz1)
 have HB := hid (Below.grown B3.out hgrow (by omega) (fun b q => by
  have := (own_ge MS3.out.top).1
  have q2 : gS = b := by simpa [Value.ownBlock] using q
  omega))
 clear hown4 hgrow hat hlt4 MS MS3 MN B3 HLT
 go_wp2
 go_ret2
 exact ⟨gg, cap, rfl, ⟨_, HM.out.congrQ (fun i _ => by unfold two; split <;> rfl)⟩, HB.out⟩
end Go.Proofs.YtdohmokhfajjpaaGreatDoor.U
