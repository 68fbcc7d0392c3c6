/- Texts laid into one, cut to what is needed: the remark ahead of each part says what is proved there. -/
import Derived.Test.YtopibkoklagceaaGreatQav
import Derived.Test.YtopibkoklagceaaGreatQau
import Derived.Test.YtopibkoklagceaaGreatQar
import Derived.BigRegion
/- Contract of combine of package stripe: what rows make of shards, place by place, lies in new memory; what was there is as it was. -/
namespace Go.Proofs.YtopibkoklagceaaGreat.U
open Go.RowKit

theorem under66 : Tryz.prog.underlying 95 = some (.array (Tryz.prog.arrayLen 95) (Tryz.prog.elem 95)) := by kernel_rfl
theorem len66 : Tryz.prog.arrayLen 95 = 16 := by kernel_rfl
theorem size66 (w : World) : (sizeOf (Tryz.prog.elem 95)).run Tryz.prog w = .ok 1 w := by
 obtain ⟨i0, hi0, hz0, hz1, hz2⟩ := info_parts Tryz.info5
 rw [show Tryz.prog.elem 95 = 5 by kernel_rfl]
 simp [sizeOf, typeInfo, hi0, hz1]
theorem run_arr16 (ab k : Nat) (h : k ≤ 16) (w : World) : (Instr.sliceAt 95 (.pointer (some ⟨ab, 0, none⟩)) none (some (.int .i64 (k : Int))) none).run Tryz.prog w = .ok (.slice (some ⟨ab, 0, none⟩) k 16) w := by
 rw [run_sliceAt_array_h (P := Tryz.prog) w 95 ⟨ab, 0, none⟩ under66 .i64 (k : Int) (by omega) (by rw [len66]; omega), size66]
 simp [Result.andThen, slicedAt, Addr.add, len66]

/-- The rows as far as they were made, and the column on the stack. -/
structure ComAt (w wr : World) (g n l ab : Nat) (G : Nat → Nat) (X : Nat → Nat → K) (col : Nat → K) : Prop where
 mat : OwnMat w.heap.size wr g n n l G (fun _ => l) X
 arr : wr.ownsRow w.heap.size 95 1 (.slice (some ⟨ab, 0, none⟩) 16 16) 16 (vals 16 fun j => kv (col j))
 bel : Below w.heap.size w wr
section
variable {w wr : World} {g n l ab : Nat} {G : Nat → Nat} {X : Nat → Nat → K} {col : Nat → K}
theorem ComAt.setArr (h : ComAt w wr g n l ab G X col) (j : Nat) (v : K) : ComAt w (wr.setCell ⟨ab, j, none⟩ (.int .u8 ((v.val : Nat) : Int))) g n l ab G X (upd col j v) where
 mat := h.mat.setOther h.arr (by decide) (by decide) rfl _
 arr := by
  have h1 := (h.arr.stored j (kv v)).1
  rw [vals_set, vals_congr (W := fun c => kv (upd col j v c)) (fun c _ => by unfold upd; by_cases e : c = j <;> simp [e])] at h1
  exact h1
 bel := h.bel.setCell (p := ⟨ab, j, none⟩) (own_ge h.arr).1 _
theorem ComAt.setMat (h : ComAt w wr g n l ab G X col) (i j : Nat) (v : K) (hi : i < n) : ComAt w (wr.setCell ⟨G i, j, none⟩ (.int .u8 ((v.val : Nat) : Int))) g n l ab G (up2 X i j v) col where
 mat := h.mat.set i j v hi
 arr := ownsRow_setCell_other h.arr (a := ⟨G i, j, none⟩) (fun q => own_apart h.arr (h.mat.row i hi) (by decide) (by simpa [Value.ownBlock] using q)) _
 bel := h.bel.setCell (p := ⟨G i, j, none⟩) (h.mat.ge i hi).1 _
theorem ComAt.drew (h : ComAt w wr g n l ab G X col) : ComAt w wr.drew g n l ab G X col := ⟨h.mat.drew, h.arr.drew, h.bel.drew⟩
theorem ComAt.congr {Y : Nat → Nat → K} (h : ComAt w wr g n l ab G X col) (e : ∀ i, i < n → ∀ j, j < l → X i j = Y i j) : ComAt w wr g n l ab G Y col := ⟨h.mat.congr e, h.arr, h.bel⟩
end
theorem upd_below (f : Nat → K) (col : Nat → K) (i : Nat) (h : ∀ j, j < i → col j = f j) : ∀ j, j < i + 1 → upd col i (f i) j = f j := fun j hj => by
 unfold upd
 by_cases e : j = i
 ·subst e; rw [if_pos rfl]
 ·rw [if_neg e]; exact h j (by omega)

set_option maxRecDepth 100000 in
set_option maxHeartbeats 8000000 in
theorem combine_any (p q : Option Addr) (n k l c d : Nat) (A A' : Nat → Option Addr) (C C' : Nat → Nat) (R S : Nat → Nat → K) (w : World)
  (h : MatAt w p n A (fun _ => k) C R) (h' : MatAt w q k A' (fun _ => l) C' S) (hn0 : 1 ≤ n) (hn : n ≤ 32) (h1 : 1 ≤ k) (hk : k ≤ 16) (hl : l ≤ 65536) :
  Calls Tryz.prog 48 #[.slice p n c, .slice q k d] w fun e w' => ∃ g G, e = .returned (.slice (some ⟨g, 0, none⟩) n n) ∧ OwnMat w.heap.size w' g n n l G (fun _ => l) (pr k R S) ∧ Below w.heap.size w w' := by
 obtain ⟨b, o, rfl, bs, os, hc, hr⟩ := h.at (by omega) (by omega)
 have HC := hid hc
 have HR := hid hr
 have HLE := hid h.le
 obtain ⟨b', o', rfl, hc'⟩ := h'.top.pos (by omega)
 have c0 := hc' 0 (by omega)
 rw [Nat.add_zero] at c0
 have HC' := hid hc'
 have HR' := hid h'.row
 have hmk := run_make_top n (by omega) w
 have H0 := hid (own_made w 22 (.slice none 0 0) n w.heap.size (by omega) (Nat.le_refl _))
 clear hc hr hc' h h'
 go_enter Tryz.func48, Tryz.ntmps48
 go_wp2
 clear hmk
 go_loopw [23] (fun i wr => ∃ r : Nat, ∃ G : Nat → Nat, r ≤ n ∧ i = .int .i64 r ∧ Half w.heap.size wr w.heap.size n n l r G (fun _ => l) (fun _ _ => 0) (fun _ => .slice none 0 0) ∧ Below w.heap.size w wr) (fun i _ => (n - intOf i).toNat)
 case atStart => exact ⟨0, fun _ => 0, by omega, rfl, ⟨by simpa using H0.out, fun i hi => absurd hi (by omega), fun i j hi => absurd hi (by omega)⟩, (Below.refl _ _).alloc (Nat.le_refl _) _⟩
 case round =>
  obtain ⟨r, G, hr, rfl, hh, hb⟩ := hrel
  clear H0
  by_cases hlt : r < n
  ·have hmk := run_make_u8 l (by omega) wr
   have hsz : w.heap.size < wr.heap.size := (own_ge hh.top).2
   have c1 : (wr.alloc (.cells (madeCells #[.int .u8 0] l) 5)).cell? ⟨w.heap.size, r, none⟩ = some (.slice none 0 0) := by
    rw [World.cell?_alloc_lt _ _ _ hsz, own_cell hh.top r hlt]; simp
   have c2 : (wr.alloc (.cells (madeCells #[.int .u8 0] l) 5)).frozen? ⟨w.heap.size, r, none⟩ = false := by
    rw [World.frozen?_alloc_old _ _ _ (Nat.ne_of_lt hsz)]; exact hh.top.frozenAt r
   have HP := hid (hh.push (w1 := wr.alloc (.cells (madeCells #[.int .u8 0] l) 5)) (fun b hb => Below.heap_alloc _ _ _ hb) wr.heap.size l (Nat.le_refl _) (own_made wr 5 (.int .u8 0) l w.heap.size (by omega) (by omega)))
   have HB := hid ((hb.alloc (by omega) (.cells (madeCells #[.int .u8 0] l) 5)).setCell (p := ⟨w.heap.size, r, none⟩) (Nat.le_refl _) (rv wr.heap.size l l))
   rw [World.setCell_alloc_past _ _ _ _ hsz] at HP HB
   clear hh hb
   go_wp2
   go_roundw
   case rel => exact ⟨r + 1, upd G r wr.heap.size, by omega, by go_num, by
    have := HP.out
    rw [upd_const] at this; exact this, HB.out⟩
   case measure => simp [intOf]; omega
  ·have e : r = n := by omega
   subst e
   have hsz := hb.size
   have HS : Hid (ComAt w (wr.alloc (.cells #[.int .u8 0, .int .u8 0, .int .u8 0, .int .u8 0, .int .u8 0, .int .u8 0, .int .u8 0, .int .u8 0, .int .u8 0, .int .u8 0, .int .u8 0, .int .u8 0, .int .u8 0, .int .u8 0, .int .u8 0, .int .u8 0] 95)) w.heap.size r l wr.heap.size G (turnTo (fun a b => pr k R S b a) 0 0) (fun _ => 0)) :=
    ⟨(hh.done.keep (fun b hb => Below.heap_alloc _ _ _ hb)).congr (fun i _ j _ => by simp [turnTo]), World.ownsRow_lit (base := w.heap.size) (e := 95) (size := 1) wr #[.int .u8 0, .int .u8 0, .int .u8 0, .int .u8 0, .int .u8 0, .int .u8 0, .int .u8 0, .int .u8 0, .int .u8 0, .int .u8 0, .int .u8 0, .int .u8 0, .int .u8 0, .int .u8 0, .int .u8 0, .int .u8 0] 16 hsz (by unfold maxLen; omega) rfl, hb.alloc hsz _⟩
   clear hh hb c0
   obtain ⟨ab, hab⟩ : ∃ ab, ab = wr.heap.size := ⟨_, rfl⟩
   rw [← hab] at HS
   have hs16 := run_arr16 ab k hk
   go_wp2_with fail
   rw [← hab]
   clear hab
   go_loopw [33] (fun i wr => ∃ (z : Nat) (col : Nat → K), z ≤ l ∧ i = .int .i64 z ∧ ComAt w wr w.heap.size r l ab G (turnTo (fun a b => pr k R S b a) z 0) col) (fun i _ => (l - intOf i).toNat)
   case atStart => exact ⟨0, _, by omega, rfl, HS.out⟩
   case round =>
    clear HS
    obtain ⟨z, col, hz, rfl, hs⟩ := hrel
    by_cases hlt2 : z < l
    ·have HS := hid hs
     clear hs
     go_wp2_with fail
     go_loopw [38] (fun i wr => ∃ (y : Nat) (col : Nat → K), y ≤ k ∧ i = .int .i64 y ∧ ComAt w wr w.heap.size r l ab G (turnTo (fun a b => pr k R S b a) z 0) col ∧ ∀ j, j < y → col j = S j z) (fun i _ => (k - intOf i).toNat)
     case atStart => exact ⟨0, _, by omega, rfl, HS.out, fun j hj => absurd hj (by omega)⟩
     case round =>
      clear HS
      obtain ⟨y, col, hy, rfl, hs, hcol⟩ := hrel
      by_cases hlt3 : y < k
      ·have c1 : wr.cell? ⟨b', o' + y, none⟩ = some (.slice (A' y) l (C' y)) := Stays.of_below hs.bel _ _ (HC'.out y hlt3)
       obtain ⟨b2, o2, ha2, hr2⟩ : ∃ b2 o2, A' y = some ⟨b2, o2, none⟩ ∧ RowAt w b2 o2 l (fun j => (S y j).val) := by
        rcases HR'.out y hlt3 with q | q
        ·omega
        ·exact q
       rw [ha2] at c1
       have c2 : wr.cell? ⟨b2, o2 + z, none⟩ = some (.int .u8 ((S y z).val : Nat)) := Stays.of_below hs.bel _ _ (hr2 z hlt2)
       have c3 : wr.cell? ⟨ab, y, none⟩ = some (.int .u8 ((col y).val : Nat)) := own_cell (V := fun j => kv (col j)) hs.arr y (by omega)
       have c4 := hs.arr.frozenAt y
       have HS := hid (hs.setArr y (S y z))
       have HCOL := hid (upd_below (fun j => S j z) col y hcol)
       clear hs hcol ha2 hr2 HC HR HLE HC' HR'
       go_wp2
       go_roundw
       case rel => exact ⟨y + 1, _, by omega, by go_num, HS.out, HCOL.out⟩
       case measure => simp [intOf]; omega
      ·have e : y = k := by omega
       subst e
       have HS := hid hs
       have HCOL := hid hcol
       clear hs hcol hlt3 HC' HR'
       go_wp2_with fail
       go_loopw [52] (fun i wr => ∃ v : Nat, v ≤ r ∧ i = .int .i64 v ∧ ComAt w wr w.heap.size r l ab G (turnTo (fun a b => pr y R S b a) z v) col) (fun i _ => (r - intOf i).toNat)
       case atStart => exact ⟨0, by omega, rfl, HS.out⟩
       case round =>
        clear HS
        obtain ⟨v, hv, rfl, hs⟩ := hrel
        by_cases hlt4 : v < r
        ·have c1 : wr.cell? ⟨b, o + v, none⟩ = some (.slice (some ⟨bs v, os v, none⟩) y (C v)) := Stays.of_below hs.bel _ _ (HC.out v hlt4)
         have r1 : RowAt wr.drew (bs v) (os v) y (fun i => (R v i).val) := (HR.out v hlt4).keep (Stays.of_below hs.bel.drew)
         have r2 : RowAt wr.drew ab 0 y (fun i => (S i z).val) := fun i hi => by
          rw [Nat.zero_add]
          have := own_cell (V := fun j => kv (col j)) hs.arr i (by omega)
          rw [HCOL.out i hi] at this; exact this
         have c3 := hs.mat.topCell v hlt4
         have c4 := hs.mat.cell v z hlt4 hlt2
         have c5 := hs.mat.free v z hlt4
         have C6 : Hid (∀ u, (wr.setCell ⟨G v, z, none⟩ u).drew.cell? ⟨w.heap.size, v, none⟩ = some (.slice (some ⟨G v, 0, none⟩) l l)) := fun u => by
          show (wr.setCell ⟨G v, z, none⟩ u).cell? ⟨w.heap.size, v, none⟩ = _
          rw [World.cell?_setCell_other _ _ _ _ (by intro q; exact hs.mat.apart v hlt4 (congrArg Addr.block q).symm)]; exact c3
         have hle := HLE.out v hlt4
         have HS := hid ((hs.setMat v z (pr y R S v z) hlt4).congr (fun r _ c _ => turnTo_step (fun a b => pr y R S b a) z v r c))
         clear hs HC HR HLE HCOL
         go_wp2_with fail
         go_region_held3 (fun w' => w'.cell? ⟨w.heap.size, v, none⟩ = some (.slice (some ⟨G v, 0, none⟩) l l)) (first | exact C6.out _ | go_keep) (first | (go_at_call 71; refine (dot_k _ _ y _ _ _ _ (R v) (fun i => S i z) _ (by omega) hle (by omega) (by exact r1) (by exact r2)).mono ?_; rintro e w3 ⟨rfl, rfl⟩))
         go_wp2
         go_roundw
         case rel => exact ⟨v + 1, by omega, by go_num, HS.out.drew⟩
         case measure => simp [intOf]; omega
        ·have HS := hid (hs.congr (fun i hi j _ => turnTo_next (fun a b => pr y R S b a) z v i j (by omega)))
         clear hs HC HR HLE HCOL
         go_wp2
         go_roundw
         case rel => exact ⟨z + 1, col, by omega, by go_num, HS.out⟩
         case measure => simp [intOf]; omega
    ·have HM := hid (hs.mat.congr (Y := pr k R S) (fun i hi j hj => by simp [turnTo, show j < z by omega]))
     have HB := hid hs.bel
     clear hs HC HR HLE HC' HR'
     go_wp2
     go_ret
     exact ⟨_, G, rfl, HM.out, HB.out⟩
end Go.Proofs.YtopibkoklagceaaGreat.U

/- Texts laid into one: the remark ahead of each part says what is proved there. -/
/- The walk of MatrixJoins: of any three matrices that are not large the products may be put together in any way. No conditions. -/
namespace Go.Proofs.YtopibkoklagceaaGreat.U
open Go.RowKit

end Go.Proofs.YtopibkoklagceaaGreat.U

/- For the walk of MatrixAny: append of any number of values at a step of a region that draws; Pick of the statements' kit; lists whose numbers are unlike. No conditions. -/
namespace Go.Proofs.YtopibkoklagceaaGreat.U
open Go.RowKit

/-- The rows that were taken and those that are left: unlike, and below t. -/
structure Parts (t i : Nat) (l r : List Nat) : Prop where
 len : l.length + i = t
 taken : r.length = i
 nodup : (r ++ l).Nodup
 lt : ∀ y ∈ r ++ l, y < t
theorem Parts.start (t : Nat) : Parts t 0 (List.range t) [] := ⟨by simp, rfl, by simpa using List.nodup_range, fun y hy => by simpa using hy⟩
theorem pl_get (l : List Nat) (i : Nat) (h : i < l.length) : pl l i = l[i] := by unfold pl; rw [List.getElem?_eq_getElem h]; rfl
theorem Parts.inj {t i : Nat} {l r : List Nat} (h : Parts t i l r) (a b : Nat) (ha : a < i) (hb : b < i) (e : pl r a = pl r b) : a = b := by
 have hr : r.Nodup := (List.nodup_append.1 h.nodup).1
 have ht := h.taken
 rw [pl_get r a (by omega), pl_get r b (by omega)] at e
 have hp := List.pairwise_iff_getElem.1 hr
 rcases Nat.lt_trichotomy a b with q | q | q
 ·exact absurd e (hp a b (by omega) (by omega) q)
 ·exact q
 ·exact absurd e.symm (hp b a (by omega) (by omega) q)
theorem Parts.below {t i : Nat} {l r : List Nat} (h : Parts t i l r) (a : Nat) (ha : a < i) : pl r a < t := by
 have ht := h.taken
 rw [pl_get r a (by omega)]
 exact h.lt _ (by simp)
theorem pivV_append (l r : List Nat) : pivV (l ++ r) = pivV l ++ pivV r := by simp [pivV]
end Go.Proofs.YtopibkoklagceaaGreat.U

/- The walk of MatrixAny: any k unlike rows of the code of k and m have an inverse, for any k and m and any choice of rows. No conditions. -/
namespace Go.Proofs.YtopibkoklagceaaGreat.U
open Go.RowKit

end Go.Proofs.YtopibkoklagceaaGreat.U

/- Texts laid into one: the remark ahead of each part says what is proved there. -/
/- Contract of sweep of the document's own answer: it leaves the rank, and with full rank the inverse beside it; nothing below the call's own memory is touched. -/
namespace Go.Proofs.YtopibkoklagceaaGreat.U
open Go.RowKit

theorem OwnMat.swap {B : Nat} {w : World} {g c n m : Nat} {G Q : Nat → Nat} {X : Nat → Nat → K} (h : OwnMat B w g c n m G Q X) (p r : Nat) (hp : p < n) (hr : r < n) :
  OwnMat B ((w.setCell ⟨g, p, none⟩ (rv (G r) m (Q r))).setCell ⟨g, r, none⟩ (rv (G p) m (Q p))) g c n m (fun i => G (swI p r i)) (fun i => Q (swI p r i)) (fun i => X (swI p r i)) where
 top := by
  have h1 := ((h.top.stored p (rv (G r) m (Q r))).1.stored r (rv (G p) m (Q p))).1
  rw [vals_set, vals_set] at h1
  rwa [vals_congr (W := fun i => rv (G (swI p r i)) m (Q (swI p r i))) (fun i _ => by
   unfold upd swI
   by_cases e1 : i = r
   ·by_cases e2 : i = p
    ·subst e1; subst e2; simp
    ·have e3 : ¬ r = p := fun q => e2 (e1.trans q)
     simp [e1, e3]
   ·by_cases e2 : i = p
    ·have e3 : ¬ p = r := fun q => e1 (e2.trans q)
     simp [e2, e3]
    ·simp [e1, e2])] at h1
 row := fun i hi => by
  have hh := h.row (swI p r i) (swI_lt hp hr hi)
  have ha : g ≠ G (swI p r i) := h.apart _ (swI_lt hp hr hi)
  exact ownsRow_setCell_other (ownsRow_setCell_other hh (by simp [Value.ownBlock]; exact fun q => ha q.symm) _) (by simp [Value.ownBlock]; exact fun q => ha q.symm) _
 inj := fun i j hi hj q => by
  have := h.inj _ _ (swI_lt hp hr hi) (swI_lt hp hr hj) q
  have h2 := congrArg (swI p r) this
  rwa [swI_swI, swI_swI] at h2
theorem OwnMat.byBlock {B : Nat} {w w' : World} {g c n m : Nat} {G Q : Nat → Nat} {X : Nat → Nat → K} (h : OwnMat B w g c n m G Q X) (hg : w'.heap[g]? = w.heap[g]?) (hG : ∀ i, i < n → w'.heap[G i]? = w.heap[G i]?) : OwnMat B w' g c n m G Q X where
 top := own_keep h.top hg
 row := fun i hi => own_keep (h.row i hi) (hG i hi)
 inj := h.inj

/-- Two matrices that share nothing. -/
structure Two (B : Nat) (w : World) (ga ca gw cw n m : Nat) (Ga Qa Gw Qw : Nat → Nat) (T W : Nat → Nat → K) : Prop where
 a : OwnMat B w ga ca n m Ga Qa T
 b : OwnMat B w gw cw n n Gw Qw W
 tops : ga ≠ gw
 rows : ∀ i k, i < n → k < n → Ga i ≠ Gw k
section
variable {B : Nat} {w w' : World} {ga ca gw cw n m : Nat} {Ga Qa Gw Qw : Nat → Nat} {T W T' W' : Nat → Nat → K}
theorem Two.onA (h : Two B w ga ca gw cw n m Ga Qa Gw Qw T W) (r : Nat) (hr : r < n) (ha : OwnMat B w' ga ca n m Ga Qa T') (ho : OnlyIn (fun k => k = Ga r) w w') : Two B w' ga ca gw cw n m Ga Qa Gw Qw T' W where
 a := ha
 b := h.b.byBlock (ho.block gw (fun q => own_apart h.b.top (h.a.row r hr) (by decide) q)) (fun i hi => ho.block _ (fun q => h.rows r i hr hi q.symm))
 tops := h.tops
 rows := h.rows
theorem Two.onB (h : Two B w ga ca gw cw n m Ga Qa Gw Qw T W) (r : Nat) (hr : r < n) (hb : OwnMat B w' gw cw n n Gw Qw W') (ho : OnlyIn (fun k => k = Gw r) w w') : Two B w' ga ca gw cw n m Ga Qa Gw Qw T W' where
 a := h.a.byBlock (ho.block ga (fun q => own_apart h.a.top (h.b.row r hr) (by decide) q)) (fun i hi => ho.block _ (fun q => h.rows i r hi hr q))
 b := hb
 tops := h.tops
 rows := h.rows
theorem Two.drew (h : Two B w ga ca gw cw n m Ga Qa Gw Qw T W) : Two B w.drew ga ca gw cw n m Ga Qa Gw Qw T W := ⟨h.a.drew, h.b.drew, h.tops, h.rows⟩
theorem Two.congr (h : Two B w ga ca gw cw n m Ga Qa Gw Qw T W) (e1 : ∀ i, i < n → ∀ j, j < m → T i j = T' i j) (e2 : ∀ i, i < n → ∀ j, j < n → W i j = W' i j) : Two B w ga ca gw cw n m Ga Qa Gw Qw T' W' := ⟨h.a.congr e1, h.b.congr e2, h.tops, h.rows⟩
theorem Two.swapA (h : Two B w ga ca gw cw n m Ga Qa Gw Qw T W) (p r : Nat) (hp : p < n) (hr : r < n) :
  Two B ((w.setCell ⟨ga, p, none⟩ (rv (Ga r) m (Qa r))).setCell ⟨ga, r, none⟩ (rv (Ga p) m (Qa p))) ga ca gw cw n m (fun i => Ga (swI p r i)) (fun i => Qa (swI p r i)) Gw Qw (fun i => T (swI p r i)) W where
 a := h.a.swap p r hp hr
 b := h.b.byBlock ((Below.heap_setCell _ _ _ _ (fun q => h.tops q.symm)).trans (Below.heap_setCell _ _ _ _ (fun q => h.tops q.symm))) (fun i hi => (Below.heap_setCell _ _ _ _ (fun q => own_apart h.a.top (h.b.row i hi) (by decide) q.symm)).trans (Below.heap_setCell _ _ _ _ (fun q => own_apart h.a.top (h.b.row i hi) (by decide) q.symm)))
 tops := h.tops
 rows := fun i k hi hk => h.rows _ k (swI_lt hp hr hi) hk
theorem Two.swapB (h : Two B w ga ca gw cw n m Ga Qa Gw Qw T W) (p r : Nat) (hp : p < n) (hr : r < n) :
  Two B ((w.setCell ⟨gw, p, none⟩ (rv (Gw r) n (Qw r))).setCell ⟨gw, r, none⟩ (rv (Gw p) n (Qw p))) ga ca gw cw n m Ga Qa (fun i => Gw (swI p r i)) (fun i => Qw (swI p r i)) T (fun i => W (swI p r i)) where
 a := h.a.byBlock ((Below.heap_setCell _ _ _ _ (fun q => h.tops q)).trans (Below.heap_setCell _ _ _ _ (fun q => h.tops q))) (fun i hi => (Below.heap_setCell _ _ _ _ (fun q => own_apart h.b.top (h.a.row i hi) (by decide) q.symm)).trans (Below.heap_setCell _ _ _ _ (fun q => own_apart h.b.top (h.a.row i hi) (by decide) q.symm)))
 b := h.b.swap p r hp hr
 tops := h.tops
 rows := fun i k hi hk => h.rows i _ hi (swI_lt hp hr hk)
end
theorem elR_start (X T : Nat → Nat → K) (r j i c : Nat) : X i c = elR X T r j 0 i c := by unfold elR; rw [if_neg (by omega)]
theorem elR_skip (X T : Nat → Nat → K) (r j k : Nat) (h : k = r ∨ T k j = 0) (i c : Nat) : elR X T r j k i c = elR X T r j (k + 1) i c := by
 unfold elR
 by_cases e : i = k
 ·subst e
  rw [if_neg (by omega)]
  rcases h with h | h
  ·rw [if_neg (fun q => q.2 h)]
  ·by_cases q : i = r
   ·rw [if_neg (fun z => z.2 q)]
   ·rw [if_pos ⟨by omega, q⟩, h, kmul_zero, kadd_zero]
 ·by_cases q : i < k ∧ i ≠ r
  ·rw [if_pos q, if_pos (by omega)]
  ·rw [if_neg q, if_neg (by omega)]
theorem elR_take (X T : Nat → Nat → K) (r j k : Nat) (h : k ≠ r) (i c : Nat) : tkR (elR X T r j k) k r (T k j) i c = elR X T r j (k + 1) i c := by
 have e1 : elR X T r j k k c = X k c := by unfold elR; rw [if_neg (by omega)]
 have e2 : elR X T r j k r c = X r c := by unfold elR; rw [if_neg (fun q => q.2 rfl)]
 unfold tkR
 by_cases e : i = k
 ·subst e
  rw [if_pos rfl, e1, e2]; unfold elR; rw [if_pos ⟨by omega, h⟩]
 ·rw [if_neg e]; unfold elR
  by_cases q : i < k ∧ i ≠ r
  ·rw [if_pos q, if_pos (by omega)]
  ·rw [if_neg q, if_neg (by omega)]
theorem elR_at (X T : Nat → Nat → K) (r j k c : Nat) : elR X T r j k k c = X k c := by unfold elR; rw [if_neg (by omega)]

theorem swI_same (p r : Nat) : swI p r r = p := by unfold swI; by_cases e : r = p <;> simp [e]
theorem set_some {w : World} {a b : Addr} {v x y : Value} (ha : w.cell? a = some x) (hb : w.cell? b = some y) : ∃ u, (w.setCell a v).cell? b = some u := by
 by_cases e : b = a
 ·subst e; exact ⟨v, World.cell?_setCell_same _ _ _ ha⟩
 ·exact ⟨y, (World.cell?_setCell_other _ _ _ _ (fun q => e q.symm)).trans hb⟩

set_option maxRecDepth 100000 in
set_option maxHeartbeats 8000000 in
theorem rsweep_any (B ga ca gw cw n m : Nat) (Ga Qa Gw Qw : Nat → Nat) (A : Nat → Nat → K) (w : World) (h : Two B w ga ca gw cw n m Ga Qa Gw Qw A on) (h0 : 1 ≤ n) (hn : n ≤ 32) (h1 : 1 ≤ m) (hm : m ≤ 32) :
  Calls Tryz.prog 115 #[.slice (some ⟨ga, 0, none⟩) n ca, .slice (some ⟨gw, 0, none⟩) n cw] w fun e w' => ∃ r j T W Gw' Qw', e = .returned (.int .i64 ((r : Nat) : Int)) ∧ RInv A n m j r T W ∧ (j = m ∨ r = n) ∧ OwnMat B w' gw cw n n Gw' Qw' W ∧ Below B w w' := by
 have H0 := hid h
 clear h
 go_enter Tryz.func115, Tryz.ntmps115
 go_wp2
 go_loopw [5, 6] (fun xr xj wr => ∃ r j : Nat, ∃ (T W : Nat → Nat → K) (Ga Qa Gw Qw : Nat → Nat), xr = .int .i64 r ∧ xj = .int .i64 j ∧ RInv A n m j r T W ∧ Two B wr ga ca gw cw n m Ga Qa Gw Qw T W ∧ Below B w wr) (fun _ xj _ => (m - intOf xj).toNat)
 case atStart => exact ⟨0, 0, A, on, Ga, Qa, Gw, Qw, rfl, rfl, RInv.start A n m, H0.out, Below.refl _ _⟩
 case round =>
  clear H0 Ga Qa Gw Qw
  obtain ⟨r, j, T, W, Ga, Qa, Gw, Qw, rfl, rfl, hr, ht, hb⟩ := hrel
  have hrn := hr.rn
  have hjm := hr.jm
  have c0 := ht.a.topCell 0 (by omega)
  have HR := hid hr
  have HT := hid ht
  have HB := hid hb
  clear hr ht hb
  by_cases hj : j < m
  ·by_cases hrr : r < n
   ·go_wp2_with fail
    go_loop [7] (fun x => ∃ p : Nat, r ≤ p ∧ p ≤ n ∧ x = .int .i64 p ∧ ∀ i, i < n → r ≤ i → i < p → T i j = 0) (fun x => (n - intOf x).toNat)
    case atStart => exact ⟨r, by omega, by omega, rfl, fun i _ h2 h3 => absurd h3 (by omega)⟩
    case round =>
     obtain ⟨p, hp1, hp2, rfl, hs⟩ := hrel
     by_cases hpn : p < n
     ·have c1 := HT.out.a.topCell p hpn
      have c2 := HT.out.a.cell p j hpn hj
      by_cases hz : T p j = 0
      ·have hz' : ((((T p j).val : Nat) : Int) == 0) = true := by rw [hz]; rfl
       have HS : Hid (∀ i, i < n → r ≤ i → i < p + 1 → T i j = 0) := fun i h1 h2 h3 => by
        by_cases e : i = p
        ·rw [e]; exact hz
        ·exact hs i h1 h2 (by omega)
       clear hs hz
       go_wp2
       go_round
       case rel => exact ⟨p + 1, by omega, by omega, by go_num, HS.out⟩
       case measure => simp [intOf]; omega
      ·have hz' : ((((T p j).val : Nat) : Int) == 0) = false := by have := K.val_ne hz; simp; omega
       have hpe : ((p : Int) == (n : Int)) = false := by simp; omega
       have HP := hid (HR.out.pivot hj hrr hp1 hpn hz)
       clear hs hz
       have c3 := HT.out.a.topCell r hrr
       have c4 := HT.out.a.topFree p
       have c5 := HT.out.a.topFree r
       have hgea := (own_ge HT.out.a.top).1
       have hgeb := (own_ge HT.out.b.top).1
       obtain ⟨u1, d1⟩ : ∃ u, (wr.setCell ⟨ga, p, none⟩ (.slice (some ⟨Ga r, 0, none⟩) m (Qa r))).cell? ⟨ga, r, none⟩ = some u := set_some c1 c3
       have hp0 : (p : Int) < (n : Int) := by omega
       have hr0 : (r : Int) < (n : Int) := by omega
       have HTa : Hid (Two B ((wr.setCell ⟨ga, p, none⟩ (.slice (some ⟨Ga r, 0, none⟩) m (Qa r))).setCell ⟨ga, r, none⟩ (.slice (some ⟨Ga p, 0, none⟩) m (Qa p))).drew ga ca gw cw n m (fun i => Ga (swI p r i)) (fun i => Qa (swI p r i)) Gw Qw (fun i => T (swI p r i)) W) := (HT.out.swapA p r hpn hrr).drew
       have HBa := hid (((HB.out.setCell (p := ⟨ga, p, none⟩) hgea (.slice (some ⟨Ga r, 0, none⟩) m (Qa r))).setCell (p := ⟨ga, r, none⟩) hgea (.slice (some ⟨Ga p, 0, none⟩) m (Qa p))).drew)
       go_wp2_with fail
       go_region
       clear c0 c1 c2 c3 c4 c5 d1 HT HB HR
       revert HTa HBa
       generalize ((wr.setCell ⟨ga, p, none⟩ (.slice (some ⟨Ga r, 0, none⟩) m (Qa r))).setCell ⟨ga, r, none⟩ (.slice (some ⟨Ga p, 0, none⟩) m (Qa p))).drew = wa
       intro HTa HBa
       have b1 := HTa.out.b.topCell p hpn
       have b3 := HTa.out.b.topCell r hrr
       have b4 := HTa.out.b.topFree p
       have b5 := HTa.out.b.topFree r
       obtain ⟨u2, d2⟩ : ∃ u, (wa.setCell ⟨gw, p, none⟩ (.slice (some ⟨Gw r, 0, none⟩) n (Qw r))).cell? ⟨gw, r, none⟩ = some u := set_some b1 b3
       have HTb : Hid (Two B ((wa.setCell ⟨gw, p, none⟩ (.slice (some ⟨Gw r, 0, none⟩) n (Qw r))).setCell ⟨gw, r, none⟩ (.slice (some ⟨Gw p, 0, none⟩) n (Qw p))).drew ga ca gw cw n m (fun i => Ga (swI p r i)) (fun i => Qa (swI p r i)) (fun i => Gw (swI p r i)) (fun i => Qw (swI p r i)) (fun i => T (swI p r i)) (fun i => W (swI p r i))) := (HTa.out.swapB p r hpn hrr).drew
       have HBb := hid (((HBa.out.setCell (p := ⟨gw, p, none⟩) hgeb (.slice (some ⟨Gw r, 0, none⟩) n (Qw r))).setCell (p := ⟨gw, r, none⟩) hgeb (.slice (some ⟨Gw p, 0, none⟩) n (Qw p))).drew)
       go_wp2_with fail
       go_region
       clear b1 b3 b4 b5 d2 HTa HBa
       revert HTb HBb
       generalize ((wa.setCell ⟨gw, p, none⟩ (.slice (some ⟨Gw r, 0, none⟩) n (Qw r))).setCell ⟨gw, r, none⟩ (.slice (some ⟨Gw p, 0, none⟩) n (Qw p))).drew = wb
       intro HTb HBb
       obtain ⟨Ga1, Qa1, Gw1, Qw1, hTb⟩ : ∃ Ga1 Qa1 Gw1 Qw1, Two B wb ga ca gw cw n m Ga1 Qa1 Gw1 Qw1 (fun i => T (swI p r i)) (fun i => W (swI p r i)) := ⟨_, _, _, _, HTb.out⟩
       have e1 : (fun i => T (swI p r i)) r j = T p j := by show T (swI p r r) j = T p j; rw [swI_same]
       revert HP e1 hTb
       generalize (fun i => T (swI p r i)) = T1
       generalize (fun i => W (swI p r i)) = W1
       intro HP hTb e1
       have HE1 := hid e1
       have HTc := hid hTb
       have a1 := hTb.a.topCell r hrr
       have a2 := hTb.a.cell r j hrr hj
       rw [e1] at a2
       clear HTb hTb e1
       go_wp2_with (go_at_call 78; refine (rinv_k _ _).mono ?_; rintro e w' ⟨rfl, hw⟩; have hw2 := hw.symm; subst hw2; clear hw)
       refine (scale_any B ga ca n m r Ga1 Qa1 T1 (K.iv (T p j)) wb HTc.out.a hrr hm).mono ?_
       rintro e wc ⟨rfl, hma, hoa⟩
       have HTd := hid (HTc.out.onA r hrr hma hoa)
       have HBd := hid (hoa.below HBb.out (fun k hk => by rw [hk]; exact (HTc.out.a.ge r hrr).1))
       have a3 := HTd.out.b.topCell r hrr
       clear hma hoa HTc HBb a1 a2
       go_wp2_with fail
       refine (scale_any B gw cw n n r Gw1 Qw1 W1 (K.iv (T p j)) wc HTd.out.b hrr hn).mono ?_
       rintro e wd ⟨rfl, hmb, hob⟩
       have HTe := hid (HTd.out.onB r hrr hmb hob)
       have HBe := hid (hob.below HBd.out (fun k hk => by rw [hk]; exact (HTd.out.b.ge r hrr).1))
       clear hmb hob HTd HBd a3
       revert HP HTe
       generalize scR T1 r (K.iv (T p j)) = T2
       generalize scR W1 r (K.iv (T p j)) = W2
       intro HP HTe
       go_wp2_with fail
       go_loopw [10] (fun x wy => ∃ i : Nat, i ≤ n ∧ x = .int .i64 i ∧ Two B wy ga ca gw cw n m Ga1 Qa1 Gw1 Qw1 (elR T2 T2 r j i) (elR W2 T2 r j i) ∧ Below B w wy) (fun x _ => (n - intOf x).toNat)
       case atStart => exact ⟨0, by omega, rfl, HTe.out.congr (fun i _ c _ => elR_start T2 T2 r j i c) (fun i _ c _ => elR_start W2 T2 r j i c), HBe.out⟩
       case round =>
        clear HTe HBe HE1
        obtain ⟨i, hi, rfl, ht, hb⟩ := hrel
        by_cases hlt : i < n
        ·by_cases hir : i = r
         ·have hir' : ((i : Int) != (r : Int)) = false := by rw [hir]; simp
          have HT := hid (ht.congr (fun k _ c _ => elR_skip T2 T2 r j i (Or.inl hir) k c) (fun k _ c _ => elR_skip W2 T2 r j i (Or.inl hir) k c))
          have HB := hid hb
          clear ht hb hir
          go_wp2
          go_roundw
          case rel => exact ⟨i + 1, by omega, by go_num, HT.out, HB.out⟩
          case measure => simp [intOf]; omega
         ·have hir' : ((i : Int) != (r : Int)) = true := by simp; omega
          have a1 := ht.a.topCell i hlt
          have a2 := ht.a.cell i j hlt hj
          rw [elR_at] at a2
          by_cases hz : T2 i j = 0
          ·have hz' : ((((T2 i j).val : Nat) : Int) != 0) = false := by rw [hz]; rfl
           have HT := hid (ht.congr (fun k _ c _ => elR_skip T2 T2 r j i (Or.inr hz) k c) (fun k _ c _ => elR_skip W2 T2 r j i (Or.inr hz) k c))
           have HB := hid hb
           clear ht hb hir hz
           go_wp2
           go_roundw
           case rel => exact ⟨i + 1, by omega, by go_num, HT.out, HB.out⟩
           case measure => simp [intOf]; omega
          ·have hz' : ((((T2 i j).val : Nat) : Int) != 0) = true := by have := K.val_ne hz; simp; omega
           have a3 := ht.a.topCell r hrr
           have HT := hid ht
           have HB := hid hb
           have HIR := hid hir
           have hlt0 : (i : Int) < (n : Int) := by omega
           have hrr0 : (r : Int) < (n : Int) := by omega
           clear ht hb hir hz
           go_wp2_with fail
           go_region_held3 (fun w' => w'.cell? ⟨ga, i, none⟩ = some (.slice (some ⟨Ga1 i, 0, none⟩) m (Qa1 i)) ∧ w'.cell? ⟨ga, r, none⟩ = some (.slice (some ⟨Ga1 r, 0, none⟩) m (Qa1 r))) (first | go_keep | exact ⟨hmt.topCell i hlt, hmt.topCell r hrr⟩) (first | (go_at_call 127; refine (take_any B ga ca n m i r Ga1 Qa1 (elR T2 T2 r j i) (T2 i j) _ (by exact HT.out.drew.a) hlt hrr HIR.out hm).mono ?_; rintro e wf ⟨rfl, hmt, hot⟩))
           have HTf := hid (HT.out.drew.onA i hlt hmt hot)
           have HBf := hid (hot.below HB.out.drew (fun k hk => by rw [hk]; exact (HT.out.a.ge i hlt).1))
           have b1 := HTf.out.b.topCell i hlt
           have b3 := HTf.out.b.topCell r hrr
           clear hmt hot HT HB a1 a2 a3
           go_wp2_with fail
           go_region_held3 (fun w' => w'.cell? ⟨gw, i, none⟩ = some (.slice (some ⟨Gw1 i, 0, none⟩) n (Qw1 i)) ∧ w'.cell? ⟨gw, r, none⟩ = some (.slice (some ⟨Gw1 r, 0, none⟩) n (Qw1 r))) (first | go_keep | exact ⟨hmu.topCell i hlt, hmu.topCell r hrr⟩) (first | (go_at_call 127; refine (take_any B gw cw n n i r Gw1 Qw1 (elR W2 T2 r j i) (T2 i j) _ (by exact HTf.out.drew.b) hlt hrr HIR.out hn).mono ?_; rintro e wg ⟨rfl, hmu, hou⟩))
           have HTg := hid ((HTf.out.drew.onB i hlt hmu hou).congr (fun k _ c _ => elR_take T2 T2 r j i HIR.out k c) (fun k _ c _ => elR_take W2 T2 r j i HIR.out k c))
           have HBg := hid (hou.below HBf.out.drew (fun k hk => by rw [hk]; exact (HTf.out.b.ge i hlt).1))
           clear hmu hou HTf HBf b1 b3
           go_wp2
           go_roundw
           case rel => exact ⟨i + 1, by omega, by go_num, HTg.out, HBg.out⟩
           case measure => simp [intOf]; omega
        ·have e : i = n := by omega
         subst e
         have HT := hid ht
         have HB := hid hb
         clear ht hb
         go_wp2
         go_roundw
         case rel => exact ⟨r + 1, j + 1, _, _, Ga1, Qa1, Gw1, Qw1, by go_num, by go_num, HP.out, HT.out, HB.out⟩
         case measure => simp [intOf]; omega
     ·have HS : Hid (RInv A n m (j + 1) r T W) := HR.out.skip hj (fun i h1 h2 => hs i h1 h2 (by omega))
      have hpe : ((p : Int) == (n : Int)) = true := by simp; omega
      clear hs
      go_wp2
      go_roundw
      case rel => exact ⟨r, j + 1, T, W, Ga, Qa, Gw, Qw, rfl, by go_num, HS.out, HT.out, HB.out⟩
      case measure => simp [intOf]; omega
   ·have e : r = n := by omega
    have E := hid e
    clear e
    go_wp2
    go_ret
    exact ⟨r, j, T, W, Gw, Qw, rfl, HR.out, .inr E.out, HT.out.b, HB.out⟩
  ·have e : j = m := by omega
   have E := hid e
   clear e
   go_wp2
   go_ret
   exact ⟨r, j, T, W, Gw, Qw, rfl, HR.out, .inl E.out, HT.out.b, HB.out⟩
end Go.Proofs.YtopibkoklagceaaGreat.U

/- Contract of Product of the document's own answer: the product lies in new memory; what was there is as it was. -/
namespace Go.Proofs.YtopibkoklagceaaGreat.U
open Go.RowKit

/-- What holds while the row in block g is made, beside rows that stand. -/
structure RowMade (B : Nat) (w wr : World) (g m : Nat) (x : Nat → K) : Prop where
 row : wr.ownsRow B 5 1 (.slice (some ⟨g, 0, none⟩) m m) m (vals m fun c => kv (x c))
 bel : Below B w wr
theorem RowMade.congr {B : Nat} {w wr : World} {g m : Nat} {x y : Nat → K} (h : RowMade B w wr g m x) (e : ∀ c, c < m → x c = y c) : RowMade B w wr g m y :=
 ⟨by have := h.row; rwa [vals_congr (W := fun c => kv (y c)) (fun c hc => by show kv (x c) = kv (y c); rw [e c hc])] at this, h.bel⟩
theorem RowMade.set {B : Nat} {w wr : World} {g m : Nat} {x y : Nat → K} (h : RowMade B w wr g m x) (k : Nat) (v : K) (e : ∀ c, upd (fun c => kv (x c)) k (kv v) c = kv (y c)) : RowMade B w (wr.setCell ⟨g, k, none⟩ (.int .u8 ((v.val : Nat) : Int))) g m y := by
 refine ⟨?_, h.bel.setCell (p := ⟨g, k, none⟩) (own_ge h.row).1 _⟩
 have h1 := (h.row.stored k (kv v)).1
 rw [vals_set, vals_congr (W := fun c => kv (y c)) (fun c _ => e c)] at h1
 exact h1
theorem RowMade.drew {B : Nat} {w wr : World} {g m : Nat} {x : Nat → K} (h : RowMade B w wr g m x) : RowMade B w wr.drew g m x := ⟨h.row.drew, h.bel.drew⟩

end Go.Proofs.YtopibkoklagceaaGreat.U

/- Contracts of Invert and Rank of the document's own answer: as the program's, for there is one rank and one inverse; what was there is as it was. -/
namespace Go.Proofs.YtopibkoklagceaaGreat.U
open Go.RowKit

theorem keep_drewN (w : World) (q : Nat) : Below w.heap.size w (w.drewN q) := below_drewN (Below.refl _ _)
theorem OwnMat.two {w w1 w2 : World} {ga ca gw cw n m : Nat} {Ga Qa Gw Qw : Nat → Nat} {T W : Nat → Nat → K} (ha : OwnMat w.heap.size w1 ga ca n m Ga Qa T) (hb : OwnMat w1.heap.size w2 gw cw n n Gw Qw W) (hbel : Below w1.heap.size w1 w2) (hsz : w.heap.size ≤ w1.heap.size) :
  Two w.heap.size w2 ga ca gw cw n m Ga Qa Gw Qw T W where
 a := ha.stay hbel
 b := hb.base hsz
 tops := by have := (own_ge ha.top).2; have := (own_ge hb.top).1; omega
 rows := fun i k hi hk => by have := (ha.ge i hi).2; have := (hb.ge k hk).1; omega
theorem OwnMat.two' {w w1 w2 : World} {ga ca gw cw n m : Nat} {Ga Qa Gw Qw : Nat → Nat} {T W : Nat → Nat → K} (hb : OwnMat w.heap.size w1 gw cw n n Gw Qw W) (ha : OwnMat w1.heap.size w2 ga ca n m Ga Qa T) (hbel : Below w1.heap.size w1 w2) (hsz : w.heap.size ≤ w1.heap.size) :
  Two w.heap.size w2 ga ca gw cw n m Ga Qa Gw Qw T W where
 a := ha.base hsz
 b := hb.stay hbel
 tops := by have := (own_ge hb.top).2; have := (own_ge ha.top).1; omega
 rows := fun i k hi hk => by have := (hb.ge k hk).2; have := (ha.ge i hi).1; omega

set_option maxRecDepth 100000 in
set_option maxHeartbeats 2000000 in
theorem rinvert_square (p : Option Addr) (n c : Nat) (A : Nat → Option Addr) (C : Nat → Nat) (X : Nat → Nat → K) (w : World) (h0 : 1 ≤ n) (hn : n ≤ 32) (h : MatAt w p n A (fun _ => n) C X) :
  Calls Tryz.prog 94 #[.slice p n c] w fun e w' => Below w.heap.size w w' ∧ (((sw X n n).l.length < n ∧ e = .returned (.tuple #[.slice none 0 0, .int .i64 120])) ∨
   ((sw X n n).l.length = n ∧ ∃ g cp G Q Y, e = .returned (.tuple #[.slice (some ⟨g, 0, none⟩) n cp, .int .i64 0]) ∧ OwnMat w.heap.size w' g cp n n G Q Y ∧ ∀ i, i < n → ∀ j, j < n → pr n Y X i j = on i j)) := by
 have T := hid h.top
 have H := hid h
 have HE : Hid (errC n (fun _ => n) = 0) := errC_ok h0 hn h0 hn (fun _ _ => rfl)
 obtain ⟨b, o, rfl, hc⟩ := h.top.pos (by omega)
 have c0 := hc 0 (by omega)
 rw [Nat.add_zero] at c0
 clear hc h
 go_enter Tryz.func94, Tryz.ntmps94
 go_wp2_with fail
 refine (rcheck_any _ _ _ _ _ _ _ (by omega) T.out).mono ?_
 rintro e w1 ⟨rfl, q, hw⟩
 have B1 : Hid (Below w.heap.size w w1) := by rw [hw]; exact keep_drewN w q
 have H1 := hid (H.out.keep (Stays.of_below B1.out))
 have c0' := Stays.of_below B1.out _ _ c0
 clear hw c0
 rw [HE.out]
 go_wp2_with fail
 refine (rone_any n w1 h0 hn).mono ?_
 rintro e w2 ⟨gw, cw, Gw, rfl, hmw, hb2⟩
 have HMW := hid hmw
 have HB2 := hid hb2
 have H2 := hid (H1.out.keep (Stays.of_below hb2))
 clear hmw hb2 c0'
 go_wp2_with fail
 refine (copied_any _ n n c A C X w2 H2.out h0 hn h0 hn).mono ?_
 rintro e w3 ⟨ga, ca, Ga, Qa, rfl, hma, hb3⟩
 have hsz := HB2.out.size
 have HTW := hid (HMW.out.two' hma hb3 hsz)
 have HB3 := hid (B1.out.then (HB2.out.then hb3))
 have hszw := B1.out.size
 clear hma hb3 HMW
 go_wp2_with fail
 refine (rsweep_any w1.heap.size ga ca gw cw n n Ga Qa Gw _ X w3 HTW.out h0 hn h0 hn).mono ?_
 rintro e w4 ⟨r, j, T', W', Gw', Qw', rfl, hri, hend, hmat, hb4⟩
 have hrk : r = (sw X n n).l.length := rank_one (hri.rank hend) (sw_rank X n n)
 have hrn := hri.rn
 have HRK := hid hrk
 have HRI := hid hri
 have HM4 := hid (hmat.base hszw)
 have HB4 := hid (HB3.out.trans (hb4.mono hszw))
 clear hri hend hmat hb4 hrk
 by_cases hlt : r < n
 ·go_wp2
  go_ret2
  exact ⟨HB4.out, .inl ⟨by rw [← HRK.out]; first | assumption | (have := HRI.out.rn; omega), rfl⟩⟩
 ·have hrn2 : r = n := by omega
  subst hrn2
  go_wp2
  go_ret2
  exact ⟨HB4.out, .inr ⟨HRK.out.symm, gw, cw, Gw', Qw', W', rfl, HM4.out, fun i hi j hj => HRI.out.left i j hi hj⟩⟩
end Go.Proofs.YtopibkoklagceaaGreat.U

/- Contract of ApartBytes of the statements' kit, over lists each of which lies whole in a block of its own: it returns true, and touches no block that was there but those. -/
namespace Go.Proofs.YtopibkoklagceaaGreat.U
open Go.RowKit

end Go.Proofs.YtopibkoklagceaaGreat.U

/- Contracts of Mul, Invert and Rank once more, the program's and the document's own, in one form for all inputs: a list of rows, of none where there is an error, and the error's number. -/
namespace Go.Proofs.YtopibkoklagceaaGreat.U
open Go.RowKit

theorem OwnV.nil {B : Nat} {w : World} {G M C N Q : Nat → Nat} {Y : Nat → Nat → K} : OwnV B w (.slice none 0 0) 0 G M C N Q Y := OwnV.start _ _ _ _ _ _ _ _
theorem OwnV.base {B B' : Nat} {w : World} {v : Value} {n : Nat} {G M C N Q : Nat → Nat} {X : Nat → Nat → K} (h : OwnV B w v n G M C N Q X) (hb : B' ≤ B) : OwnV B' w v n G M C N Q X where
 top := by
  refine ⟨h.top.1, ?_⟩
  rcases h.top.2 with q | ⟨g', cap, cur, hv, h1, h2, h3⟩
  ·exact .inl q
  ·exact .inr ⟨g', cap, cur, hv, Nat.le_trans hb h1, h2, h3⟩
 row := fun i hi => own_base (h.row i hi) hb
 inj := h.inj
/-- How many rows an answer has. -/
def cnt (e : Int) (n : Nat) : Nat := if e = 0 then n else 0
end Go.Proofs.YtopibkoklagceaaGreat.U

/- The walk of MatrixTells: of any two matrices that are not large the product, the inverse, the rank and the errors are the document's own; what is handed in stays, and the answers lie in memory of their own. No conditions. -/
namespace Go.Proofs.YtopibkoklagceaaGreat.U
open Go.RowKit

/-- append at its place, guarded or not, by what it is known to do. -/
theorem wpList_append_run {P : Program} {w w' : World} {ops : Array Oper} {rest : List Oper} {o : Oper} {a : Act} {Q : Exit → Act → World → Prop} (s x : Operand) (t : TypeId)
  (ho : o.op = .call { callee := .builtin .append, args := #[s, x], argTypes := #[t, t] }) (hw : Region.wanted o (yielded ops a.tmps) = true)
  (v xv v' : Value) (hs : a.eval s = v) (hx : a.eval x = xv) (hr : (Builtin.append_ #[t, t] o.type #[v, xv]).run P w = .ok v' w') (h : wpList P ops Q rest (a.put o.dst v') w') : wpList P ops Q (o :: rest) a w := by
 refine BigFrame.wpList_want hw fun K hK => ?_
 unfold Oper.wp execOp
 simp only [ho, resolve, invoke, builtin, Sem.run_bind, Sem.run_pure, Result.andThen_ok, List.map_toArray, List.map_cons, List.map_nil, hs, hx, hr]
 exact hK _ _ h
theorem vals_append (n m : Nat) (V W : Nat → Value) : vals n V ++ vals m W = vals (n + m) fun i => if i < n then V i else W (i - n) := by
 apply List.ext_getElem?
 intro i
 by_cases h1 : i < n
 ·rw [List.getElem?_append_left (by rw [vals_len]; exact h1), vals_get _ _ _ h1, vals_get _ _ _ (by omega), if_pos h1]
 ·rw [List.getElem?_append_right (by rw [vals_len]; omega), vals_len]
  by_cases h2 : i < n + m
  ·rw [vals_get _ _ _ (by omega), vals_get _ _ _ h2, if_neg h1]
  ·rw [List.getElem?_eq_none (by rw [vals_len]; omega), List.getElem?_eq_none (by rw [vals_len]; omega)]
/-- One of two, by place. -/
def two {α : Type} (n : Nat) (f g : Nat → α) (i : Nat) : α := if i < n then f i else g (i - n)
theorem OwnV.spare {B : Nat} {S : Nat → Prop} {w w' : World} {v : Value} {n : Nat} {G M C N Q : Nat → Nat} {X : Nat → Nat → K} (h : OwnV B w v n G M C N Q X) (hs : SpareIn S w w') (h1 : ∀ i, i < n → ¬ S (G i)) (h2 : ∀ b, v.ownBlock = some b → ¬ S b) : OwnV B w' v n G M C N Q X where
 top := own_keepV h.top (fun b q => hs.block b (h.top.lt b q).2 (h2 b q))
 row := fun i hi => own_keep (h.row i hi) (hs.block _ (own_ge (h.row i hi)).2 (h1 i hi))
 inj := h.inj
end Go.Proofs.YtopibkoklagceaaGreat.U
