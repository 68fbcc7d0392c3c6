/- Contract of combine of package stripe: what rows make of shards, place by place, lies in new memory; what was there is as it was. -/
import Derived.Test.YtapgdenodhcliaaSc
namespace Go.Proofs.Ytapgdenodhcliaa
open Go.RowKit

theorem under66 : Try.prog.underlying 66 = some (.array (Try.prog.arrayLen 66) (Try.prog.elem 66)) := by kernel_rfl
theorem len66 : Try.prog.arrayLen 66 = 16 := by kernel_rfl
theorem size66 (w : World) : (sizeOf (Try.prog.elem 66)).run Try.prog w = .ok 1 w := by
  obtain ⟨i0, hi0, hz0, hz1, hz2⟩ := info_parts Try.info5
  rw [show Try.prog.elem 66 = 5 by kernel_rfl]
  simp [sizeOf, typeInfo, hi0, hz1]
theorem run_arr16 (ab k : Nat) (h : k ≤ 16) (w : World) : (Instr.sliceAt 66 (.pointer (some ⟨ab, 0, none⟩)) none (some (.int .i64 (k : Int))) none).run Try.prog w = .ok (.slice (some ⟨ab, 0, none⟩) k 16) w := by
  rw [run_sliceAt_array_h (P := Try.prog) w 66 ⟨ab, 0, none⟩ under66 .i64 (k : Int) (by omega) (by rw [len66]; omega), size66]
  simp [Result.andThen, slicedAt, Addr.add, len66]

/-- The rows as far as they were made, and the column on the stack. -/
structure ComAt (w wr : World) (g n l ab : Nat) (G : Nat → Nat) (X : Nat → Nat → K) (col : Nat → K) : Prop where
  mat : OwnMat w.heap.size wr g n n l G (fun _ => l) X
  arr : wr.ownsRow w.heap.size 66 1 (.slice (some ⟨ab, 0, none⟩) 16 16) 16 (vals 16 fun j => kv (col j))
  bel : Below w.heap.size w wr
section
variable {w wr : World} {g n l ab : Nat} {G : Nat → Nat} {X : Nat → Nat → K} {col : Nat → K}
theorem ComAt.setArr (h : ComAt w wr g n l ab G X col) (j : Nat) (v : K) : ComAt w (wr.setCell ⟨ab, j, none⟩ (.int .u8 ((v.val : Nat) : Int))) g n l ab G X (upd col j v) where
  mat := h.mat.setOther h.arr (by decide) (by decide) rfl _
  arr := by
    have h1 := (h.arr.stored j (kv v)).1
    rw [vals_set, vals_congr (W := fun c => kv (upd col j v c)) (fun c _ => by unfold upd; by_cases e : c = j <;> simp [e])] at h1
    exact h1
  bel := h.bel.setCell (p := ⟨ab, j, none⟩) (own_ge h.arr).1 _
theorem ComAt.setMat (h : ComAt w wr g n l ab G X col) (i j : Nat) (v : K) (hi : i < n) : ComAt w (wr.setCell ⟨G i, j, none⟩ (.int .u8 ((v.val : Nat) : Int))) g n l ab G (up2 X i j v) col where
  mat := h.mat.set i j v hi
  arr := ownsRow_setCell_other h.arr (a := ⟨G i, j, none⟩) (fun q => own_apart h.arr (h.mat.row i hi) (by decide) (by simpa [Value.ownBlock] using q)) _
  bel := h.bel.setCell (p := ⟨G i, j, none⟩) (h.mat.ge i hi).1 _
theorem ComAt.drew (h : ComAt w wr g n l ab G X col) : ComAt w wr.drew g n l ab G X col := ⟨h.mat.drew, h.arr.drew, h.bel.drew⟩
theorem ComAt.congr {Y : Nat → Nat → K} (h : ComAt w wr g n l ab G X col) (e : ∀ i, i < n → ∀ j, j < l → X i j = Y i j) : ComAt w wr g n l ab G Y col := ⟨h.mat.congr e, h.arr, h.bel⟩
end
theorem upd_below (f : Nat → K) (col : Nat → K) (i : Nat) (h : ∀ j, j < i → col j = f j) : ∀ j, j < i + 1 → upd col i (f i) j = f j := fun j hj => by
  unfold upd
  by_cases e : j = i
  · subst e; rw [if_pos rfl]
  · rw [if_neg e]; exact h j (by omega)

set_option maxRecDepth 100000 in
set_option maxHeartbeats 8000000 in
theorem combine_any (p q : Option Addr) (n k l c d : Nat) (A A' : Nat → Option Addr) (C C' : Nat → Nat) (R S : Nat → Nat → K) (w : World)
    (h : MatAt w p n A (fun _ => k) C R) (h' : MatAt w q k A' (fun _ => l) C' S) (hn0 : 1 ≤ n) (hn : n ≤ 32) (h1 : 1 ≤ k) (hk : k ≤ 16) (hl : l ≤ 65536) :
    Calls Try.prog 36 #[.slice p n c, .slice q k d] w fun e w' => ∃ g G, e = .returned (.slice (some ⟨g, 0, none⟩) n n) ∧ OwnMat w.heap.size w' g n n l G (fun _ => l) (pr k R S) ∧ Below w.heap.size w w' := by
  obtain ⟨b, o, rfl, bs, os, hc, hr⟩ := h.at (by omega) (by omega)
  have HC := hid hc
  have HR := hid hr
  have HLE := hid h.le
  obtain ⟨b', o', rfl, hc'⟩ := h'.top.pos (by omega)
  have c0 := hc' 0 (by omega)
  rw [Nat.add_zero] at c0
  have HC' := hid hc'
  have HR' := hid h'.row
  have hmk := run_make_top n (by omega) w
  have H0 := hid (own_made w 22 (.slice none 0 0) n w.heap.size (by omega) (Nat.le_refl _))
  clear hc hr hc' h h'
  go_enter Try.func36, Try.ntmps36
  go_wp2
  clear hmk
  go_loopw [23] (fun i wr => ∃ r : Nat, ∃ G : Nat → Nat, r ≤ n ∧ i = .int .i64 r ∧ Half w.heap.size wr w.heap.size n n l r G (fun _ => l) (fun _ _ => 0) (fun _ => .slice none 0 0) ∧ Below w.heap.size w wr) (fun i _ => (n - intOf i).toNat)
  case atStart => exact ⟨0, fun _ => 0, by omega, rfl, ⟨by simpa using H0.out, fun i hi => absurd hi (by omega), fun i j hi => absurd hi (by omega)⟩, (Below.refl _ _).alloc (Nat.le_refl _) _⟩
  case round =>
    obtain ⟨r, G, hr, rfl, hh, hb⟩ := hrel
    clear H0
    by_cases hlt : r < n
    · have hmk := run_make_u8 l (by omega) wr
      have hsz : w.heap.size < wr.heap.size := (own_ge hh.top).2
      have c1 : (wr.alloc (.cells (madeCells #[.int .u8 0] l) 5)).cell? ⟨w.heap.size, r, none⟩ = some (.slice none 0 0) := by
        rw [World.cell?_alloc_lt _ _ _ hsz, own_cell hh.top r hlt]; simp
      have c2 : (wr.alloc (.cells (madeCells #[.int .u8 0] l) 5)).frozen? ⟨w.heap.size, r, none⟩ = false := by
        rw [World.frozen?_alloc_old _ _ _ (Nat.ne_of_lt hsz)]; exact hh.top.frozenAt r
      have HP := hid (hh.push (w1 := wr.alloc (.cells (madeCells #[.int .u8 0] l) 5)) (fun b hb => Below.heap_alloc _ _ _ hb) wr.heap.size l (Nat.le_refl _) (own_made wr 5 (.int .u8 0) l w.heap.size (by omega) (by omega)))
      have HB := hid ((hb.alloc (by omega) (.cells (madeCells #[.int .u8 0] l) 5)).setCell (p := ⟨w.heap.size, r, none⟩) (Nat.le_refl _) (rv wr.heap.size l l))
      rw [World.setCell_alloc_past _ _ _ _ hsz] at HP HB
      clear hh hb
      go_wp2
      go_roundw
      case rel => exact ⟨r + 1, upd G r wr.heap.size, by omega, by go_num, by
        have := HP.out
        rw [upd_const] at this; exact this, HB.out⟩
      case measure => simp [intOf]; omega
    · have e : r = n := by omega
      subst e
      have hsz := hb.size
      have HS : Hid (ComAt w (wr.alloc (.cells #[.int .u8 0, .int .u8 0, .int .u8 0, .int .u8 0, .int .u8 0, .int .u8 0, .int .u8 0, .int .u8 0, .int .u8 0, .int .u8 0, .int .u8 0, .int .u8 0, .int .u8 0, .int .u8 0, .int .u8 0, .int .u8 0] 66)) w.heap.size r l wr.heap.size G (turnTo (fun a b => pr k R S b a) 0 0) (fun _ => 0)) :=
        ⟨(hh.done.keep (fun b hb => Below.heap_alloc _ _ _ hb)).congr (fun i _ j _ => by simp [turnTo]), World.ownsRow_lit (base := w.heap.size) (e := 66) (size := 1) wr #[.int .u8 0, .int .u8 0, .int .u8 0, .int .u8 0, .int .u8 0, .int .u8 0, .int .u8 0, .int .u8 0, .int .u8 0, .int .u8 0, .int .u8 0, .int .u8 0, .int .u8 0, .int .u8 0, .int .u8 0, .int .u8 0] 16 hsz (by unfold maxLen; omega) rfl, hb.alloc hsz _⟩
      clear hh hb c0
      obtain ⟨ab, hab⟩ : ∃ ab, ab = wr.heap.size := ⟨_, rfl⟩
      rw [← hab] at HS
      have hs16 := run_arr16 ab k hk
      go_wp2_with fail
      rw [← hab]
      clear hab
      go_loopw [33] (fun i wr => ∃ (z : Nat) (col : Nat → K), z ≤ l ∧ i = .int .i64 z ∧ ComAt w wr w.heap.size r l ab G (turnTo (fun a b => pr k R S b a) z 0) col) (fun i _ => (l - intOf i).toNat)
      case atStart => exact ⟨0, _, by omega, rfl, HS.out⟩
      case round =>
        clear HS
        obtain ⟨z, col, hz, rfl, hs⟩ := hrel
        by_cases hlt2 : z < l
        · have HS := hid hs
          clear hs
          go_wp2_with fail
          go_loopw [38] (fun i wr => ∃ (y : Nat) (col : Nat → K), y ≤ k ∧ i = .int .i64 y ∧ ComAt w wr w.heap.size r l ab G (turnTo (fun a b => pr k R S b a) z 0) col ∧ ∀ j, j < y → col j = S j z) (fun i _ => (k - intOf i).toNat)
          case atStart => exact ⟨0, _, by omega, rfl, HS.out, fun j hj => absurd hj (by omega)⟩
          case round =>
            clear HS
            obtain ⟨y, col, hy, rfl, hs, hcol⟩ := hrel
            by_cases hlt3 : y < k
            · have c1 : wr.cell? ⟨b', o' + y, none⟩ = some (.slice (A' y) l (C' y)) := Stays.of_below hs.bel _ _ (HC'.out y hlt3)
              obtain ⟨b2, o2, ha2, hr2⟩ : ∃ b2 o2, A' y = some ⟨b2, o2, none⟩ ∧ RowAt w b2 o2 l (fun j => (S y j).val) := by
                rcases HR'.out y hlt3 with q | q
                · omega
                · exact q
              rw [ha2] at c1
              have c2 : wr.cell? ⟨b2, o2 + z, none⟩ = some (.int .u8 ((S y z).val : Nat)) := Stays.of_below hs.bel _ _ (hr2 z hlt2)
              have c3 : wr.cell? ⟨ab, y, none⟩ = some (.int .u8 ((col y).val : Nat)) := own_cell (V := fun j => kv (col j)) hs.arr y (by omega)
              have c4 := hs.arr.frozenAt y
              have HS := hid (hs.setArr y (S y z))
              have HCOL := hid (upd_below (fun j => S j z) col y hcol)
              clear hs hcol ha2 hr2 HC HR HLE HC' HR'
              go_wp2
              go_roundw
              case rel => exact ⟨y + 1, _, by omega, by go_num, HS.out, HCOL.out⟩
              case measure => simp [intOf]; omega
            · have e : y = k := by omega
              subst e
              have HS := hid hs
              have HCOL := hid hcol
              clear hs hcol hlt3 HC' HR'
              go_wp2_with fail
              go_loopw [52] (fun i wr => ∃ v : Nat, v ≤ r ∧ i = .int .i64 v ∧ ComAt w wr w.heap.size r l ab G (turnTo (fun a b => pr y R S b a) z v) col) (fun i _ => (r - intOf i).toNat)
              case atStart => exact ⟨0, by omega, rfl, HS.out⟩
              case round =>
                clear HS
                obtain ⟨v, hv, rfl, hs⟩ := hrel
                by_cases hlt4 : v < r
                · have c1 : wr.cell? ⟨b, o + v, none⟩ = some (.slice (some ⟨bs v, os v, none⟩) y (C v)) := Stays.of_below hs.bel _ _ (HC.out v hlt4)
                  have r1 : RowAt wr.drew (bs v) (os v) y (fun i => (R v i).val) := (HR.out v hlt4).keep (Stays.of_below hs.bel.drew)
                  have r2 : RowAt wr.drew ab 0 y (fun i => (S i z).val) := fun i hi => by
                    rw [Nat.zero_add]
                    have := own_cell (V := fun j => kv (col j)) hs.arr i (by omega)
                    rw [HCOL.out i hi] at this; exact this
                  have c3 := hs.mat.topCell v hlt4
                  have c4 := hs.mat.cell v z hlt4 hlt2
                  have c5 := hs.mat.free v z hlt4
                  have C6 : Hid (∀ u, (wr.setCell ⟨G v, z, none⟩ u).drew.cell? ⟨w.heap.size, v, none⟩ = some (.slice (some ⟨G v, 0, none⟩) l l)) := fun u => by
                    show (wr.setCell ⟨G v, z, none⟩ u).cell? ⟨w.heap.size, v, none⟩ = _
                    rw [World.cell?_setCell_other _ _ _ _ (by intro q; exact hs.mat.apart v hlt4 (congrArg Addr.block q).symm)]; exact c3
                  have hle := HLE.out v hlt4
                  have HS := hid ((hs.setMat v z (pr y R S v z) hlt4).congr (fun r _ c _ => turnTo_step (fun a b => pr y R S b a) z v r c))
                  clear hs HC HR HLE HCOL
                  go_wp2_with fail
                  go_region_held3 (fun w' => w'.cell? ⟨w.heap.size, v, none⟩ = some (.slice (some ⟨G v, 0, none⟩) l l)) (first | exact C6.out _ | go_keep) (first | (go_at_call 55; refine (dot_k _ _ y _ _ _ _ (R v) (fun i => S i z) _ (by omega) hle (by omega) (by exact r1) (by exact r2)).mono ?_; rintro e w3 ⟨rfl, rfl⟩))
                  go_wp2
                  go_roundw
                  case rel => exact ⟨v + 1, by omega, by go_num, HS.out.drew⟩
                  case measure => simp [intOf]; omega
                · have HS := hid (hs.congr (fun i hi j _ => turnTo_next (fun a b => pr y R S b a) z v i j (by omega)))
                  clear hs HC HR HLE HCOL
                  go_wp2
                  go_roundw
                  case rel => exact ⟨z + 1, col, by omega, by go_num, HS.out⟩
                  case measure => simp [intOf]; omega
        · have HM := hid (hs.mat.congr (Y := pr k R S) (fun i hi j hj => by simp [turnTo, show j < z by omega]))
          have HB := hid hs.bel
          clear hs HC HR HLE HC' HR'
          go_wp2
          go_ret
          exact ⟨_, G, rfl, HM.out, HB.out⟩
end Go.Proofs.Ytapgdenodhcliaa
