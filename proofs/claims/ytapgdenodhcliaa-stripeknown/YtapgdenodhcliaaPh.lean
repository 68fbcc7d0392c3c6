/- Contracts of CopyBytes, OverBytes and ApartBytes of the statements' kit, over lists each of which lies in a block of its own: the last returns true, and touches no block that was there but those. -/
import Derived.Test.YtapgdenodhcliaaPf
import Derived.Test.YtapgdenodhcliaaPa
namespace Go.Proofs.Ytapgdenodhcliaa
open Go.RowKit

set_option maxRecDepth 100000 in
set_option maxHeartbeats 1000000 in
theorem copyB_any (b o n c : Nat) (x : Nat → K) (w : World) (h0 : 1 ≤ n) (hn : n ≤ 300) (h : RowAt w b o n fun j => (x j).val) :
    Calls Try.prog 41 #[.slice (some ⟨b, o, none⟩) n c] w fun e w' => ∃ g cp, e = .returned (.slice (some ⟨g, 0, none⟩) n cp) ∧ w.heap.size ≤ g ∧ w'.ownsRow w.heap.size 5 1 (.slice (some ⟨g, 0, none⟩) n cp) n (vals n fun j => kv (x j)) ∧ Below w.heap.size w w' := by
  obtain ⟨i0, hi0, hz0, hz1, hz2⟩ := info_parts Try.info5
  have hown := World.ownsRow_lit (base := w.heap.size) (e := 5) (size := 1) w #[] 0 (Nat.le_refl _) (by unfold maxLen; omega) rfl
  have hlt : b < w.heap.size := World.block_lt_of_cell? w _ (h 0 (by omega))
  have hcells : ∀ i, i < n → (w.alloc (.cells #[] 5)).cell? ⟨b, o + i, none⟩ = some (kv (x i)) := fun i hi => by
    rw [World.cell?_alloc_lt _ _ _ hlt]; exact h i hi
  have HCE := hid hcells
  have HOWN := hid hown
  clear hown hcells h
  go_enter Try.func41, Try.ntmps41
  go_wp2_with (at_builtin; refine wpList_append_lies _ rfl _ _ 22 rfl w.heap.size 5 i0 (.int .u8 0) 1 1 Try.underlying22 hi0 hz0 hz1 hz2 rfl (by omega) (.slice (some ⟨w.heap.size, 0, none⟩) 0 0) 0 [] rfl HOWN.out ⟨b, o, none⟩ n c (vals n fun j => kv (x j)) rfl (by rw [vals_len]; omega) (vals_cells HCE.out) (by intro u hu; unfold vals at hu; obtain ⟨i, _, rfl⟩ := List.mem_map.1 hu; rfl) (by omega) (by unfold maxLen; omega) (by omega) (by simp) _ rfl ?_; intro gg cap w1 hown1 hgrow hat hlt2)
  obtain ⟨HO, HB, _⟩ := copied_row hown1 hgrow
  clear hown1 hgrow
  go_wp2
  go_ret
  exact ⟨gg, cap, rfl, (own_ge HO.out).1, HO.out, HB.out⟩

theorem size41 (w : World) : (sizeOf (Try.prog.elem 22)).run Try.prog w = .ok 1 w := by
  obtain ⟨i0, hi0, hz0, hz1, hz2⟩ := info_parts Try.info5
  rw [show Try.prog.elem 22 = 5 by kernel_rfl]
  simp [sizeOf, typeInfo, hi0, hz1]
theorem under41 : Try.prog.underlying 22 = some (.slice (Try.prog.elem 22)) := by kernel_rfl
theorem run_cap41 (g n c : Nat) (w : World) : (Instr.slice 22 (.slice (some ⟨g, 0, none⟩) n c) none (some (.int .i64 (c : Int))) none).run Try.prog w = .ok (.slice (some ⟨g, 0, none⟩) c c) w := by
  rw [run_slice_h (P := Try.prog) w 22 (some ⟨g, 0, none⟩) n c under41 .i64 (c : Int) (by omega) (by omega), size41]
  simp [Result.andThen, sliced, Addr.add]

theorem xor90 (a : K) : bits BinOp.xor IntKind.u8 ((a.val : Nat) : Int) 90 = (((a + kb 90).val : Nat) : Int) := by
  rw [K.val_add, kb_val 90 (by decide)]; exact u8_bits a.val a.lt

set_option maxRecDepth 100000 in
set_option maxHeartbeats 1000000 in
theorem overB_any (B g n c : Nat) (x : Nat → K) (w : World) (hc : c ≤ 300) (h : w.ownsRow B 5 1 (.slice (some ⟨g, 0, none⟩) c c) c (vals c fun j => kv (x j))) :
    Calls Try.prog 42 #[.slice (some ⟨g, 0, none⟩) n c] w fun e w' => e = .returned (.tuple #[]) ∧ (∃ y : Nat → K, w'.ownsRow B 5 1 (.slice (some ⟨g, 0, none⟩) c c) c (vals c fun j => kv (y j))) ∧ OnlyIn (fun b => b = g) w w' := by
  have hs := run_cap41 g n c
  have H := hid h
  clear h
  go_enter Try.func42, Try.ntmps42
  go_wp2
  clear hs
  go_loopw [3] (fun i wr => ∃ k : Nat, ∃ y : Nat → K, k ≤ c ∧ i = .int .i64 k ∧ wr.ownsRow B 5 1 (.slice (some ⟨g, 0, none⟩) c c) c (vals c fun j => kv (y j)) ∧ OnlyIn (fun b => b = g) w wr) (fun i _ => (c - intOf i).toNat)
  case atStart => exact ⟨0, x, by omega, rfl, H.out, OnlyIn.refl _ _⟩
  case round =>
    clear H
    obtain ⟨k, y, hk, rfl, hy, ho⟩ := hrel
    by_cases hlt : k < c
    · have c1 : wr.cell? ⟨g, k, none⟩ = some (.int .u8 ((y k).val : Nat)) := own_cell (V := fun j => kv (y j)) hy k hlt
      have c2 := hy.frozenAt k
      have hx := xor90 (y k)
      have HY : Hid ((wr.setCell ⟨g, k, none⟩ (.int .u8 (((y k + kb 90).val : Nat) : Int))).ownsRow B 5 1 (.slice (some ⟨g, 0, none⟩) c c) c (vals c fun j => kv (if j = k then y k + kb 90 else y j))) := by
        have h1 := (hy.stored k (kv (y k + kb 90))).1
        rw [vals_set, vals_congr (W := fun j => kv (if j = k then y k + kb 90 else y j)) (fun j _ => by unfold upd; by_cases e : j = k <;> simp [e])] at h1
        exact h1
      have HO := hid (ho.setCell g k rfl (.int .u8 (((y k + kb 90).val : Nat) : Int)))
      clear hy ho
      go_wp2
      go_roundw
      case rel => exact ⟨k + 1, _, by omega, by go_num, HY.out, HO.out⟩
      case measure => simp [intOf]; omega
    · have HY := hid hy
      have HO := hid ho
      clear hy ho
      go_wp2
      go_end0
      exact ⟨rfl, ⟨y, HY.out⟩, HO.out⟩

/-- From w to w' nothing that was there has turned but what the blocks of S hold. -/
structure SpareIn (S : Nat → Prop) (w w' : World) : Prop where
  os : w'.os = w.os
  tape : w'.tape = w.tape
  output : w'.output = w.output
  size : w.heap.size ≤ w'.heap.size
  block : ∀ b, b < w.heap.size → ¬ S b → w'.heap[b]? = w.heap[b]?
theorem SpareIn.refl (S : Nat → Prop) (w : World) : SpareIn S w w := ⟨rfl, rfl, rfl, Nat.le_refl _, fun _ _ _ => rfl⟩
theorem SpareIn.after {S : Nat → Prop} {w w1 w2 : World} (h : SpareIn S w w1) (h2 : Below w1.heap.size w1 w2) : SpareIn S w w2 :=
  ⟨h2.os.trans h.os, h2.tape.trans h.tape, h2.output.trans h.output, Nat.le_trans h.size h2.size, fun b hb hs => (h2.block b (Nat.lt_of_lt_of_le hb h.size)).trans (h.block b hb hs)⟩
theorem SpareIn.only {S : Nat → Prop} {g : Nat} {w w1 w2 : World} (h : SpareIn S w w1) (h2 : OnlyIn (fun b => b = g) w1 w2) (hg : S g) : SpareIn S w w2 :=
  ⟨h2.os.trans h.os, h2.tape.trans h.tape, h2.output.trans h.output, by rw [h2.size]; exact h.size, fun b hb hs => (h2.block b (fun e => hs (by rw [e]; exact hg))).trans (h.block b hb hs)⟩
theorem SpareIn.below {S : Nat → Prop} {B : Nat} {w0 w w' : World} (h : SpareIn S w w') (hb : Below B w0 w) (hB : B ≤ w.heap.size) (hS : ∀ b, S b → B ≤ b) : Below B w0 w' :=
  ⟨h.os.trans hb.os, h.tape.trans hb.tape, h.output.trans hb.output, Nat.le_trans hb.size h.size, fun b hlt => (h.block b (by omega) (fun q => by have := hS b q; omega)).trans (hb.block b hlt)⟩

/-- Some of the copies are laid, the others are still nil. -/
structure WasAt (w wr : World) (g n k : Nat) (C Gc Qc : Nat → Nat) (X : Nat → Nat → K) : Prop where
  top : wr.ownsRow w.heap.size 22 1 (.slice (some ⟨g, 0, none⟩) n n) n (vals n fun i => if i < k then .slice (some ⟨Gc i, 0, none⟩) (C i) (Qc i) else .slice none 0 0)
  row : ∀ i, i < k → wr.ownsRow w.heap.size 5 1 (.slice (some ⟨Gc i, 0, none⟩) (C i) (Qc i)) (C i) (vals (C i) fun j => kv (X i j))
  bel : Below w.heap.size w wr
theorem WasAt.push {w wr w1 : World} {g n k : Nat} {C Gc Qc : Nat → Nat} {X : Nat → Nat → K} (h : WasAt w wr g n k C Gc Qc X) (hb : Below wr.heap.size wr w1) (g1 c1 : Nat) (hg : wr.heap.size ≤ g1)
    (hr : w1.ownsRow wr.heap.size 5 1 (.slice (some ⟨g1, 0, none⟩) (C k) c1) (C k) (vals (C k) fun j => kv (X k j))) :
    WasAt w (w1.setCell ⟨g, k, none⟩ (.slice (some ⟨g1, 0, none⟩) (C k) c1)) g n (k + 1) C (upd Gc k g1) (upd Qc k c1) X where
  top := by
    have ht := own_keep h.top (hb.block g (own_ge h.top).2)
    have h1 := (ht.stored k (.slice (some ⟨g1, 0, none⟩) (C k) c1)).1
    rw [vals_set] at h1
    rwa [vals_congr (W := fun i => if i < k + 1 then .slice (some ⟨upd Gc k g1 i, 0, none⟩) (C i) (upd Qc k c1 i) else .slice none 0 0) (fun i _ => by
      unfold upd
      by_cases e : i = k
      · subst e; simp
      · by_cases q : i < k
        · simp [e, q, show i < k + 1 by omega]
        · simp [e, q, show ¬ i < k + 1 by omega])] at h1
  row := fun i hi => by
    have hgt := (own_ge h.top).2
    have hsz := h.bel.size
    by_cases e : i = k
    · subst e
      simp only [upd, if_true]
      exact ownsRow_setCell_other (own_base hr hsz) (by simp [Value.ownBlock]; omega) _
    · have h2 := own_keep (h.row i (by omega)) (hb.block _ (own_ge (h.row i (by omega))).2)
      have ha := own_apart h.top (h.row i (by omega)) (by decide)
      simp only [upd, if_neg e]
      exact ownsRow_setCell_other h2 (by simp [Value.ownBlock]; exact fun q => ha q.symm) _
  bel := (h.bel.trans (hb.mono h.bel.size)).setCell (p := ⟨g, k, none⟩) (own_ge h.top).1 _

theorem OwnV.oneRow {B : Nat} {w w' : World} {v : Value} {n i : Nat} {G L C : Nat → Nat} {X : Nat → Nat → K} {y : Nat → K} (h : OwnV B w v n G L C C C X) (hi : i < n) (hy : w'.ownsRow B 5 1 (.slice (some ⟨G i, 0, none⟩) (C i) (C i)) (C i) (vals (C i) fun j => kv (y j))) (ho : OnlyIn (fun b => b = G i) w w') :
    OwnV B w' v n G L C C C (fun r => if r = i then y else X r) where
  top := own_keepV h.top (fun b q => ho.block b (fun e => own_ne h.top (h.row i hi) (by decide) q (by rw [e]; rfl)))
  row := fun r hr => by
    by_cases e : r = i
    · subst e; simp only [if_true]; exact hy
    · simp only [if_neg e]
      exact own_keep (h.row r hr) (ho.block _ (fun q => e (h.inj r i hr hi q)))
  inj := h.inj
theorem OwnV.stay {B : Nat} {w w' : World} {v : Value} {n : Nat} {G M C N Q : Nat → Nat} {X : Nat → Nat → K} (h : OwnV B w v n G M C N Q X) (hb : Below w.heap.size w w') : OwnV B w' v n G M C N Q X where
  top := own_keepV h.top (fun b q => hb.block b (h.top.lt b q).2)
  row := fun i hi => own_keep (h.row i hi) (hb.block _ (own_ge (h.row i hi)).2)
  inj := h.inj
end Go.Proofs.Ytapgdenodhcliaa
