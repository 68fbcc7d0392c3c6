/- Contracts of CopyBytes, OverBytes and ApartBytes of the statements' kit, over lists each of which has no room at all or lies whole in a block of its own: the last returns true, and touches no block that was there but those. -/
import Derived.Test.YtapgdenodhcliaaSo
import Derived.Test.YtapgdenodhcliaaYf
namespace Go.Proofs.Ytapgdenodhcliaa
open Go.RowKit

/-- A copy of a row onto an empty list. -/
theorem copy0b (w : World) (B : Nat) (hB : B ≤ w.heap.size) (ad : Addr) (l c : Nat) (x : Nat → K) (hl : l ≤ 80000) (hx : ∀ j u, (vals l fun j => kv (x j))[j]? = some u → (w.alloc (.cells #[] 5)).cell? (ad.add j) = some u) :
    ∃ g cp w1, (Builtin.append_ #[22, 22] 22 #[.slice (some ⟨w.heap.size, 0, none⟩) 0 0, .slice (some ad) l c]).run Try.prog (w.alloc (.cells #[] 5)) = .ok (.slice (some ⟨g, 0, none⟩) l cp) w1 ∧ w.heap.size ≤ g ∧ w1.ownsRow B 5 1 (.slice (some ⟨g, 0, none⟩) l cp) l (vals l fun j => kv (x j)) ∧ Below w.heap.size w w1 := by
  obtain ⟨i0, hi0, hz0, hz1, hz2⟩ := info_parts Try.info5
  have hown := World.ownsRow_lit (base := B) (e := 5) (size := 1) w #[] 0 hB (by unfold maxLen; omega) rfl
  have hz : (w.alloc (.cells #[] 5)).heap.size = w.heap.size + 1 := by simp
  obtain ⟨v', w', hr, h2, h3, _, h5⟩ := run_append_own_at (P := Try.prog) (w.alloc (.cells #[] 5)) B 22 22 5 i0 (.int .u8 0) 1 1 Try.underlying22 hi0 hz0 hz1 hz2 rfl (by decide) (.slice (some ⟨w.heap.size, 0, none⟩) 0 0) 0 [] hown ad l c (vals l fun j => kv (x j)) (by rw [vals_len, Nat.mul_one]) hx (by intro u hu; unfold vals at hu; obtain ⟨i, _, rfl⟩ := List.mem_map.1 hu; rfl) (by unfold maxLen; omega) (by omega) (by omega)
  have hb0 : ∃ b, v'.ownBlock = some b ∧ w.heap.size ≤ b := by
    rcases h5 with e | e
    · exact ⟨w.heap.size, by rw [e]; rfl, Nat.le_refl _⟩
    · exact ⟨_, e, by omega⟩
  obtain ⟨b, hb1, hb2⟩ := hb0
  simp only [Nat.zero_add, List.nil_append] at h2
  obtain ⟨cp, rfl⟩ := own_some h2 hb1
  exact ⟨b, cp, w', hr, hb2, h2, Below.grown ((Below.refl _ _).alloc (Nat.le_refl _) _) h3 (by omega) (fun j hj => by
    have q2 : w.heap.size = j := by simpa [Value.ownBlock] using hj
    omega)⟩

theorem run_cap22 (p : Option Addr) (n c : Nat) (hp : ∀ a, p = some a → 0 < c → ∃ b o, a = ⟨b, o, none⟩) (w : World) : (Instr.slice 22 (.slice p n c) none (some (.int .i64 (c : Int))) none).run Try.prog w = .ok (.slice p c c) w := by
  rw [run_slice_h (P := Try.prog) w 22 p n c under41 .i64 (c : Int) (by omega) (by omega), size41]
  cases p with
  | none => simp [Result.andThen, sliced]
  | some a =>
    by_cases h0 : c = 0
    · simp [Result.andThen, sliced, h0]
    · obtain ⟨b, o, rfl⟩ := hp a rfl (by omega)
      simp [Result.andThen, sliced, h0, Addr.add]
set_option maxRecDepth 100000 in
set_option maxHeartbeats 1000000 in
theorem copyG_any (p : Option Addr) (n : Nat) (x : Nat → K) (w : World) (hn : n ≤ 70003) (h : StrAt w p n fun j => (x j).val) :
    Calls Try.prog 41 #[.slice p n n] w fun e w' => ∃ g cp, e = .returned (.slice (some ⟨g, 0, none⟩) n cp) ∧ w.heap.size ≤ g ∧ w'.ownsRow w.heap.size 5 1 (.slice (some ⟨g, 0, none⟩) n cp) n (vals n fun j => kv (x j)) ∧ Below w.heap.size w w' := by
  obtain ⟨i0, hi0, hz0, hz1, hz2⟩ := info_parts Try.info5
  obtain ⟨g, cp, w1, hr, hg, ho, hb⟩ : ∃ g cp w1, (Builtin.append_ #[22, 22] 22 #[.slice (some ⟨w.heap.size, 0, none⟩) 0 0, .slice p n n]).run Try.prog (w.alloc (.cells #[] 5)) = .ok (.slice (some ⟨g, 0, none⟩) n cp) w1 ∧ w.heap.size ≤ g ∧ w1.ownsRow w.heap.size 5 1 (.slice (some ⟨g, 0, none⟩) n cp) n (vals n fun j => kv (x j)) ∧ Below w.heap.size w w1 := by
    cases p with
    | none =>
      have h0 : n = 0 := by
        rcases h with h | ⟨b, o, q, _⟩
        · exact h
        · cases q
      subst h0
      have hown := World.ownsRow_lit (base := w.heap.size) (e := 5) (size := 1) w #[] 0 (Nat.le_refl _) (by unfold maxLen; omega) rfl
      exact ⟨w.heap.size, 0, _, run_append_owned_none (P := Try.prog) _ w.heap.size 22 22 5 i0 1 Try.underlying22 hi0 _ 0 _ hown, Nat.le_refl _, hown, (Below.refl _ _).alloc (Nat.le_refl _) _⟩
    | some a =>
      refine copy0b w w.heap.size (Nat.le_refl _) a n n x (by omega) ?_
      by_cases h0 : n = 0
      · subst h0; intro j u hj; cases hj
      · rcases h with h | ⟨b, o, q, hr⟩
        · omega
        · cases q
          exact vals_cells (fun j hj => by rw [World.cell?_alloc_lt _ _ _ (World.block_lt_of_cell? w _ (hr j hj))]; exact hr j hj)
  have HR := hid hr
  have HO := hid ho
  have HB := hid hb
  clear hr ho hb h
  go_enter Try.func41, Try.ntmps41
  go_wp2_with (at_builtin; refine wpList_append_run _ _ 22 rfl (by first | rfl | simp [Region.wanted, yielded]) _ _ (.slice (some ⟨g, 0, none⟩) n cp) rfl rfl HR.out ?_)
  go_ret
  exact ⟨g, cp, rfl, hg, HO.out, HB.out⟩

set_option maxRecDepth 100000 in
set_option maxHeartbeats 1000000 in
theorem overG_any (B g n c : Nat) (p : Option Addr) (x : Nat → K) (w : World) (hc : c ≤ 70003) (h : c ≠ 0 → p = some ⟨g, 0, none⟩ ∧ w.ownsRow B 5 1 (.slice (some ⟨g, 0, none⟩) c c) c (vals c fun j => kv (x j))) :
    Calls Try.prog 42 #[.slice p n c] w fun e w' => e = .returned (.tuple #[]) ∧ (c ≠ 0 → ∃ y : Nat → K, w'.ownsRow B 5 1 (.slice (some ⟨g, 0, none⟩) c c) c (vals c fun j => kv (y j))) ∧ OnlyIn (fun b => c ≠ 0 ∧ b = g) w w' := by
  by_cases h0 : c = 0
  · subst h0
    have hs := run_cap22 p n 0 (fun a _ q => absurd q (by omega))
    have HS : Hid (∀ w, (Instr.slice 22 (.slice p n 0) none (some (.int .i64 0)) none).run Try.prog w = .ok (.slice p 0 0) w) := hs
    have hs' := HS.out
    clear h hs
    go_enter Try.func42, Try.ntmps42
    go_wp2
    go_loopw [3] (fun i wr => i = .int .i64 0 ∧ wr = w) (fun _ _ => 0)
    case atStart => exact ⟨rfl, rfl⟩
    case round =>
      obtain ⟨rfl, hw⟩ := hrel
      have hw2 := hw.symm
      subst hw2
      clear hw
      go_wp2
      go_end0
      exact ⟨rfl, fun q => absurd rfl q, OnlyIn.refl _ _⟩
  · obtain ⟨rfl, hrow⟩ := h h0
    have hs := run_cap41 g n c
    have H := hid hrow
    have H0 := hid h0
    clear h hrow
    go_enter Try.func42, Try.ntmps42
    go_wp2
    clear hs
    go_loopw [3] (fun i wr => ∃ k : Nat, ∃ y : Nat → K, k ≤ c ∧ i = .int .i64 k ∧ wr.ownsRow B 5 1 (.slice (some ⟨g, 0, none⟩) c c) c (vals c fun j => kv (y j)) ∧ OnlyIn (fun b => c ≠ 0 ∧ b = g) w wr) (fun i _ => (c - intOf i).toNat)
    case atStart => exact ⟨0, x, by omega, rfl, H.out, OnlyIn.refl _ _⟩
    case round =>
      clear H
      obtain ⟨k, y, hk, rfl, hy, ho⟩ := hrel
      by_cases hlt : k < c
      · have c1 : wr.cell? ⟨g, k, none⟩ = some (.int .u8 ((y k).val : Nat)) := own_cell (V := fun j => kv (y j)) hy k hlt
        have c2 := hy.frozenAt k
        have hx := xor90 (y k)
        have HY : Hid ((wr.setCell ⟨g, k, none⟩ (.int .u8 (((y k + kb 90).val : Nat) : Int))).ownsRow B 5 1 (.slice (some ⟨g, 0, none⟩) c c) c (vals c fun j => kv (if j = k then y k + kb 90 else y j))) := by
          have h1 := (hy.stored k (kv (y k + kb 90))).1
          rw [vals_set, vals_congr (W := fun j => kv (if j = k then y k + kb 90 else y j)) (fun j _ => by unfold upd; by_cases e : j = k <;> simp [e])] at h1
          exact h1
        have HO := hid (ho.setCell g k ⟨H0.out, rfl⟩ (.int .u8 (((y k + kb 90).val : Nat) : Int)))
        clear hy ho h0
        go_wp2
        go_roundw
        case rel => exact ⟨k + 1, _, by omega, by go_num, HY.out, HO.out⟩
        case measure => simp [intOf]; omega
      · have HY := hid hy
        have HO := hid ho
        clear hy ho h0
        go_wp2
        go_end0
        exact ⟨rfl, fun _ => ⟨y, HY.out⟩, HO.out⟩

/-- n lists: each has no room at all, or lies whole in a block of its own. -/
structure Ap (B : Nat) (w : World) (v : Value) (n : Nat) (A : Nat → Option Addr) (L C G : Nat → Nat) (X : Nat → Nat → K) : Prop where
  top : w.ownsRow B 22 1 v n (vals n fun i => .slice (A i) (L i) (C i))
  row : ∀ i, i < n → C i ≠ 0 → A i = some ⟨G i, 0, none⟩ ∧ w.ownsRow B 5 1 (.slice (some ⟨G i, 0, none⟩) (C i) (C i)) (C i) (vals (C i) fun j => kv (X i j))
  inj : ∀ i j, i < n → j < n → C i ≠ 0 → C j ≠ 0 → G i = G j → i = j
theorem Ap.stay {B : Nat} {w w' : World} {v : Value} {n : Nat} {A : Nat → Option Addr} {L C G : Nat → Nat} {X : Nat → Nat → K} (h : Ap B w v n A L C G X) (hb : Below w.heap.size w w') : Ap B w' v n A L C G X where
  top := own_keepV h.top (fun b q => hb.block b (h.top.lt b q).2)
  row := fun i hi hc => ⟨(h.row i hi hc).1, own_keep (h.row i hi hc).2 (hb.block _ (own_ge (h.row i hi hc).2).2)⟩
  inj := h.inj
theorem Ap.oneRow {B : Nat} {w w' : World} {v : Value} {n i : Nat} {A : Nat → Option Addr} {L C G : Nat → Nat} {X : Nat → Nat → K} (h : Ap B w v n A L C G X) (hi : i < n) (hy : C i ≠ 0 → ∃ y : Nat → K, w'.ownsRow B 5 1 (.slice (some ⟨G i, 0, none⟩) (C i) (C i)) (C i) (vals (C i) fun j => kv (y j))) (ho : OnlyIn (fun b => C i ≠ 0 ∧ b = G i) w w') :
    ∃ Y, Ap B w' v n A L C G Y ∧ ∀ r, r ≠ i → Y r = X r := by
  by_cases h0 : C i = 0
  · refine ⟨X, ⟨own_keepV h.top (fun b _ => ho.block b (fun q => q.1 h0)), fun r hr hc => ⟨(h.row r hr hc).1, own_keep (h.row r hr hc).2 (ho.block _ (fun q => q.1 h0))⟩, h.inj⟩, fun _ _ => rfl⟩
  · obtain ⟨y, hy⟩ := hy h0
    refine ⟨fun r => if r = i then y else X r, ⟨own_keepV h.top (fun b q => ho.block b (fun e => own_ne h.top (h.row i hi h0).2 (by decide) q (by rw [e.2]; rfl))), fun r hr hc => ⟨(h.row r hr hc).1, ?_⟩, h.inj⟩, fun r hr => by simp [hr]⟩
    by_cases e : r = i
    · subst e; simp only [if_true]; exact hy
    · simp only [if_neg e]
      exact own_keep (h.row r hr hc).2 (ho.block _ (fun q => e (h.inj r i hr hi hc h0 q.2)))
theorem Ap.str {B : Nat} {w : World} {v : Value} {n : Nat} {A : Nat → Option Addr} {L C G : Nat → Nat} {X : Nat → Nat → K} (h : Ap B w v n A L C G X) (i : Nat) (hi : i < n) : StrAt w (A i) (C i) (fun j => (X i j).val) := by
  by_cases h0 : C i = 0
  · exact .inl h0
  · obtain ⟨h1, h2⟩ := h.row i hi h0
    exact .inr ⟨_, _, h1, fun j hj => by rw [Nat.zero_add]; exact own_cell (V := fun j => kv (X i j)) h2 j hj⟩
theorem Ap.plain {B : Nat} {w : World} {v : Value} {n : Nat} {A : Nat → Option Addr} {L C G : Nat → Nat} {X : Nat → Nat → K} (h : Ap B w v n A L C G X) (i : Nat) (hi : i < n) : ∀ a, A i = some a → 0 < C i → ∃ b o, a = ⟨b, o, none⟩ := fun a e q => by
  have h1 := (h.row i hi (by omega)).1
  rw [e] at h1; cases h1
  exact ⟨_, _, rfl⟩
theorem SpareIn.onlyC {S : Nat → Prop} {P : Prop} {g : Nat} {w w1 w2 : World} (h : SpareIn S w w1) (h2 : OnlyIn (fun b => P ∧ b = g) w1 w2) (hg : P → S g) : SpareIn S w w2 :=
  ⟨h2.os.trans h.os, h2.tape.trans h.tape, h2.output.trans h.output, by rw [h2.size]; exact h.size, fun b hb hs => (h2.block b (fun e => hs (by rw [e.2]; exact hg e.1))).trans (h.block b hb hs)⟩

set_option maxRecDepth 100000 in
set_option maxHeartbeats 8000000 in
theorem apartG_any (B : Nat) (v : Value) (n : Nat) (A : Nat → Option Addr) (L C G : Nat → Nat) (X : Nat → Nat → K) (w : World) (hn : n ≤ 300) (hC : ∀ i, i < n → C i ≤ 70003) (h : Ap B w v n A L C G X) :
    Calls Try.prog 16 #[v] w fun e w' => e = .returned (.bool true) ∧ SpareIn (fun b => ∃ r, r < n ∧ C r ≠ 0 ∧ b = G r) w w' := by
  obtain ⟨p, c, rfl, _⟩ := own_len h.top
  have H0 := hid h
  have HC := hid hC
  clear h hC
  go_enter Try.func16, Try.ntmps16
  go_wp2
  go_loopw [3] (fun x wr => ∃ i : Nat, ∃ X : Nat → Nat → K, i ≤ n ∧ x = .int .i64 i ∧ Ap B wr (.slice p n c) n A L C G X ∧ SpareIn (fun b => ∃ r, r < n ∧ C r ≠ 0 ∧ b = G r) w wr) (fun x _ => (n - intOf x).toNat)
  case atStart => exact ⟨0, X, by omega, rfl, H0.out, SpareIn.refl _ _⟩
  case round =>
    clear H0 X
    obtain ⟨i, X, hi, rfl, hv, hs⟩ := hrel
    by_cases hlt : i < n
    · obtain ⟨gt, ct, hform, _, hgt⟩ := hv.top.form (by omega)
      cases hform
      have hmk := run_make_top n (by omega) wr
      have HW0 : Hid (WasAt wr (wr.alloc (.cells (madeCells #[.slice none 0 0] n) 22)) wr.heap.size n 0 C (fun _ => 0) (fun _ => 0) X) :=
        ⟨by simpa using own_made wr 22 (.slice none 0 0) n wr.heap.size (by omega) (Nat.le_refl _), fun i hi => absurd hi (by omega), (Below.refl _ _).alloc (Nat.le_refl _) _⟩
      have HV := hid hv
      have HS := hid hs
      clear hv hs
      go_wp2_with fail
      clear hmk
      obtain ⟨wo, hwo⟩ : ∃ wo, wo = wr := ⟨_, rfl⟩
      subst hwo
      go_loopw [5] (fun x wy => ∃ k : Nat, ∃ Gc Qc : Nat → Nat, k ≤ n ∧ x = .int .i64 k ∧ WasAt wo wy wo.heap.size n k C Gc Qc X) (fun x _ => (n - intOf x).toNat)
      case atStart => exact ⟨0, _, _, by omega, rfl, HW0.out⟩
      case round =>
        clear HW0
        obtain ⟨k, Gc, Qc, hk, rfl, hw⟩ := hrel
        by_cases hlt2 : k < n
        · have t1 : wr.cell? ⟨gt, k, none⟩ = some (.slice (A k) (L k) (C k)) := (hw.bel.cell (p := ⟨gt, k, none⟩) hgt).trans (own_cell (V := fun i => .slice (A i) (L i) (C i)) HV.out.top k hlt2)
          have r1 : StrAt wr.drew (A k) (C k) fun j => (X k j).val := (HV.out.str k hlt2).keep (Stays.of_below hw.bel.drew)
          have t2 : wr.cell? ⟨wo.heap.size, k, none⟩ = some (.slice none 0 0) := by rw [own_cell hw.top k hlt2]; simp
          have t3 := hw.top.frozenAt k
          have hsz := (own_ge hw.top).2
          have hck := HC.out k hlt2
          have hs1 := run_cap22 (A k) (L k) (C k) (HV.out.plain k hlt2)
          have i1 : (k : Int) < (n : Int) := by omega
          have HW := hid hw
          have R1 := hid r1
          clear hw r1 HC
          go_wp2_with fail
          go_region_held3 (fun w' => w'.cell? ⟨gt, k, none⟩ = some (.slice (A k) (L k) (C k))) (first | exact (hbz.cell (p := ⟨gt, k, none⟩) (by show gt < _; have := HW.out.bel.size; simp; omega)).trans t1 | exact far_top hgt ((hbz.cell (p := ⟨gt, k, none⟩) (by show gt < _; have := HW.out.bel.size; simp; omega)).trans t1) | go_keep) (first | (go_at_call 41; refine (copyG_any (A k) (C k) (X k) _ (by omega) (by exact R1.out)).mono ?_; rintro e wz ⟨g1, c1, rfl, hg1, hr1, hbz⟩; have d1 := (hbz.cell (p := ⟨wo.heap.size, k, none⟩) (by show wo.heap.size < _; simp; omega)).trans t2; have d2 := (hbz.frozen (p := ⟨wo.heap.size, k, none⟩) (by show wo.heap.size < _; simp; omega)).trans t3))
          have hbz' : Below wr.heap.size wr wz := (Below.refl _ _).drew.trans hbz
          have HP := hid (HW.out.push hbz' g1 c1 hg1 hr1)
          clear hr1 hbz hbz' HW R1 t1 t2 t3 d1 d2 hs1
          go_wp2
          go_roundw
          case rel => exact ⟨k + 1, _, _, by omega, by go_num, HP.out⟩
          case measure => simp [intOf]; omega
        · have e : k = n := by omega
          subst e
          have t1 : wr.cell? ⟨gt, i, none⟩ = some (.slice (A i) (L i) (C i)) := (hw.bel.cell (p := ⟨gt, i, none⟩) hgt).trans (own_cell (V := fun i => .slice (A i) (L i) (C i)) HV.out.top i hlt)
          have HW := hid hw
          have HVy := hid (HV.out.stay hw.bel)
          have HSy := hid (HS.out.after hw.bel)
          have hci := HC.out i hlt
          have HGI : Hid (C i ≠ 0 → G i < wo.heap.size) := fun q => (own_ge (HV.out.row i hlt q).2).2
          clear hw HV HS
          go_wp2_with fail
          refine (overG_any B (G i) (L i) (C i) (A i) (X i) wr hci (HVy.out.row i hlt)).mono ?_
          rintro e wb ⟨rfl, hy, ho⟩
          obtain ⟨Xb, hVb, hXb⟩ := HVy.out.oneRow hlt hy ho
          have HVb := hid hVb
          have HSb := hid (HSy.out.onlyC ho (fun q => ⟨i, hlt, q, rfl⟩))
          have HSM : Hid (∀ q, q < k → q ≠ i → (StrAt wb (A q) (C q) (fun j => (X q j).val)) ∧ StrAt wb (some ⟨Gc q, 0, none⟩) (C q) (fun j => (X q j).val)) := fun q hq hne => by
            refine ⟨by have h1 := hVb.str q hq; rw [hXb q hne] at h1; exact h1, .inr ⟨_, _, rfl, fun j hj => ?_⟩⟩
            have h1 := HW.out.row q hq
            have h2 : wb.heap[Gc q]? = wr.heap[Gc q]? := ho.block _ (fun z => by
              have a1 := (own_ge h1).1
              have a2 := HGI.out z.1
              have z' : Gc q = G i := z.2
              omega)
            rw [Nat.zero_add]; exact own_cell (V := fun j => kv (X q j)) (own_keep h1 h2) j hj
          have HT1 : Hid (∀ q, q < k → wb.cell? ⟨gt, q, none⟩ = some (.slice (A q) (L q) (C q)) ∧ wb.cell? ⟨wo.heap.size, q, none⟩ = some (.slice (some ⟨Gc q, 0, none⟩) (C q) (Qc q))) := fun q hq => by
            refine ⟨own_cell (V := fun i => .slice (A i) (L i) (C i)) hVb.top q hq, ?_⟩
            have h2 : wb.heap[wo.heap.size]? = wr.heap[wo.heap.size]? := ho.block _ (fun z => by
              have a2 := HGI.out z.1
              have z' : wo.heap.size = G i := z.2
              omega)
            rw [own_cell (own_keep HW.out.top h2) q hq]; simp [hq]
          have HPL : Hid (∀ q, q < k → ∀ a, A q = some a → 0 < C q → ∃ b o, a = ⟨b, o, none⟩) := fun q hq => hVb.plain q hq
          have hgb : gt < wb.heap.size := (own_ge hVb.top).2
          clear hy ho HVy HSy HW t1 hVb hXb
          go_wp2_with fail
          go_loopw [6] (fun x wy => ∃ q z : Nat, q ≤ k ∧ x = .int .i64 q ∧ wy = wb.drewN z) (fun x _ => (k - intOf x).toNat)
          case atStart => exact ⟨0, 0, by omega, rfl, rfl⟩
          case round =>
            obtain ⟨q, z, hq, rfl, hwy⟩ := hrel
            have HWY := hid hwy
            by_cases hlt3 : q < k
            · have t1 : wr.cell? ⟨gt, q, none⟩ = some (.slice (A q) (L q) (C q)) := by rw [hwy]; simpa using (HT1.out q hlt3).1
              have t2 : wr.cell? ⟨wo.heap.size, q, none⟩ = some (.slice (some ⟨Gc q, 0, none⟩) (C q) (Qc q)) := by rw [hwy]; simpa using (HT1.out q hlt3).2
              have i1 : (q : Int) < (k : Int) := by omega
              have hs1 := run_cap22 (A q) (L q) (C q) (HPL.out q hlt3)
              by_cases hqi : q = i
              · have hqi' : ((q : Int) != (i : Int)) = false := by rw [hqi]; simp
                clear hwy hqi
                go_wp2_with fail
                go_quiet (fail)
                go_wp2
                go_roundw
                case rel => exact ⟨q + 1, z + nq, by omega, by go_num, by rw [HWY.out, World.drewN_drewN]⟩
                case measure => simp [intOf]; omega
              · have hqi' : ((q : Int) != (i : Int)) = true := by simp; omega
                have hss := HSM.out q hlt3 hqi
                have S1 : Hid (StrAt wr (A q) (C q) (fun j => (X q j).val)) := by rw [hwy]; exact hss.1.keep (Stays.of_below (below_drewN (Below.refl _ _)))
                have S2 : Hid (StrAt wr (some ⟨Gc q, 0, none⟩) (C q) (fun j => (X q j).val)) := by rw [hwy]; exact hss.2.keep (Stays.of_below (below_drewN (Below.refl _ _)))
                clear hwy hqi hss
                go_wp2_with fail
                go_quiet ((go_at_call 27; refine Calls.quiet_of_same (same_true _ _ (C q) _ _ (fun j => (X q j).val) _ (by exact S1.out) (by exact S2.out))))
                go_wp2
                go_roundw
                case rel => exact ⟨q + 1, z + nq, by omega, by go_num, by rw [HWY.out, World.drewN_drewN]⟩
                case measure => simp [intOf]; omega
            · have hbd : Below wb.heap.size wb wr := by rw [hwy]; exact below_drewN (Below.refl _ _)
              have t1 : wr.cell? ⟨gt, i, none⟩ = some (.slice (A i) (L i) (C i)) := Stays.of_below hbd _ _ (HT1.out i hlt).1
              have HVc := hid (HVb.out.stay hbd)
              have HSc := hid (HSb.out.after hbd)
              clear hwy hbd
              go_wp2_with fail
              refine (overG_any B (G i) (L i) (C i) (A i) _ wr hci (HVc.out.row i hlt)).mono ?_
              rintro e wd ⟨rfl, hy2, ho2⟩
              obtain ⟨Xd, hVd, _⟩ := HVc.out.oneRow hlt hy2 ho2
              have HVd := hid hVd
              have HSd := hid (HSc.out.onlyC ho2 (fun q => ⟨i, hlt, q, rfl⟩))
              clear hy2 ho2 HVc HSc HVb HSb t1 hVd
              go_wp2
              go_roundw
              case rel => exact ⟨i + 1, _, by omega, by go_num, HVd.out, HSd.out⟩
              case measure => simp [intOf]; omega
    · have HS := hid hs
      clear hv hs HC
      go_wp2
      go_ret
      exact ⟨rfl, HS.out⟩
end Go.Proofs.Ytapgdenodhcliaa
