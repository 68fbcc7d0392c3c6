/- Lists of lent lists of bytes; contracts of LentLists and KeptLists of the statements' kit. -/
import Derived.Test.YtfhjioedelpgiaaDoorRf
namespace Go.Proofs.YtfhjioedelpgiaaDoor
open Go Go.RowKit
theorem Tryd.infoL : (Tryd.prog.info? 26).map (fun i => (i.zero, i.size, i.bytes)) = some (some (.slice none 0 0), 1, 24) := by kernel_rfl
def slV (n : Nat) (G L : Nat → Nat) : List Value := (List.range n).map fun i => .slice (some ⟨G i, 0, none⟩) (L i) (L i + 3)
theorem slV_len (n : Nat) (G L : Nat → Nat) : (slV n G L).length = n := by simp [slV]
theorem slV_get (n : Nat) (G L : Nat → Nat) (i : Nat) (h : i < n) : (slV n G L)[i]? = some (.slice (some ⟨G i, 0, none⟩) (L i) (L i + 3)) := by simp [slV, h]
/-- n lists of bytes that a call has lent. -/
structure LL (B : Nat) (w : World) (v : Value) (n : Nat) (G L : Nat → Nat) (X : Nat → Nat → Nat) : Prop where
  top : w.ownsRow B 26 1 v n (slV n G L)
  row : ∀ i, i < n → RowAt w (G i) 0 (L i + 3) (lentN (L i) (X i))
  apart : ∀ i, i < n → ¬ some (G i) = v.ownBlock
theorem LL.start (B : Nat) (w : World) (G L : Nat → Nat) (X : Nat → Nat → Nat) : LL B w (.slice none 0 0) 0 G L X :=
  ⟨by have := World.ownsRow_nil w B 26 1; unfold slV; simpa using this, fun i hi => by omega, fun i hi => by omega⟩
theorem LL.lt {B : Nat} {w : World} {v : Value} {n : Nat} {G L : Nat → Nat} {X : Nat → Nat → Nat} (h : LL B w v n G L X) (i : Nat) (hi : i < n) : G i < w.heap.size :=
  cell_lt (h.row i hi 0 (by omega))
theorem LL.below {B : Nat} {w w' : World} {v : Value} {n : Nat} {G L : Nat → Nat} {X : Nat → Nat → Nat} (h : LL B w v n G L X) (hb : Below w.heap.size w w') : LL B w' v n G L X := by
  refine ⟨?_, fun i hi => (h.row i hi).below hb (h.lt i hi), h.apart⟩
  obtain ⟨hl, h | ⟨g, cap, cur, rfl, hB, hg, hc, hm, hs, ht⟩⟩ := h.top
  · exact ⟨hl, .inl h⟩
  · refine ⟨hl, .inr ⟨g, cap, cur, rfl, hB, ?_, hc, hm, hs, ht⟩⟩
    exact (hb.block g (CAt.lt hg)).trans hg
theorem LL.slice {B : Nat} {w : World} {v : Value} {n : Nat} {G L : Nat → Nat} {X : Nat → Nat → Nat} (h : LL B w v n G L X) (hX : ∀ i, i < n → ∀ j, j < L i → X i j < 256) :
    ∃ p c, v = .slice p n c ∧ LsAt w p n (fun i => some ⟨G i, 0, none⟩) L (fun i => L i + 3) X := by
  obtain ⟨hl, h1 | ⟨g, cap, cur, rfl, hB, hg, hc, hm, hs, ht⟩⟩ := h.top
  · obtain ⟨rfl, rfl⟩ := h1
    exact ⟨none, 0, rfl, .inl rfl⟩
  · refine ⟨some ⟨g, 0, none⟩, cap, rfl, .inr ⟨g, 0, rfl, fun i hi => ⟨?_, .inr ⟨G i, 0, rfl, fun j hj => ?_⟩, Nat.le_add_right _ _, fun e => absurd e (by simp), hX i hi⟩⟩⟩
    · have h2 := h.top.cellAt i (by omega)
      rw [Nat.zero_add, h2, slV_get n G L i hi]
    · rw [h.row i hi j (by omega)]; unfold lentN; rw [if_pos hj]
theorem row_keep {w w' : World} {b o n : Nat} {x : Nat → Nat} (h : RowAt w b o n x) (hb : w'.heap[b]? = w.heap[b]?) : RowAt w' b o n x :=
  fun i hi => (World.cell?_of_block (w := w) (a := ⟨b, o + i, none⟩) hb).trans (h i hi)
set_option maxRecDepth 100000 in
theorem LL.push {B : Nat} {w w1 : World} {v : Value} {n : Nat} {G L : Nat → Nat} {X : Nat → Nat → Nat} (h : LL B w v n G L X) (hN : NewRow w w1 (L n + 3) (lentN (L n) (X n))) (hn : n ≤ 100000) (hB : B ≤ w.heap.size) :
    ∃ (v' : Value) (w' : World) (G' : Nat → Nat), (Builtin.append_ #[22, 22] 22 #[v, .slice (some ⟨w1.heap.size, 0, none⟩) 1 1]).run Tryd.prog (w1.alloc (.cells #[.slice (some ⟨w.heap.size, 0, none⟩) (L n) (L n + 3)] 26)) = .ok v' w' ∧ LL B w' v' (n + 1) G' L X ∧ Below B w w' := by
  obtain ⟨i0, hi0, hz0, hz1, hz2⟩ := info_parts Tryd.infoL
  have b2 : Below w1.heap.size w1 (w1.alloc (.cells #[.slice (some ⟨w.heap.size, 0, none⟩) (L n) (L n + 3)] 26)) := (Below.refl _ _).alloc (Nat.le_refl _) _
  have h2 := (h.below hN.below).below b2
  have hs1 := hN.size
  have hs2 := b2.size
  have hnew : ∀ (j : Nat) u, ([.slice (some ⟨w.heap.size, 0, none⟩) (L n) (L n + 3)] : List Value)[j]? = some u → (w1.alloc (.cells #[.slice (some ⟨w.heap.size, 0, none⟩) (L n) (L n + 3)] 26)).cell? ((⟨w1.heap.size, 0, none⟩ : Addr).add j) = some u := fun j u hj => by
    have e : j = 0 := by
      rcases j with _ | j
      · rfl
      · simp at hj
    subst e
    rw [add_plain', cell_of_row _ _ _ _ _ _ (heap_alloc_new _ _)]
    simpa using hj
  generalize ho : (w1.alloc (.cells #[.slice (some ⟨w.heap.size, 0, none⟩) (L n) (L n + 3)] 26)) = w2 at *
  obtain ⟨v', w', hr, hown, hgrow, _, hblk⟩ := run_append_own_at (P := Tryd.prog) w2 B 22 22 26 i0 (.slice none 0 0) 1 24 Tryd.underlying22 hi0 hz0 hz1 hz2 rfl (by decide) v n _ h2.top ⟨w1.heap.size, 0, none⟩ 1 1 [.slice (some ⟨w.heap.size, 0, none⟩) (L n) (L n + 3)] rfl hnew (fun u hu => by simp at hu; subst hu; rfl) (by unfold maxLen; omega) (by omega) (by omega)
  have hlt : ∀ i, i < n → G i < w.heap.size := h.lt
  refine ⟨v', w', fun i => if i = n then w.heap.size else G i, hr, ⟨?_, fun i hi => ?_, fun i hi => ?_⟩, ?_⟩
  · have e : slV n G L ++ [.slice (some ⟨w.heap.size, 0, none⟩) (L n) (L n + 3)] = slV (n + 1) (fun i => if i = n then w.heap.size else G i) L := by
      unfold slV
      rw [List.range_succ, List.map_append]
      congr 1
      · apply List.map_congr_left
        intro i hi
        have hin := List.mem_range.1 hi
        have e2 : ¬ i = n := by omega
        simp only [if_neg e2]
      · simp
    rw [← e]; exact hown
  · by_cases e : i = n
    · subst e
      simp only [if_true]
      refine row_keep ?_ (hgrow.block _ (by omega) (fun q => ?_))
      · exact hN.row.below b2 (by omega)
      · have := (h.top.lt _ q.symm).2
        omega
    · simp only [if_neg e]
      have := hlt i (by omega)
      exact row_keep (h2.row i (by omega)) (hgrow.block _ (by omega) (h2.apart i (by omega)))
  · by_cases e : i = n
    · subst e
      simp only [if_true]
      intro q
      rcases hblk with k | k
      · rw [k] at q
        have := (h.top.lt _ q.symm).2
        omega
      · rw [k] at q
        have := Option.some.inj q
        omega
    · simp only [if_neg e]
      intro q
      have := hlt i (by omega)
      rcases hblk with k | k
      · rw [k] at q; exact h.apart i (by omega) q
      · rw [k] at q
        have := Option.some.inj q
        omega
  · exact ((hN.below.mono hB).trans (b2.mono (by omega))).grown hgrow (by omega) (fun k hk => (h.top.lt k hk).1)
def LentLs (w : World) (n : Nat) (L : Nat → Nat) (X : Nat → Nat → Nat) (e : Ending) (w' : World) : Prop := ∃ v G, e = .returned v ∧ LL w.heap.size w' v n G L X ∧ Below w.heap.size w w'
set_option maxRecDepth 100000 in
set_option maxHeartbeats 1000000 in
theorem lentLists_any (p : Option Addr) (n c : Nat) (A : Nat → Option Addr) (L C : Nat → Nat) (X : Nat → Nat → Nat) (w : World) (hn : n ≤ 10000) (hL : ∀ i, i < n → L i ≤ 70000) (hT : LsAt w p n A L C X) :
    Calls Tryd.prog 6 #[.slice p n c] w fun e w' => LentLs w n L X e w' := by
  have HT := hid hT
  have HL := hid hL
  have HN := hid hn
  have hn' : (n : Int) ≤ 10000 := by omega
  clear hT hL
  go_enter Tryd.func6, Tryd.ntmps6
  go_wp2
  go_loopw [3, 4] (fun v x wr => ∃ i : Nat, ∃ G : Nat → Nat, i ≤ n ∧ x = .int .i64 i ∧ LL w.heap.size wr v i G L X ∧ Below w.heap.size w wr) (fun _ x _ => (n - intOf x).toNat)
  case atStart => exact ⟨0, fun _ => 0, by omega, rfl, LL.start _ _ _ _ _, Below.refl _ _⟩
  case round =>
    obtain ⟨k, G, hk, rfl, hv, hb⟩ := hrel
    have HV := hid hv
    have HB := hid hb
    clear hv hb
    by_cases hlt : k < n
    · have hlt' : (k : Int) < (n : Int) := by omega
      obtain ⟨b, o, rfl, hc, hst, hlc, hpn, hbd⟩ := (HT.out.below HB.out).at k hlt
      have HST := hid hst
      have HLk := hid (HL.out k hlt)
      clear hst hlc hpn hbd
      go_wp2_with (first
        | (go_at_call 22; refine (lent_any (A k) (L k) (C k) (X k) wr HLk.out HST.out).mono ?_; rintro e w1 ⟨rfl, hnew⟩; obtain ⟨v2, w2, G2, hr2, hl2, hb2⟩ := HV.out.push hnew (by have := HN.out; omega) HB.out.size; have HR2 := hid hr2; have HL2 := hid hl2; have HB2 := hid (HB.out.trans hb2); clear hnew hr2 hl2 hb2)
        | (refine wpList_append_eq rfl _ _ 22 rfl _ _ rfl rfl _ _ HR2.out ?_))
      go_roundw
      case rel => exact ⟨k + 1, G2, by omega, by go_num, HL2.out, HB2.out⟩
      case measure => simp [intOf]; omega
    · have e : k = n := by omega
      have hge : ¬ (k : Int) < (n : Int) := by omega
      have HV2 : Hid (LL w.heap.size wr u3 n G L X) := by rw [← e]; exact HV.out
      clear e HV
      go_wp2
      go_ret
      exact ⟨u3, G, rfl, HV2.out, HB.out⟩
set_option maxRecDepth 100000 in
set_option maxHeartbeats 1000000 in
theorem keptLists_any (B : Nat) (v : Value) (p : Option Addr) (n c : Nat) (G : Nat → Nat) (A : Nat → Option Addr) (L C : Nat → Nat) (X : Nat → Nat → Nat) (w : World) (hn : n ≤ 10000) (hL : ∀ i, i < n → L i ≤ 70000) (h : LL B w v n G L X) (h' : LsAt w p n A L C X) :
    Calls Tryd.prog 16 #[v, .slice p n c] w fun e w' => e = .returned (.bool true) ∧ Below w.heap.size w w' := by
  have hX : ∀ i, i < n → ∀ j, j < L i → X i j < 256 := fun i hi => (h'.at i hi).elim fun _ q => q.elim fun _ q => q.2.2.2.2.2
  obtain ⟨pv, cv, rfl, hs⟩ := h.slice hX
  have H := hid h
  have HS := hid hs
  have H' := hid h'
  have HL := hid hL
  have hn' : (n : Int) ≤ 10000 := by omega
  clear h h' hL hs hX
  go_enter Tryd.func16, Tryd.ntmps16
  go_wp2
  go_loopw [5] (fun i wr => ∃ k : Nat, k ≤ n ∧ i = .int .i64 k ∧ Below w.heap.size w wr) (fun i _ => (n - intOf i).toNat)
  case atStart => exact ⟨0, by omega, rfl, Below.refl _ _⟩
  case round =>
    obtain ⟨k, hk, rfl, hb⟩ := hrel
    have HB := hid hb
    by_cases hlt : k < n
    · have hlk := HL.out k hlt
      have hv := H.out.below hb
      obtain ⟨g, o, rfl, c1, _⟩ := (HS.out.below hb).at k hlt
      obtain ⟨b', o', rfl, c2, hst, _⟩ := (H'.out.below hb).at k hlt
      have R1 : Hid (RowAt wr.drew (G k) 0 (L k + 3) (lentN (L k) (X k))) := hv.row k hlt
      have S1 : Hid (StrAt wr.drew (A k) (L k) (X k)) := hst.below (Below.refl _ _).drew
      have hgk := hv.lt k hlt
      have hlt' : (k : Int) < (n : Int) := by omega
      have q1 := cell_lt c1
      have q2 := cell_lt c2
      have Q1 := hid q1
      have Q2 := hid q2
      have HG := hid hgk
      have HK := hid hlk
      clear H H' HL HS hb hv hst hgk q1 q2 hlk
      go_wp2_with fail
      go_region_held3 (fun w' => w'.cell? ⟨g, o + k, none⟩ = some (.slice (some ⟨G k, 0, none⟩) (L k) (L k + 3)) ∧ w'.cell? ⟨b', o' + k, none⟩ = some (.slice (A k) (L k) (C k))) (first | exact ⟨(hb1.cell (p := ⟨g, o + k, none⟩) Q1.out).trans c1, (hb1.cell (p := ⟨b', o' + k, none⟩) Q2.out).trans c2⟩ | exact ⟨c1, c2⟩ | go_keep) (first | (go_at_call 30; refine (kept_any (G k) (L k) (C k) (A k) (X k) _ HK.out (by exact HG.out) (by exact R1.out) (by exact S1.out)).mono ?_; rintro e w1 ⟨rfl, hb1⟩))
      have HB1 := hid (HB.out.trans (((Below.refl _ _).drew.trans hb1).mono HB.out.size))
      clear hb1 HB
      go_wp2
      go_roundw
      case rel => exact ⟨k + 1, by omega, by go_num, HB1.out⟩
      case measure => simp [intOf]; omega
    · have hge : ¬ (k : Int) < (n : Int) := by omega
      clear H H' HL HS hb
      go_wp2
      go_ret
      exact ⟨rfl, HB.out⟩
end Go.Proofs.YtfhjioedelpgiaaDoor
