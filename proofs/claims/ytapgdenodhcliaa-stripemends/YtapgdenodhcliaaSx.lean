/- Split and Length, the program's and the document's own, in one form for all inputs; lists of lists put together for ApartBytes. -/
import Derived.Test.YtapgdenodhcliaaSw
import Derived.Test.YtapgdenodhcliaaYf
namespace Go.Proofs.Ytapgdenodhcliaa
open Go.RowKit

/-- Split's error. -/
def errS (k m : Int) (n : Nat) : Int := if k < 1 ∨ m < 1 ∨ 16 < k + m then 5 else if 65536 < n then 3 else 0
theorem splitU (p : Option Addr) (n c : Nat) (k m : Int) (x : Nat → K) (w : World) (hk : (Lit.int .i64 k).wf = true) (hm : (Lit.int .i64 m).wf = true) (hc : n ≤ c) (hx : StrAt w p n fun j => (x j).val) :
    Calls Try.prog 10 #[.slice p n c, .int .i64 k, .int .i64 m] w fun e w' => ∃ u cu G, e = .returned (.tuple #[.slice u (cnt (errS k m n) (k + m).toNat) cu, .int .i64 (errS k m n)]) ∧ OwnV w.heap.size w' (.slice u (cnt (errS k m n) (k + m).toNat) cu) (cnt (errS k m n) (k + m).toNat) G (fun _ => lgt n k.toNat) (fun _ => lgt n k.toNat) (fun _ => lgt n k.toNat) (fun _ => lgt n k.toNat) (ash k.toNat (lgt n k.toNat) n x) ∧ Below w.heap.size w w' := by
  obtain ⟨b1, b2⟩ := bounds_i64 hk
  obtain ⟨b3, b4⟩ := bounds_i64 hm
  by_cases h : k < 1 ∨ m < 1 ∨ 16 < k + m
  · have e : errS k m n = 5 := by unfold errS; rw [if_pos h]
    rw [e]
    exact (split_err p n c k m w b1 b2 b3 b4 h).mono (fun e w' ⟨h1, h2⟩ => ⟨none, 0, fun _ => 0, h1, OwnV.nil, by rw [h2]; exact Below.refl _ _⟩)
  · obtain ⟨K1, rfl⟩ : ∃ K1 : Nat, k = K1 := ⟨k.toNat, by omega⟩
    obtain ⟨M1, rfl⟩ : ∃ M1 : Nat, m = M1 := ⟨m.toNat, by omega⟩
    have ek : (K1 : Int).toNat = K1 := by omega
    have em : ((K1 : Int) + (M1 : Int)).toNat = K1 + M1 := by omega
    by_cases hn : 65536 < n
    · have e : errS K1 M1 n = 3 := by unfold errS; rw [if_neg h, if_pos hn]
      rw [e]
      exact (split_long p n c K1 M1 w (by omega) (by omega) (by omega) hn).mono (fun e w' ⟨h1, h2⟩ => ⟨none, 0, fun _ => 0, h1, OwnV.nil, h2⟩)
    · have e : errS K1 M1 n = 0 := by unfold errS; rw [if_neg h, if_neg hn]
      rw [e, ek, em]
      exact (split_ok p n c K1 M1 x w (by omega) (by omega) (by omega) (by omega) hc hx).mono (fun e w' ⟨g, cp, G, h1, h2, h3⟩ => ⟨some ⟨g, 0, none⟩, cp, G, h1, h2.toV, h3⟩)
theorem rsplitU (p : Option Addr) (n c : Nat) (k m : Int) (x : Nat → K) (w : World) (hk : (Lit.int .i64 k).wf = true) (hm : (Lit.int .i64 m).wf = true) (hx : StrAt w p n fun j => (x j).val) :
    Calls Try.prog 11 #[.slice p n c, .int .i64 k, .int .i64 m] w fun e w' => ∃ u cu G, e = .returned (.tuple #[.slice u (cnt (errS k m n) (k + m).toNat) cu, .int .i64 (errS k m n)]) ∧ OwnV w.heap.size w' (.slice u (cnt (errS k m n) (k + m).toNat) cu) (cnt (errS k m n) (k + m).toNat) G (fun _ => lgt n k.toNat) (fun _ => lgt n k.toNat) (fun _ => lgt n k.toNat) (fun _ => lgt n k.toNat) (ash k.toNat (lgt n k.toNat) n x) ∧ Below w.heap.size w w' := by
  obtain ⟨b1, b2⟩ := bounds_i64 hk
  obtain ⟨b3, b4⟩ := bounds_i64 hm
  by_cases h : k < 1 ∨ m < 1 ∨ 16 < k + m
  · have e : errS k m n = 5 := by unfold errS; rw [if_pos h]
    rw [e]
    exact (rsplit_err p n c k m w b1 b2 b3 b4 h).mono (fun e w' ⟨h1, h2⟩ => ⟨none, 0, fun _ => 0, h1, OwnV.nil, by rw [h2]; exact Below.refl _ _⟩)
  · obtain ⟨K1, rfl⟩ : ∃ K1 : Nat, k = K1 := ⟨k.toNat, by omega⟩
    obtain ⟨M1, rfl⟩ : ∃ M1 : Nat, m = M1 := ⟨m.toNat, by omega⟩
    have ek : (K1 : Int).toNat = K1 := by omega
    have em : ((K1 : Int) + (M1 : Int)).toNat = K1 + M1 := by omega
    by_cases hn : 65536 < n
    · have e : errS K1 M1 n = 3 := by unfold errS; rw [if_neg h, if_pos hn]
      rw [e]
      exact (rsplit_long p n c K1 M1 w (by omega) (by omega) (by omega) hn).mono (fun e w' ⟨h1, h2⟩ => ⟨none, 0, fun _ => 0, h1, OwnV.nil, by rw [h2]; exact Below.refl _ _⟩)
    · have e : errS K1 M1 n = 0 := by unfold errS; rw [if_neg h, if_neg hn]
      rw [e, ek, em]
      exact (rsplit_ok p n c K1 M1 x w (by omega) (by omega) (by omega) (by omega) hx).mono (fun e w' ⟨g, cp, G, h1, h2, h3⟩ => ⟨some ⟨g, 0, none⟩, cp, G, h1, h2.toV, h3⟩)
/-- Length's answer. -/
def lenE (s k : Int) : Int := if s < 0 ∨ 65536 < s ∨ k < 1 ∨ 16 ≤ k then 5 else 0
def lenV (s k : Int) : Int := if s < 0 ∨ 65536 < s ∨ k < 1 ∨ 16 ≤ k then 0 else ((lgt s.toNat k.toNat : Nat) : Int)
theorem lengthU (s k : Int) (w : World) : Calls Try.prog 12 #[.int .i64 s, .int .i64 k] w fun e w' => e = .returned (.tuple #[.int .i64 (lenV s k), .int .i64 (lenE s k)]) ∧ w' = w := by
  by_cases h : s < 0 ∨ 65536 < s ∨ k < 1 ∨ 16 ≤ k
  · unfold lenV lenE; rw [if_pos h, if_pos h]; exact length_err s k w h
  · obtain ⟨S1, rfl⟩ : ∃ S1 : Nat, s = S1 := ⟨s.toNat, by omega⟩
    obtain ⟨K1, rfl⟩ : ∃ K1 : Nat, k = K1 := ⟨k.toNat, by omega⟩
    unfold lenV lenE; rw [if_neg h, if_neg h]
    exact length_ok S1 K1 w (by omega) (by omega) (by omega)
theorem rlengthU (s k : Int) (w : World) : Calls Try.prog 13 #[.int .i64 s, .int .i64 k] w fun e w' => e = .returned (.tuple #[.int .i64 (lenV s k), .int .i64 (lenE s k)]) ∧ w' = w := by
  by_cases h : s < 0 ∨ 65536 < s ∨ k < 1 ∨ 16 ≤ k
  · unfold lenV lenE; rw [if_pos h, if_pos h]; exact rlength_err s k w h
  · obtain ⟨S1, rfl⟩ : ∃ S1 : Nat, s = S1 := ⟨s.toNat, by omega⟩
    obtain ⟨K1, rfl⟩ : ∃ K1 : Nat, k = K1 := ⟨k.toNat, by omega⟩
    unfold lenV lenE; rw [if_neg h, if_neg h]
    exact rlength_ok S1 K1 w (by omega) (by omega) (by omega)

/-- An empty list of lists. -/
theorem ap_start (w : World) (B : Nat) (hB : B ≤ w.heap.size) : Ap B (w.alloc (.cells #[] 22)) (.slice (some ⟨w.heap.size, 0, none⟩) 0 0) 0 (fun _ => none) (fun _ => 0) (fun _ => 0) (fun _ => 0) (fun _ _ => 0) where
  top := World.ownsRow_lit (base := B) (e := 22) (size := 1) w #[] 0 hB (by unfold maxLen; omega) rfl
  row := fun i hi => absurd hi (by omega)
  inj := fun i j hi => absurd hi (by omega)
/-- Lists put behind others. -/
theorem ap_join {B : Nat} {w wb : World} {v v' : Value} {n m : Nat} {A1 A2 : Nat → Option Addr} {L1 C1 G1 L2 C2 G2 : Nat → Nat} {X1 X2 : Nat → Nat → K} (h1 : Ap B w v n A1 L1 C1 G1 X1)
    (h2 : ∀ i, i < m → C2 i ≠ 0 → A2 i = some ⟨G2 i, 0, none⟩ ∧ w.ownsRow B 5 1 (.slice (some ⟨G2 i, 0, none⟩) (C2 i) (C2 i)) (C2 i) (vals (C2 i) fun j => kv (X2 i j)))
    (hj : ∀ i j, i < m → j < m → C2 i ≠ 0 → C2 j ≠ 0 → G2 i = G2 j → i = j) (hap : ∀ i j, i < n → j < m → C1 i ≠ 0 → C2 j ≠ 0 → G1 i ≠ G2 j)
    (hgrow : w.grownBy wb v.ownBlock) (hown : wb.ownsRow B 22 1 v' (n + m) ((vals n fun i => .slice (A1 i) (L1 i) (C1 i)) ++ vals m fun i => .slice (A2 i) (L2 i) (C2 i))) :
    Ap B wb v' (n + m) (two n A1 A2) (two n L1 L2) (two n C1 C2) (two n G1 G2) (two n X1 X2) where
  top := by
    rw [vals_append] at hown
    rwa [vals_congr (W := fun i => .slice (two n A1 A2 i) (two n L1 L2 i) (two n C1 C2 i)) (fun i _ => by
      unfold two
      by_cases q : i < n
      · rw [if_pos q, if_pos q, if_pos q, if_pos q]
      · rw [if_neg q, if_neg q, if_neg q, if_neg q])] at hown
  row := fun i hi hc => by
    have hk : ∀ b cr mr ys, w.ownsRow B 5 1 (.slice (some ⟨b, 0, none⟩) mr cr) mr ys → wb.ownsRow B 5 1 (.slice (some ⟨b, 0, none⟩) mr cr) mr ys := fun b cr mr ys hh =>
      own_keep hh (hgrow.block b (own_ge hh).2 (fun q => own_ne hh h1.top (by decide) rfl q.symm))
    unfold two at hc ⊢
    by_cases q : i < n
    · simp only [if_pos q] at hc ⊢
      exact ⟨(h1.row i q hc).1, hk _ _ _ _ (h1.row i q hc).2⟩
    · simp only [if_neg q] at hc ⊢
      exact ⟨(h2 (i - n) (by omega) hc).1, hk _ _ _ _ (h2 (i - n) (by omega) hc).2⟩
  inj := fun i j hi hj' ci cj q => by
    unfold two at q ci cj
    by_cases q1 : i < n
    · by_cases q2 : j < n
      · simp only [if_pos q1, if_pos q2] at q ci cj; exact h1.inj i j q1 q2 ci cj q
      · simp only [if_pos q1, if_neg q2] at q ci cj; exact absurd q (hap i (j - n) q1 (by omega) ci cj)
    · by_cases q2 : j < n
      · simp only [if_neg q1, if_pos q2] at q ci cj; exact absurd q.symm (hap j (i - n) q2 (by omega) cj ci)
      · simp only [if_neg q1, if_neg q2] at q ci cj; have := hj (i - n) (j - n) (by omega) (by omega) ci cj q; omega
/-- A literal list of one list, put behind. -/
theorem one_run {w : World} {B n : Nat} {v : Value} {xs : List Value} (u : Value) (hu : u.oneCell' = true) (hv : w.ownsRow B 22 1 v n xs) (hn : n ≤ 500) (hB : B ≤ w.heap.size) :
    ∃ v' w', (Builtin.append_ #[24, 24] 24 #[v, .slice (some ⟨w.heap.size, 0, none⟩) 1 1]).run Try.prog (w.alloc (.cells #[u] 22)) = .ok v' w' ∧ w'.ownsRow B 22 1 v' (n + 1) (xs ++ [u]) ∧ (w.alloc (.cells #[u] 22)).grownBy w' v.ownBlock ∧ (v'.ownBlock = v.ownBlock ∨ v'.ownBlock = some (w.heap.size + 1)) := by
  obtain ⟨i0, hi0, hz0, hz1, hz2⟩ := info_parts Try.info22
  have hz : (w.alloc (.cells #[u] 22)).heap.size = w.heap.size + 1 := by simp
  obtain ⟨v', w', hr, h2, h3, _, h5⟩ := run_append_own_at (P := Try.prog) (w.alloc (.cells #[u] 22)) B 24 24 22 i0 (.slice none 0 0) 1 24 Try.underlying24 hi0 hz0 hz1 hz2 rfl (by decide) v n xs (hv.alloc _) ⟨w.heap.size, 0, none⟩ 1 1 [u] rfl (news_one w u) (by intro z hz; simp at hz; subst hz; exact hu) (by unfold maxLen; omega) (by omega) (by omega)
  rw [hz] at h5
  exact ⟨v', w', hr, h2, h3, h5⟩
theorem slice_oneA {n : Nat} {A : Nat → Option Addr} {L C : Nat → Nat} : ∀ u ∈ vals n (fun i => .slice (A i) (L i) (C i)), u.oneCell' = true := fun u hu => by
  unfold vals at hu
  obtain ⟨i, _, rfl⟩ := List.mem_map.1 hu
  rfl
theorem lentK_val (n : Nat) (x : Nat → K) (i : Nat) : (lentK n x i).val = lentN n (fun j => (x j).val) i := by
  unfold lentK lentN
  by_cases e : i < n
  · rw [if_pos e, if_pos e]
  · rw [if_neg e, if_neg e, kb_val _ (by omega)]
theorem Mk.lent {w w1 : World} {g n : Nat} {x : Nat → K} (h : Mk w w1 g (n + 3) (lentK n x)) : RowAt w1 g 0 (n + 3) (lentN n fun j => (x j).val) := fun i hi => by
  rw [Nat.zero_add, ← lentK_val]; exact own_cell (V := fun c => kv (lentK n x c)) h.row i hi
end Go.Proofs.Ytapgdenodhcliaa
