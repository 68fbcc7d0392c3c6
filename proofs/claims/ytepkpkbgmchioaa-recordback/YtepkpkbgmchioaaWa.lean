/- Contract of parts of the reader of package record. -/
import Derived.Test.YtepkpkbgmchioaaVt
namespace Go.Proofs.Ytepkpkbgmchioaa
open Go Go.RowKit

def flatP (ps : Ps) : List Value := ps.flatMap fun p => [i64 p.1, i64 p.2]
theorem flatP_len (ps : Ps) : (flatP ps).length = ps.length * 2 := by
  induction ps with
  | nil => rfl
  | cons p r ih => simp [flatP] at ih ⊢; omega
theorem flatP_get : ∀ (ps : Ps) (i : Nat), i < ps.length → (flatP ps)[i * 2]? = some (i64 (ps.getD i (0, 0)).1) ∧ (flatP ps)[i * 2 + 1]? = some (i64 (ps.getD i (0, 0)).2)
  | [], i, h => by simp at h
  | p :: r, 0, _ => by simp [flatP]
  | p :: r, i + 1, h => by
    have ih := flatP_get r i (by simpa using h)
    have e : flatP (p :: r) = i64 p.1 :: i64 p.2 :: flatP r := rfl
    rw [e, show (i + 1) * 2 = i * 2 + 1 + 1 by omega]
    simpa using ih
/-- Parts in a row of their own. -/
def PBuf (B : Nat) (w : World) (v : Value) (ps : Ps) : Prop := w.ownsRow B 53 2 v ps.length (flatP ps)
theorem Try.infoP : (Try.prog.info? 53).map (fun i => (i.zero, i.size, i.bytes)) = some (some (.agg #[.int .i64 0, .int .i64 0]), 2, 16) := by kernel_rfl
/-- Parts in memory of no block below B. -/
def PLF (B : Nat) (w : World) (v : Value) (ps : Ps) : Prop := PL w v ps ∧ ∀ a n c, v = .slice (some a) n c → ps ≠ [] → B ≤ a.block
theorem PLF.nil (B : Nat) (w : World) : PLF B w (.slice none 0 0) [] := ⟨PL.nil w, fun _ _ _ _ h => (h rfl).elim⟩
theorem PLF.only {B : Nat} {w w' : World} {v : Value} {ps : Ps} {S : Nat → Prop} (h : PLF B w v ps) (hO : Only S w w') (hS : ∀ i, S i → i < B) : PLF B w' v ps := by
  obtain ⟨⟨po, c, h1, h2, h3, h⟩, hB⟩ := h
  refine ⟨⟨po, c, h1, h2, h3, ?_⟩, hB⟩
  rcases h with h | ⟨b, o, hp, h⟩
  · exact Or.inl h
  · refine Or.inr ⟨b, o, hp, fun i hi => ?_⟩
    have hb : B ≤ b := hB ⟨b, o, none⟩ _ _ (by rw [h1, hp]) (fun e => by rw [e] at hi; cases hi)
    have hk : w'.heap[b]? = w.heap[b]? := hO.block b (cell_lt' (a := ⟨b, o + i * 2, none⟩) (by rw [(h i hi).1]; simp)) (fun e => by have := hS _ e; omega)
    exact ⟨(World.cell?_of_block (a := ⟨b, o + i * 2, none⟩) hk).trans (h i hi).1, (World.cell?_of_block (a := ⟨b, o + i * 2 + 1, none⟩) hk).trans (h i hi).2⟩
theorem PBuf.nil (B : Nat) (w : World) : PBuf B w (.slice none 0 0) [] := World.ownsRow_nil w B _ 2
theorem PBuf.form {B : Nat} {w : World} {v : Value} {ps : Ps} (h : PBuf B w v ps) : ∃ po c, v = .slice po ps.length c ∧ ps.length ≤ c := by
  rcases h.2 with ⟨rfl, h0⟩ | ⟨g, cap, cur, rfl, _, _, h1, _⟩
  · exact ⟨none, 0, by rw [h0], by omega⟩
  · exact ⟨_, cap, rfl, h1⟩
theorem PBuf.pl {B : Nat} {w : World} {po : Option Addr} {n c : Nat} {ps : Ps} (h : PBuf B w (.slice po n c) ps) (hn : ps.length ≤ 100000) (c' : Nat) (hc : ps.length ≤ c') : n = ps.length ∧ PLF B w (.slice po ps.length c') ps := by
  rcases h.2 with ⟨e, h0⟩ | ⟨g, cap, cur, e, hB, hg, h1, _, h3, h4⟩
  · simp at e
    exact ⟨by omega, ⟨po, c', rfl, hc, hn, Or.inl (List.eq_nil_of_length_eq_zero h0)⟩, fun a n c _ h => (h (List.eq_nil_of_length_eq_zero h0)).elim⟩
  · cases e
    refine ⟨rfl, ⟨_, c', rfl, hc, hn, Or.inr ⟨g, 0, rfl, fun i hi => ?_⟩⟩, fun a n c h _ => by cases h; exact hB⟩
    have hc2 : CAt w g cur 53 := hg
    obtain ⟨a1, a2⟩ := flatP_get ps i hi
    rw [← h4] at a1 a2
    rw [Nat.zero_add, hc2.cell, hc2.cell]
    constructor
    · rw [List.getElem?_take, if_pos (by omega)] at a1; simpa using a1
    · rw [List.getElem?_take, if_pos (by omega)] at a2; simpa using a2
theorem PBuf.push {B : Nat} {w : World} {v : Value} {ps : Ps} (h : PBuf B w v ps) (x y : Int) (hn : ps.length ≤ 1000000) (hB : B ≤ w.heap.size) :
    ∃ v' w', (Builtin.append_ #[43, 43] 43 #[v, .slice (some ⟨w.heap.size, 0, none⟩) 1 1]).run Try.prog (w.alloc (.cells #[i64 x, i64 y] 53)) = .ok v' w' ∧ PBuf B w' v' (ps ++ [(x, y)]) ∧ (w.alloc (.cells #[i64 x, i64 y] 53)).grownBy w' v.ownBlock := by
  obtain ⟨i0, hi0, hz0, hz1, hz2⟩ := info_parts Try.infoP
  have h2 : (w.alloc (.cells #[i64 x, i64 y] 53)).ownsRow B 53 2 v ps.length (flatP ps) := h.alloc _
  have hc : CAt (w.alloc (.cells #[i64 x, i64 y] 53)) w.heap.size #[i64 x, i64 y] 53 := CAt.made w _ _
  obtain ⟨v', w', hr, h3, h4, _, _⟩ := run_append_own_at (P := Try.prog) (w.alloc (.cells #[i64 x, i64 y] 53)) B 43 43 53 i0 _ 2 16 Try.underlying43 hi0 hz0 hz1 hz2 rfl (by decide) v ps.length (flatP ps) h2 ⟨w.heap.size, 0, none⟩ 1 1 [i64 x, i64 y] rfl (fun j u hj => by
      rw [add_none, Nat.zero_add, hc.cell]
      rcases j with _ | _ | j
      · simpa using hj
      · simpa using hj
      · simp at hj) (by intro u hu; simp at hu; rcases hu with rfl | rfl <;> rfl) (by unfold maxLen; omega) (by omega) (by rw [size_al]; omega)
  refine ⟨v', w', hr, ?_, h4⟩
  unfold PBuf
  rw [show flatP (ps ++ [(x, y)]) = flatP ps ++ [i64 x, i64 y] by simp [flatP]]
  simpa using h3
theorem elemP (w : World) : (sizeOf (Try.prog.elem 43)).run Try.prog w = .ok 2 w := by
  have hi : (Try.prog.info? (Try.prog.elem 43)).map (·.size) = some 2 := by kernel_rfl
  obtain ⟨i, h1, h2⟩ := Option.map_eq_some_iff.1 hi
  simp [sizeOf, typeInfo, h1, h2]
theorem underEP : Try.prog.underlying 43 = some (.slice (Try.prog.elem 43)) := by kernel_rfl
theorem run_clipP (po : Option Addr) (n c : Nat) (h : n ≤ c) (w : World) : (Instr.slice 43 (.slice po n c) none (some (.int .i64 (n : Int))) (some (.int .i64 (n : Int)))).run Try.prog w = .ok (.slice po n n) w := by
  rw [run_slice_hm (P := Try.prog) w 43 po n c underEP .i64 .i64 (n : Int) (n : Int) (by omega) (by omega) (by omega), elemP]
  cases po with
  | none => simp [Result.andThen, sliced]
  | some a =>
    by_cases h0 : n = 0
    · simp [Result.andThen, sliced, h0]
    · simp [Result.andThen, sliced, h0, add_zero']
theorem clipP_any (po : Option Addr) (n c : Nat) (hc : n ≤ c) (w : World) : Calls Try.prog 66 #[.slice po n c] w fun e w' => e = .returned (.slice po n n) ∧ w' = w := by
  have hs := run_clipP po n c hc
  go_enter Try.func66, Try.ntmps66
  go_wp2
  go_ret
  exact ⟨rfl, rfl⟩
/-- How many parts there are, and these. -/
def rdP (s : Option (List Nat)) : Option (Ps × List Nat) := s.bind fun L => (rdU L).bind fun q => if 32 < q.1 then none else rdPs q.1 q.2
def ParS (w : World) (p : Nat) (s : Option (List Nat)) (e : Ending) (w' : World) : Prop :=
  ∃ (v : Value) (ps : Ps), e = .returned v ∧ PLF w.heap.size w' v ps ∧ Rd w' p ((rdP s).map (·.2)) ∧ Only (fun b => b = p) w w' ∧ ∀ qs r, rdP s = some (qs, r) → ps = qs
theorem rdP_none {s : Option (List Nat)} (h : s.bind rdU = none) : rdP s = none := by
  unfold rdP
  cases s with
  | none => rfl
  | some L => have h' : rdU L = none := h; simp [h']
theorem rdP_some {s : Option (List Nat)} {n : Nat} {c : List Nat} (h : s.bind rdU = some (n, c)) : rdP s = if 32 < n then none else rdPs n c := by
  unfold rdP
  cases s with
  | none => cases h
  | some L => have h' : rdU L = some (n, c) := h; simp [h']
theorem PBuf.keep {B : Nat} {w w' : World} {v : Value} {ps : Ps} (h : PBuf B w v ps) (hk : ∀ b, v.ownBlock = some b → w'.heap[b]? = w.heap[b]?) : PBuf B w' v ps := ownsRow_keep h hk
set_option maxRecDepth 100000 in
set_option maxHeartbeats 1000000 in
theorem parts_bad (w : World) (p : Nat) (s : Option (List Nat)) (h : Rd w p s) (hq : ∀ n c, s.bind rdU = some (n, c) → 32 < n) : Calls Try.prog 69 #[ptr p] w (ParS w p s) := by
  have hnum := number_any w p s h
  have HP : Hid (rdP s = none) := by
    cases hs : s.bind rdU with
    | none => exact rdP_none hs
    | some q => obtain ⟨n, c⟩ := q; have e := rdP_some hs; rw [if_pos (hq n c hs)] at e; exact e
  clear h
  cases hs : s.bind rdU with
  | none =>
    have HS := hid hs
    clear hs hq
    go_enter Try.func69, Try.ntmps69
    go_wp2_with (first
      | (go_at_call 41; refine hnum.mono ?_; rintro e w1 ⟨v, rfl, hr1, ho1, _⟩; rw [HS.out] at hr1; have HR1 := hid hr1; have HO1 := hid ho1; clear hr1 ho1)
      | (go_at_call 59; refine (need_gone _ p _ HR1.out).mono ?_; rintro e w2 ⟨rfl, hw2⟩; have hw3 := hw2.symm; subst hw3))
    obtain ⟨po1, L1, k1, _⟩ := HR1.out
    have c1 := k1.cell 1
    simp at c1
    clear k1
    refine wp_loop_rounds 1 ?_
    rw [rounds_succ]
    by_cases hv : (0 : Int) < v <;>
    · go_wp2_with (go_at_call 66; refine (clipP_any none 0 0 (Nat.le_refl _) _).mono ?_; rintro e w2 ⟨rfl, hw2⟩; have hw3 := hw2.symm; subst hw3)
      go_ret
      exact ⟨_, [], rfl, PLF.nil _ _, by rw [HP.out]; exact HR1.out, HO1.out, fun qs r h => by rw [HP.out] at h; cases h⟩
  | some q =>
    obtain ⟨n, c⟩ := q
    have hbig := hq n c hs
    have hbig' : ¬ (n : Int) ≤ 32 := by omega
    have HS := hid hs
    clear hs hq
    go_enter Try.func69, Try.ntmps69
    go_wp2_with (first
      | (go_at_call 41; refine hnum.mono ?_; rintro e w1 ⟨v, rfl, hr1, ho1, hv⟩; have hv2 := hv n c HS.out; subst hv2; rw [HS.out] at hr1; have HR1 := hid hr1; have HO1 := hid ho1; clear hr1 ho1 hv)
      | (go_at_call 59; refine (need_any _ p _ _ HR1.out).mono ?_; rintro e w2 ⟨rfl, hr2, ho2⟩; have HR2 : Hid (Rd w2 p none) := hid (by have hz : ¬ ((n : Int) ≤ 32) := (by omega); simpa [hz] using hr2); have HO2 := hid ho2; clear hr2 ho2))
    obtain ⟨po1, L1, k1, _⟩ := HR2.out
    have c1 := k1.cell 1
    simp at c1
    clear k1
    refine wp_loop_rounds 1 ?_
    rw [rounds_succ]
    go_wp2_with (go_at_call 66; refine (clipP_any none 0 0 (Nat.le_refl _) _).mono ?_; rintro e w3 ⟨rfl, hw2⟩; have hw3 := hw2.symm; subst hw3)
    go_ret
    exact ⟨_, [], rfl, PLF.nil _ _, by rw [HP.out]; exact HR2.out, HO1.out.trans HO2.out, fun qs r h => by rw [HP.out] at h; cases h⟩
end Go.Proofs.Ytepkpkbgmchioaa
