/- Texts laid into one: the remark ahead of each part says what is proved there. -/
import Derived.Test.YtepkpkbgmchioaaGd
import Derived.Test.YtepkpkbgmchioaaGb
import Derived.Deep.MidRow
import Derived.Laws.Tables
import Derived.Laws.Rows
/- Contract of parts of the reader of package record. -/
namespace Go.Proofs.Ytepkpkbgmchioaa
open Go Go.RowKit

def flatP (ps : Ps) : List Value := ps.flatMap fun p => [i64 p.1, i64 p.2]
theorem flatP_len (ps : Ps) : (flatP ps).length = ps.length * 2 := by
  induction ps with
  | nil => rfl
  | cons p r ih => simp [flatP] at ih ⊢; omega
theorem flatP_get : ∀ (ps : Ps) (i : Nat), i < ps.length → (flatP ps)[i * 2]? = some (i64 (ps.getD i (0, 0)).1) ∧ (flatP ps)[i * 2 + 1]? = some (i64 (ps.getD i (0, 0)).2)
  | [], i, h => by simp at h
  | p :: r, 0, _ => by simp [flatP]
  | p :: r, i + 1, h => by
    have ih := flatP_get r i (by simpa using h)
    have e : flatP (p :: r) = i64 p.1 :: i64 p.2 :: flatP r := rfl
    rw [e, show (i + 1) * 2 = i * 2 + 1 + 1 by omega]
    simpa using ih
/-- Parts in a row of their own. -/
def PBuf (B : Nat) (w : World) (v : Value) (ps : Ps) : Prop := w.ownsRow B 53 2 v ps.length (flatP ps)
theorem Try.infoP : (Try.prog.info? 53).map (fun i => (i.zero, i.size, i.bytes)) = some (some (.agg #[.int .i64 0, .int .i64 0]), 2, 16) := by kernel_rfl
/-- Parts in memory of no block below B. -/
def PLF (B : Nat) (w : World) (v : Value) (ps : Ps) : Prop := PL w v ps ∧ ∀ a n c, v = .slice (some a) n c → ps ≠ [] → B ≤ a.block
theorem PLF.nil (B : Nat) (w : World) : PLF B w (.slice none 0 0) [] := ⟨PL.nil w, fun _ _ _ _ h => (h rfl).elim⟩
theorem PLF.only {B : Nat} {w w' : World} {v : Value} {ps : Ps} {S : Nat → Prop} (h : PLF B w v ps) (hO : Only S w w') (hS : ∀ i, S i → i < B) : PLF B w' v ps := by
  obtain ⟨⟨po, c, h1, h2, h3, h⟩, hB⟩ := h
  refine ⟨⟨po, c, h1, h2, h3, ?_⟩, hB⟩
  rcases h with h | ⟨b, o, hp, h⟩
  · exact Or.inl h
  · refine Or.inr ⟨b, o, hp, fun i hi => ?_⟩
    have hb : B ≤ b := hB ⟨b, o, none⟩ _ _ (by rw [h1, hp]) (fun e => by rw [e] at hi; cases hi)
    have hk : w'.heap[b]? = w.heap[b]? := hO.block b (cell_lt' (a := ⟨b, o + i * 2, none⟩) (by rw [(h i hi).1]; simp)) (fun e => by have := hS _ e; omega)
    exact ⟨(World.cell?_of_block (a := ⟨b, o + i * 2, none⟩) hk).trans (h i hi).1, (World.cell?_of_block (a := ⟨b, o + i * 2 + 1, none⟩) hk).trans (h i hi).2⟩
theorem PBuf.nil (B : Nat) (w : World) : PBuf B w (.slice none 0 0) [] := World.ownsRow_nil w B _ 2
theorem PBuf.form {B : Nat} {w : World} {v : Value} {ps : Ps} (h : PBuf B w v ps) : ∃ po c, v = .slice po ps.length c ∧ ps.length ≤ c := by
  rcases h.2 with ⟨rfl, h0⟩ | ⟨g, cap, cur, rfl, _, _, h1, _⟩
  · exact ⟨none, 0, by rw [h0], by omega⟩
  · exact ⟨_, cap, rfl, h1⟩
theorem PBuf.pl {B : Nat} {w : World} {po : Option Addr} {n c : Nat} {ps : Ps} (h : PBuf B w (.slice po n c) ps) (hn : ps.length ≤ 100000) (c' : Nat) (hc : ps.length ≤ c') : n = ps.length ∧ PLF B w (.slice po ps.length c') ps := by
  rcases h.2 with ⟨e, h0⟩ | ⟨g, cap, cur, e, hB, hg, h1, _, h3, h4⟩
  · simp at e
    exact ⟨by omega, ⟨po, c', rfl, hc, hn, Or.inl (List.eq_nil_of_length_eq_zero h0)⟩, fun a n c _ h => (h (List.eq_nil_of_length_eq_zero h0)).elim⟩
  · cases e
    refine ⟨rfl, ⟨_, c', rfl, hc, hn, Or.inr ⟨g, 0, rfl, fun i hi => ?_⟩⟩, fun a n c h _ => by cases h; exact hB⟩
    have hc2 : CAt w g cur 53 := hg
    obtain ⟨a1, a2⟩ := flatP_get ps i hi
    rw [← h4] at a1 a2
    rw [Nat.zero_add, hc2.cell, hc2.cell]
    constructor
    · rw [List.getElem?_take, if_pos (by omega)] at a1; simpa using a1
    · rw [List.getElem?_take, if_pos (by omega)] at a2; simpa using a2
theorem PBuf.push {B : Nat} {w : World} {v : Value} {ps : Ps} (h : PBuf B w v ps) (x y : Int) (hn : ps.length ≤ 1000000) (hB : B ≤ w.heap.size) :
    ∃ v' w', (Builtin.append_ #[43, 43] 43 #[v, .slice (some ⟨w.heap.size, 0, none⟩) 1 1]).run Try.prog (w.alloc (.cells #[i64 x, i64 y] 53)) = .ok v' w' ∧ PBuf B w' v' (ps ++ [(x, y)]) ∧ (w.alloc (.cells #[i64 x, i64 y] 53)).grownBy w' v.ownBlock := by
  obtain ⟨i0, hi0, hz0, hz1, hz2⟩ := info_parts Try.infoP
  have h2 : (w.alloc (.cells #[i64 x, i64 y] 53)).ownsRow B 53 2 v ps.length (flatP ps) := h.alloc _
  have hc : CAt (w.alloc (.cells #[i64 x, i64 y] 53)) w.heap.size #[i64 x, i64 y] 53 := CAt.made w _ _
  obtain ⟨v', w', hr, h3, h4, _, _⟩ := run_append_own_at (P := Try.prog) (w.alloc (.cells #[i64 x, i64 y] 53)) B 43 43 53 i0 _ 2 16 Try.underlying43 hi0 hz0 hz1 hz2 rfl (by decide) v ps.length (flatP ps) h2 ⟨w.heap.size, 0, none⟩ 1 1 [i64 x, i64 y] rfl (fun j u hj => by
      rw [add_none, Nat.zero_add, hc.cell]
      rcases j with _ | _ | j
      · simpa using hj
      · simpa using hj
      · simp at hj) (by intro u hu; simp at hu; rcases hu with rfl | rfl <;> rfl) (by unfold maxLen; omega) (by omega) (by rw [size_al]; omega)
  refine ⟨v', w', hr, ?_, h4⟩
  unfold PBuf
  rw [show flatP (ps ++ [(x, y)]) = flatP ps ++ [i64 x, i64 y] by simp [flatP]]
  simpa using h3
theorem elemP (w : World) : (sizeOf (Try.prog.elem 43)).run Try.prog w = .ok 2 w := by
  have hi : (Try.prog.info? (Try.prog.elem 43)).map (·.size) = some 2 := by kernel_rfl
  obtain ⟨i, h1, h2⟩ := Option.map_eq_some_iff.1 hi
  simp [sizeOf, typeInfo, h1, h2]
theorem underEP : Try.prog.underlying 43 = some (.slice (Try.prog.elem 43)) := by kernel_rfl
theorem run_clipP (po : Option Addr) (n c : Nat) (h : n ≤ c) (w : World) : (Instr.slice 43 (.slice po n c) none (some (.int .i64 (n : Int))) (some (.int .i64 (n : Int)))).run Try.prog w = .ok (.slice po n n) w := by
  rw [run_slice_hm (P := Try.prog) w 43 po n c underEP .i64 .i64 (n : Int) (n : Int) (by omega) (by omega) (by omega), elemP]
  cases po with
  | none => simp [Result.andThen, sliced]
  | some a =>
    by_cases h0 : n = 0
    · simp [Result.andThen, sliced, h0]
    · simp [Result.andThen, sliced, h0, add_zero']
theorem clipP_any (po : Option Addr) (n c : Nat) (hc : n ≤ c) (w : World) : Calls Try.prog 66 #[.slice po n c] w fun e w' => e = .returned (.slice po n n) ∧ w' = w := by
  have hs := run_clipP po n c hc
  go_enter Try.func66, Try.ntmps66
  go_wp2
  go_ret
  exact ⟨rfl, rfl⟩
/-- How many parts there are, and these. -/
def rdP (s : Option (List Nat)) : Option (Ps × List Nat) := s.bind fun L => (rdU L).bind fun q => if 32 < q.1 then none else rdPs q.1 q.2
def ParS (w : World) (p : Nat) (s : Option (List Nat)) (e : Ending) (w' : World) : Prop :=
  ∃ (v : Value) (ps : Ps), e = .returned v ∧ PLF w.heap.size w' v ps ∧ Rd w' p ((rdP s).map (·.2)) ∧ Only (fun b => b = p) w w' ∧ ∀ qs r, rdP s = some (qs, r) → ps = qs
theorem rdP_none {s : Option (List Nat)} (h : s.bind rdU = none) : rdP s = none := by
  unfold rdP
  cases s with
  | none => rfl
  | some L => have h' : rdU L = none := h; simp [h']
theorem rdP_some {s : Option (List Nat)} {n : Nat} {c : List Nat} (h : s.bind rdU = some (n, c)) : rdP s = if 32 < n then none else rdPs n c := by
  unfold rdP
  cases s with
  | none => cases h
  | some L => have h' : rdU L = some (n, c) := h; simp [h']
theorem PBuf.keep {B : Nat} {w w' : World} {v : Value} {ps : Ps} (h : PBuf B w v ps) (hk : ∀ b, v.ownBlock = some b → w'.heap[b]? = w.heap[b]?) : PBuf B w' v ps := ownsRow_keep h hk
set_option maxRecDepth 100000 in
set_option maxHeartbeats 1000000 in
theorem parts_bad (w : World) (p : Nat) (s : Option (List Nat)) (h : Rd w p s) (hq : ∀ n c, s.bind rdU = some (n, c) → 32 < n) : Calls Try.prog 69 #[ptr p] w (ParS w p s) := by
  have hnum := number_any w p s h
  have HP : Hid (rdP s = none) := by
    cases hs : s.bind rdU with
    | none => exact rdP_none hs
    | some q => obtain ⟨n, c⟩ := q; have e := rdP_some hs; rw [if_pos (hq n c hs)] at e; exact e
  clear h
  cases hs : s.bind rdU with
  | none =>
    have HS := hid hs
    clear hs hq
    go_enter Try.func69, Try.ntmps69
    go_wp2_with (first
      | (go_at_call 41; refine hnum.mono ?_; rintro e w1 ⟨v, rfl, hr1, ho1, _⟩; rw [HS.out] at hr1; have HR1 := hid hr1; have HO1 := hid ho1; clear hr1 ho1)
      | (go_at_call 59; refine (need_gone _ p _ HR1.out).mono ?_; rintro e w2 ⟨rfl, hw2⟩; have hw3 := hw2.symm; subst hw3))
    obtain ⟨po1, L1, k1, _⟩ := HR1.out
    have c1 := k1.cell 1
    simp at c1
    clear k1
    refine wp_loop_rounds 1 ?_
    rw [rounds_succ]
    by_cases hv : (0 : Int) < v <;>
    · go_wp2_with (go_at_call 66; refine (clipP_any none 0 0 (Nat.le_refl _) _).mono ?_; rintro e w2 ⟨rfl, hw2⟩; have hw3 := hw2.symm; subst hw3)
      go_ret
      exact ⟨_, [], rfl, PLF.nil _ _, by rw [HP.out]; exact HR1.out, HO1.out, fun qs r h => by rw [HP.out] at h; cases h⟩
  | some q =>
    obtain ⟨n, c⟩ := q
    have hbig := hq n c hs
    have hbig' : ¬ (n : Int) ≤ 32 := by omega
    have HS := hid hs
    clear hs hq
    go_enter Try.func69, Try.ntmps69
    go_wp2_with (first
      | (go_at_call 41; refine hnum.mono ?_; rintro e w1 ⟨v, rfl, hr1, ho1, hv⟩; have hv2 := hv n c HS.out; subst hv2; rw [HS.out] at hr1; have HR1 := hid hr1; have HO1 := hid ho1; clear hr1 ho1 hv)
      | (go_at_call 59; refine (need_any _ p _ _ HR1.out).mono ?_; rintro e w2 ⟨rfl, hr2, ho2⟩; have HR2 : Hid (Rd w2 p none) := hid (by have hz : ¬ ((n : Int) ≤ 32) := (by omega); simpa [hz] using hr2); have HO2 := hid ho2; clear hr2 ho2))
    obtain ⟨po1, L1, k1, _⟩ := HR2.out
    have c1 := k1.cell 1
    simp at c1
    clear k1
    refine wp_loop_rounds 1 ?_
    rw [rounds_succ]
    go_wp2_with (go_at_call 66; refine (clipP_any none 0 0 (Nat.le_refl _) _).mono ?_; rintro e w3 ⟨rfl, hw2⟩; have hw3 := hw2.symm; subst hw3)
    go_ret
    exact ⟨_, [], rfl, PLF.nil _ _, by rw [HP.out]; exact HR2.out, HO1.out.trans HO2.out, fun qs r h => by rw [HP.out] at h; cases h⟩
end Go.Proofs.Ytepkpkbgmchioaa

/- Contract of parts of the reader of package record: the loop. -/
namespace Go.Proofs.Ytepkpkbgmchioaa
open Go Go.RowKit

/-- So many parts have been read; what is left of them. -/
def PAcc (n : Nat) (c : List Nat) (k : Nat) (qs : Ps) (st : Option (List Nat)) : Prop := qs.length = k ∧ match st with
  | none => rdPs n c = none
  | some d => rdPs n c = (rdPs (n - k) d).map fun q => (qs ++ q.1, q.2)
theorem PAcc.start (n : Nat) (c : List Nat) : PAcc n c 0 [] (some c) := ⟨rfl, by simp⟩
theorem rdPs_succ (n : Nat) (b : List Nat) : rdPs (n + 1) b = (rdU b).bind fun q => (rdU q.2).bind fun q2 => (rdPs n q2.2).bind fun q3 => some (((q.1 : Int), (q2.1 : Int)) :: q3.1, q3.2) := by
  rw [rdPs]; rfl
theorem PAcc.next {n k : Nat} {c d : List Nat} {qs : Ps} (h : PAcc n c k qs (some d)) (hk : k < n) {x y : Int} (hx : ∀ m r, rdU d = some (m, r) → x = m) (hy : ∀ m r, ((rdU d).map (·.2)).bind rdU = some (m, r) → y = m) :
    PAcc n c (k + 1) (qs ++ [(x, y)]) ((((rdU d).map (·.2)).bind rdU).map (·.2)) := by
  refine ⟨by simp [h.1], ?_⟩
  have h2 : rdPs n c = (rdPs (n - k) d).map fun q => (qs ++ q.1, q.2) := h.2
  rw [show n - k = (n - (k + 1)) + 1 by omega, rdPs_succ] at h2
  cases e1 : rdU d with
  | none => rw [e1] at h2; exact h2
  | some q =>
    obtain ⟨m1, d1⟩ := q
    rw [e1] at h2 hy
    simp only [Option.map_some, Option.bind_some] at h2 hy ⊢
    have hx' := hx m1 d1 e1
    cases e2 : rdU d1 with
    | none => rw [e2] at h2; exact h2
    | some q2 =>
      obtain ⟨m2, d2⟩ := q2
      rw [e2] at h2
      have hy' := hy m2 d2 e2
      simp only [Option.bind_some, Option.map_some] at h2 ⊢
      rw [h2, hx', hy']
      cases rdPs (n - (k + 1)) d2 with
      | none => rfl
      | some q3 => simp
theorem Rd.bind (s : Option (List Nat)) : (s.bind rdU).map (·.2) = s.bind fun L => (rdU L).map (·.2) := by cases s <;> rfl
set_option maxRecDepth 100000 in
set_option maxHeartbeats 2000000 in
theorem parts_ok (w : World) (p : Nat) (s : Option (List Nat)) (h : Rd w p s) (n : Nat) (c : List Nat) (hs : s.bind rdU = some (n, c)) (hn : n ≤ 32) : Calls Try.prog 69 #[ptr p] w (ParS w p s) := by
  have hnum := number_any w p s h
  have HP : Hid (rdP s = rdPs n c) := by have e := rdP_some hs; rw [if_neg (by omega)] at e; exact e
  have hp := h.lt
  have HS := hid hs
  have hn' : (n : Int) ≤ 32 := by omega
  clear h hs
  go_enter Try.func69, Try.ntmps69
  go_wp2_with (first
    | (go_at_call 41; refine hnum.mono ?_; rintro e w1 ⟨v, rfl, hr1, ho1, hv⟩; have hv2 := hv n c HS.out; subst hv2; rw [HS.out] at hr1; have HR1 := hid hr1; have HO1 := hid ho1; clear hr1 ho1 hv)
    | (go_at_call 59; refine (need_true _ p).mono ?_; rintro e w2 ⟨rfl, hw2⟩; have hw3 := hw2.symm; subst hw3))
  go_loopw [4] (fun pv wr => ∃ (k : Nat) (qs : Ps) (st : Option (List Nat)), k ≤ n ∧ PBuf w.heap.size wr pv qs ∧ Rd wr p st ∧ Only (fun b => b = p) w wr ∧ PAcc n c k qs st) (fun pv _ => n - (match pv with | .slice _ l _ => l | _ => 0))
  case atStart => exact ⟨0, [], some c, by omega, PBuf.nil _ _, HR1.out, HO1.out, PAcc.start n c⟩
  case round =>
    obtain ⟨k, qs, st, hk, hb, hr, ho, ha⟩ := hrel
    have HB := hid hb
    have HR := hid hr
    have HO := hid ho
    have HA := hid ha
    have hlen := ha.1
    obtain ⟨po, cc, hform, hcc⟩ := hb.form
    subst hform
    obtain ⟨po1, L1, k1, _⟩ := hr
    have c1 := k1.cell 1
    clear k1 hb ho HR1 HO1
    rw [hlen] at hcc ⊢
    by_cases hlt : k < n
    · have hlt' : (k : Int) < (n : Int) := by omega
      cases st with
      | none =>
        simp at c1
        have HN : Hid (rdPs n c = none) := ha.2
        clear ha
        go_wp2_with (go_at_call 66; refine (clipP_any po k cc hcc _).mono ?_; rintro e w2 ⟨rfl, hw2⟩; have hw3 := hw2.symm; subst hw3)
        go_ret
        have hpl := (HB.out.pl (by omega) k (by omega)).2
        rw [hlen] at hpl
        refine ⟨_, qs, rfl, hpl, by rw [HP.out, HN.out]; exact HR.out, HO.out, fun qs r h => by rw [HP.out, HN.out] at h; cases h⟩
      | some d =>
        simp at c1
        clear ha
        have HOW := hid (fun b (hb : (Value.slice po k cc).ownBlock = some b) => own_ge (by have := HB.out; rw [hlen] at this; exact this) b hb)
        go_wp2_with (first
          | (go_at_call 41; refine (number_any _ p _ HR2.out).mono ?_; rintro e w3 ⟨y, rfl, hr3, ho3, hy⟩; have HR3 := hid hr3; have HO3 := hid (HO2.out.trans ho3); have HY := hid hy; clear hr3 ho3 hy; have hkeep := HB.out.keep (w' := w3) (fun b hb => HO3.out.block b (own_ge HB.out b hb).2 (fun e => by have := (own_ge HB.out b hb).1; omega)); rw [hlen] at hkeep; obtain ⟨v4, w4, hrun, hpb, hgr⟩ := hkeep.push x y (by omega) (by have := HO.out.size; have := HO3.out.size; omega); have HRUN := hid hrun; have HPB := hid hpb; have HGR := hid hgr; clear hkeep hrun hpb hgr)
          | (go_at_call 41; refine (number_any _ p _ HR.out).mono ?_; rintro e w2 ⟨x, rfl, hr2, ho2, hx⟩; have HR2 := hid hr2; have HO2 := hid ho2; have HX := hid hx; clear hr2 ho2 hx)
          | (at_builtin; refine wpList_append_run _ _ 43 43 rfl rfl _ _ _ rfl rfl HRUN.out ?_))
        have hgo : Only (fun b => (Value.slice po k cc).ownBlock = some b) w3 w4 := (Only.alloc w3 _).trans (Only.of_grown HGR.out fun b e _ => e)
        have hT : ∀ i, i < w.heap.size → (Value.slice po k cc).ownBlock = some i → i = p := fun i hi e => by have := (HOW.out i e).1; omega
        have hlt4 : ∀ i, (Value.slice po k cc).ownBlock = some i → p < i := fun i e => by have := (HOW.out i e).1; omega
        obtain ⟨po4, c4, hf4, _⟩ := HPB.out.form
        refine ⟨⟨k + 1, qs ++ [(x, y)], _, by omega, HPB.out, HR3.out.only hgo hlt4, (HO.out.trans HO3.out).then hgo hT, ?_⟩, ?_⟩
        · exact HA.out.next hlt (fun m r h => HX.out m r h) (fun m r h => HY.out m r h)
        · rw [hf4]; simp [hlen]; omega
    · have hlt' : ¬ (k : Int) < (n : Int) := by omega
      have HK2 : Hid (k = n) := hid (by omega)
      go_wp2_with (go_at_call 66; refine (clipP_any po k cc hcc _).mono ?_; rintro e w2 ⟨rfl, hw2⟩; have hw3 := hw2.symm; subst hw3)
      go_ret
      have hpl := (HB.out.pl (by omega) k (by omega)).2
      rw [hlen] at hpl
      cases st with
      | none =>
        have HN : rdPs n c = none := HA.out.2
        exact ⟨_, qs, rfl, hpl, by rw [HP.out, HN]; exact HR.out, HO.out, fun qs r h => by rw [HP.out, HN] at h; cases h⟩
      | some d =>
        have HN : rdPs n c = (rdPs (n - k) d).map fun q => (qs ++ q.1, q.2) := HA.out.2
        rw [HK2.out, Nat.sub_self] at HN
        have HN2 : rdPs n c = some (qs, d) := by rw [HN]; simp [rdPs]
        exact ⟨_, qs, rfl, hpl, by rw [HP.out, HN2]; exact HR.out, HO.out, fun qs' r h => by rw [HP.out, HN2] at h; cases h; rfl⟩
theorem parts_any (w : World) (p : Nat) (s : Option (List Nat)) (h : Rd w p s) : Calls Try.prog 69 #[ptr p] w (ParS w p s) := by
  cases hs : s.bind rdU with
  | none => exact parts_bad w p s h fun n c e => by rw [hs] at e; cases e
  | some q =>
    obtain ⟨n, c⟩ := q
    by_cases hn : n ≤ 32
    · exact parts_ok w p s h n c hs hn
    · exact parts_bad w p s h fun n' c' e => by rw [hs] at e; cases e; omega
#print axioms parts_any
end Go.Proofs.Ytepkpkbgmchioaa

/- A record in memory, field by field written. -/
namespace Go.Proofs.Ytepkpkbgmchioaa
open Go Go.RowKit

theorem Rv.toL (r : Rv) : r.cs.toList = [.string r.id, i64 r.time, .bool r.mark, i64 r.size, .string r.etag, i64 r.k, i64 r.m, .string r.data] ++ (r.sum.map u8 ++ [r.pv, .string r.up]) := by simp [Rv.cs, sumC]
theorem set_lo (r s : Rv) (i : Nat) (v : Value) (hi : i < 8) (h : s.sum = r.sum ∧ s.pv = r.pv ∧ s.up = r.up)
    (he : ([.string r.id, i64 r.time, .bool r.mark, i64 r.size, .string r.etag, i64 r.k, i64 r.m, .string r.data] : List Value).set i v = [.string s.id, i64 s.time, .bool s.mark, i64 s.size, .string s.etag, i64 s.k, i64 s.m, .string s.data]) : r.cs.setIfInBounds i v = s.cs := by
  apply Array.toList_inj.1
  rw [Array.toList_setIfInBounds, Rv.toL, Rv.toL, List.set_append_left _ _ (by simpa using hi), he, h.1, h.2.1, h.2.2]
section
variable {w : World} {g : Nat} {r : Rv} (h : RBox w g r) (ho : r.ok)
include h ho
theorem RBox.set2 (b : Bool) : RBox (w.setCell ⟨g, 2, none⟩ (.bool b)) g { r with mark := b } := RBox.mk' ⟨ho.sl, ho.s8, ho.i, ho.e, ho.d, ho.u⟩ (by rw [← set_lo r { r with mark := b } 2 (.bool b) (by omega) ⟨rfl, rfl, rfl⟩ rfl]; exact h.at_.set 2 _)
theorem RBox.set3 (n : Int) : RBox (w.setCell ⟨g, 3, none⟩ (i64 n)) g { r with size := n } := RBox.mk' ⟨ho.sl, ho.s8, ho.i, ho.e, ho.d, ho.u⟩ (by rw [← set_lo r { r with size := n } 3 (i64 n) (by omega) ⟨rfl, rfl, rfl⟩ rfl]; exact h.at_.set 3 _)
theorem RBox.set4 (s : ByteArray) (hs : s.size ≤ 100000) : RBox (w.setCell ⟨g, 4, none⟩ (.string s)) g { r with etag := s } := RBox.mk' ⟨ho.sl, ho.s8, ho.i, hs, ho.d, ho.u⟩ (by rw [← set_lo r { r with etag := s } 4 (.string s) (by omega) ⟨rfl, rfl, rfl⟩ rfl]; exact h.at_.set 4 _)
theorem RBox.set5 (n : Int) : RBox (w.setCell ⟨g, 5, none⟩ (i64 n)) g { r with k := n } := RBox.mk' ⟨ho.sl, ho.s8, ho.i, ho.e, ho.d, ho.u⟩ (by rw [← set_lo r { r with k := n } 5 (i64 n) (by omega) ⟨rfl, rfl, rfl⟩ rfl]; exact h.at_.set 5 _)
theorem RBox.set6 (n : Int) : RBox (w.setCell ⟨g, 6, none⟩ (i64 n)) g { r with m := n } := RBox.mk' ⟨ho.sl, ho.s8, ho.i, ho.e, ho.d, ho.u⟩ (by rw [← set_lo r { r with m := n } 6 (i64 n) (by omega) ⟨rfl, rfl, rfl⟩ rfl]; exact h.at_.set 6 _)
theorem RBox.set7 (s : ByteArray) (hs : s.size ≤ 100000) : RBox (w.setCell ⟨g, 7, none⟩ (.string s)) g { r with data := s } := RBox.mk' ⟨ho.sl, ho.s8, ho.i, ho.e, hs, ho.u⟩ (by rw [← set_lo r { r with data := s } 7 (.string s) (by omega) ⟨rfl, rfl, rfl⟩ rfl]; exact h.at_.set 7 _)
theorem RBox.set40 (v : Value) : RBox (w.setCell ⟨g, 40, none⟩ v) g { r with pv := v } := RBox.mk' ⟨ho.sl, ho.s8, ho.i, ho.e, ho.d, ho.u⟩ (by
  have e : r.cs.setIfInBounds 40 v = ({ r with pv := v } : Rv).cs := by
    apply Array.toList_inj.1
    rw [Array.toList_setIfInBounds, Rv.toL, Rv.toL, List.set_append_right _ _ (by simp), List.set_append_right _ _ (by simp [ho.sl])]
    simp [ho.sl]
  rw [← e]; exact h.at_.set 40 _)
theorem RBox.set41 (s : ByteArray) (hs : s.size ≤ 100000) : RBox (w.setCell ⟨g, 41, none⟩ (.string s)) g { r with up := s } := RBox.mk' ⟨ho.sl, ho.s8, ho.i, ho.e, ho.d, hs⟩ (by
  have e : r.cs.setIfInBounds 41 (.string s) = ({ r with up := s } : Rv).cs := by
    apply Array.toList_inj.1
    rw [Array.toList_setIfInBounds, Rv.toL, Rv.toL, List.set_append_right _ _ (by simp), List.set_append_right _ _ (by simp [ho.sl])]
    simp [ho.sl]
  rw [← e]; exact h.at_.set 41 _)
end
/-- Cells set one behind the other. -/
def setAll (cs : List Value) (o : Nat) : List Value → List Value
  | [] => cs
  | v :: r => setAll (cs.set o v) (o + 1) r
theorem CAt.setCells {b : Nat} {t : TypeId} : ∀ (vs : List Value) (o : Nat) (cs : Array Value) (w : World), CAt w b cs t → CAt (w.setCells b o vs) b (setAll cs.toList o vs).toArray t
  | [], o, cs, w, h => by simpa [World.setCells, setAll] using h
  | v :: r, o, cs, w, h => by
    rw [World.setCells, setAll]
    have := CAt.setCells r (o + 1) _ _ (h.set o v)
    rw [Array.toList_setIfInBounds] at this
    exact this
theorem setAll_app (pre : List Value) : ∀ (vs mid suf : List Value), vs.length = mid.length → setAll (pre ++ (mid ++ suf)) pre.length vs = pre ++ (vs ++ suf)
  | [], mid, suf, h => by
    have : mid = [] := List.eq_nil_of_length_eq_zero (by simpa using h.symm)
    subst this; rfl
  | v :: r, [], suf, h => by simp at h
  | v :: r, m :: mid, suf, h => by
    rw [setAll]
    have e : (pre ++ (m :: mid ++ suf)).set pre.length v = (pre ++ [v]) ++ (mid ++ suf) := by
      rw [List.set_append_right _ _ (Nat.le_refl _)]; simp
    rw [e]
    have := setAll_app (pre ++ [v]) r mid suf (by simpa using h)
    rw [List.length_append] at this
    rw [show pre.length + 1 = pre.length + [v].length from rfl, this]
    simp
theorem RBox.setSum {w : World} {g : Nat} {r : Rv} (h : RBox w g r) (ho : r.ok) (x : List Nat) (hx : x.length = 32) (h8 : ∀ z ∈ x, z < 256) : RBox (w.setCells g 8 (x.map u8)) g { r with sum := x } := RBox.mk' ⟨hx, h8, ho.i, ho.e, ho.d, ho.u⟩ (by
  have h2 := CAt.setCells (x.map u8) 8 _ _ h.at_
  have e : (setAll r.cs.toList 8 (x.map u8)).toArray = ({ r with sum := x } : Rv).cs := by
    apply Array.toList_inj.1
    rw [Rv.toL, Rv.toL]
    have := setAll_app [.string r.id, i64 r.time, .bool r.mark, i64 r.size, .string r.etag, i64 r.k, i64 r.m, .string r.data] (x.map u8) (r.sum.map u8) [r.pv, .string r.up] (by simp [hx, ho.sl])
    simpa using this
  rw [e] at h2
  exact h2)
theorem only_setCells {S : Nat → Prop} (w : World) (b o : Nat) (vs : List Value) (h : S b) : Only S w (w.setCells b o vs) := by
  induction vs generalizing o w with
  | nil => exact Only.refl _ _
  | cons v r ih => rw [World.setCells]; exact (Only.set w ⟨b, o, none⟩ v h).trans (ih _ _)
/-- copy(v.Sum[:], 32 bytes) -/
theorem run_copySum {w : World} {g : Nat} {r : Rv} (h : RBox w g r) (ho : r.ok) (po : Option Addr) (x : List Nat) (hx : x.length = 32) (hb : BL w po x) (ty : TypeId) :
    (Builtin.copy_ #[22, 22] ty #[.slice (some ⟨g, 8, none⟩) 32 32, .slice po 32 32]).run Try.prog w = .ok (goInt 32) (w.setCells g 8 (x.map u8)) := by
  rcases hb with rfl | ⟨b, o, rfl, hb⟩
  · simp at hx
  have := run_copy_cells (P := Try.prog) w 22 22 ty 5 g 8 32 32 ⟨b, o, none⟩ 32 32 (x.map u8) Try.underlying22 (by kernel_rfl) (by simp [hx])
    (fun j v hj => by
      have hjn : j < x.length := by
        rcases Nat.lt_or_ge j x.length with q | q
        · exact q
        · rw [List.getElem?_eq_none (by simpa using q)] at hj; cases hj
      rw [add_none, hb j hjn]
      simp [hjn] at hj
      rw [← hj]; simp [List.getD, hjn])
    (fun j hj => by
      have hj' : j < 32 := by simpa [hx] using hj
      rw [h.cs j _ (sumC_get (by rw [ho.sl]; exact hj'))]; rfl)
    (fun j _ => h.free _)
    (fun v hv => by obtain ⟨i, _, rfl⟩ := List.mem_map.1 hv; rfl)
  simp only [List.length_map, hx] at this
  exact this
#print axioms run_copySum
end Go.Proofs.Ytepkpkbgmchioaa

/- What is appended turns nothing else; numbers and texts laid behind bytes once more, by this. -/
namespace Go.Proofs.Ytepkpkbgmchioaa
open Go Go.RowKit

/-- From w0 on the bytes v0 have been appended to: they are L at v now; nothing else that was there has turned. -/
structure AppZ (B : Nat) (v0 : Value) (w0 : World) (L : List Nat) (v : Value) (w : World) : Prop where
  buf : Buf B w v L
  only : Only (fun b => v0.ownBlock = some b) w0 w
  own : ∀ b, v.ownBlock = some b → v0.ownBlock = some b ∨ w0.heap.size ≤ b
theorem AppZ.refl {B : Nat} {v : Value} {w : World} {L : List Nat} (h : Buf B w v L) : AppZ B v w L v w := ⟨h, Only.refl _ _, fun _ h => Or.inl h⟩
theorem AppZ.trans {B : Nat} {v0 v1 v2 : Value} {w0 w1 w2 : World} {L M : List Nat} (h : AppZ B v0 w0 L v1 w1) (k : AppZ B v1 w1 M v2 w2) : AppZ B v0 w0 M v2 w2 :=
  ⟨k.buf, h.only.then k.only fun i hi e => (h.own i e).elim id fun q => by omega, fun b hb => (k.own b hb).elim (h.own b) fun q => Or.inr (Nat.le_trans h.only.size q)⟩
theorem AppZ.below {B : Nat} {v0 v : Value} {w0 w w' : World} {L : List Nat} (h : AppZ B v0 w0 L v w) (hb : Below w.heap.size w w') : AppZ B v0 w0 L v w' :=
  ⟨h.buf.below hb, h.only.trans (Only.of_below hb), h.own⟩
theorem AppZ.start {B : Nat} {v0 v : Value} {w0 w1 w : World} {L : List Nat} (hb : Below w0.heap.size w0 w1) (h : AppZ B v0 w1 L v w) : AppZ B v0 w0 L v w :=
  ⟨h.buf, (Only.of_below hb).trans h.only, fun b e => (h.own b e).imp id fun q => by have := hb.size; omega⟩
theorem Buf.appZ {B : Nat} {w : World} {v : Value} {L : List Nat} (hv : Buf B w v L) (po : Option Addr) (c : Nat) (bs : List Nat) (hb : BL w po bs) (hc : po = none → c = 0) (hn : L.length + bs.length ≤ 2000000) (hB : B ≤ w.heap.size) :
    ∃ v' w', (Builtin.append_ #[22, 22] 22 #[v, .slice po bs.length c]).run Try.prog w = .ok v' w' ∧ AppZ B v w (L ++ bs) v' w' := by
  obtain ⟨i0, hi0, hz0, hz1, hz2⟩ := info_parts Try.info5
  cases po with
  | none =>
    have : bs = [] := by rcases hb with h | ⟨b, o, h, _⟩
                         · exact h
                         · cases h
    subst this
    obtain rfl := hc rfl
    exact ⟨v, w, run_append_owned_none (P := Try.prog) (w := w) B 22 22 5 i0 1 Try.underlying22 hi0 v _ _ hv, by rw [List.append_nil]; exact AppZ.refl hv⟩
  | some a =>
    obtain ⟨v', w', hr, h2, h3, _, h4⟩ := run_append_own_at (P := Try.prog) w B 22 22 5 i0 (.int .u8 0) 1 1 Try.underlying22 hi0 hz0 hz1 hz2 rfl (by decide) v L.length (L.map u8) hv a bs.length c (bs.map u8) (by simp) (fun j u hj => by
        have hjl : j < bs.length := by
          rcases Nat.lt_or_ge j bs.length with q | q
          · exact q
          · rw [List.getElem?_eq_none (by simpa using q)] at hj; cases hj
        have e : u = u8 (bs.getD j 0) := by simp [hjl] at hj; rw [← hj]; simp [List.getD, hjl]
        rcases hb with h | ⟨b, o, e2, h⟩
        · subst h; simp at hjl
        · cases e2
          rw [add_none, e]; exact h j hjl) (by intro u hu; simp at hu; obtain ⟨k, _, rfl⟩ := hu; rfl) (by unfold maxLen; omega) (by omega) hB
    refine ⟨v', w', hr, ?_, Only.of_grown h3 fun k e _ => e, fun b e => ?_⟩
    · unfold Buf; rw [List.length_append, List.map_append]; exact h2
    · rcases h4 with h4 | h4
      · exact Or.inl (h4 ▸ e)
      · rw [h4] at e; cases e; exact Or.inr (Nat.le_refl _)
theorem Buf.pushZ {B : Nat} {w : World} {v : Value} {L : List Nat} (hv : Buf B w v L) (k : Nat) (hn : L.length + 1 ≤ 2000000) (hB : B ≤ w.heap.size) :
    ∃ v' w', (Builtin.append_ #[22, 22] 22 #[v, .slice (some ⟨w.heap.size, 0, none⟩) 1 1]).run Try.prog (w.alloc (.cells #[u8 k] 5)) = .ok v' w' ∧ AppZ B v w (L ++ [k]) v' w' := by
  have h2 := hv.below (below_al w (.cells #[u8 k] 5))
  have hc : CAt (w.alloc (.cells #[u8 k] 5)) w.heap.size #[u8 k] 5 := CAt.made w _ _
  obtain ⟨v', w', h3, h4⟩ := h2.appZ (some ⟨w.heap.size, 0, none⟩) 1 [k] (Or.inr ⟨w.heap.size, 0, rfl, fun i hi => by
    have : i = 0 := by simpa using hi
    subst this; rw [Nat.zero_add, hc.cell]; rfl⟩) (by simp) (by simpa using hn) (by rw [size_al]; omega)
  exact ⟨v', w', h3, AppZ.start (below_al w _) h4⟩
theorem appS_where {B : Nat} {w : World} {v : Value} {L : List Nat} (hv : Buf B w v L) (s : ByteArray) (hn : L.length + s.size ≤ 2000000) {v' : Value} {w' : World} (hr : (Builtin.append_ #[22, 9] 22 #[v, .string s]).run Try.prog w = .ok v' w') :
    v'.ownBlock = v.ownBlock ∨ v'.ownBlock = some w.heap.size := by
  obtain ⟨i0, hi0, hz0, hz1, hz2⟩ := info_parts Try.info5
  have hv0 : w.ownsRow B 5 1 v L.length (L.map u8) := hv
  rcases hv0.2 with ⟨rfl, hl⟩ | ⟨g, cap, cur, rfl, hbg, hg, hnc, hcm, hcs, htake⟩
  · by_cases hm : s.size = 0
    · have hf := Lib.run_firstCells_string (P := Try.prog) w 1 s
      rw [hm] at hf
      have h2 : (Builtin.append_ #[22, 9] 22 #[.slice none 0 0, .string s]).run Try.prog w = .ok (.slice none 0 0) w := by
        simp [Builtin.append_, run_underlying Try.underlying22, run_underlying Try.underlying9, sizeOf, typeInfo, hi0, hz1, Builtin.lenOf, hm, hf]
      rw [h2] at hr; cases hr; exact Or.inl rfl
    · have h2 := run_append_nil_string (P := Try.prog) w 22 9 22 5 i0 (.int .u8 0) Try.underlying22 Try.underlying9 hi0 hz0 s (by omega) (by omega) (by rw [hz2]; omega)
      rw [h2] at hr; cases hr; exact Or.inr rfl
  · by_cases hroom : L.length + s.size ≤ cap
    · have h2 := Lib.run_append_room_string (P := Try.prog) w 22 9 22 5 i0 Try.underlying22 Try.underlying9 hi0 hz1 g L.length cap cur hg s hroom (by omega)
      rw [h2] at hr; cases hr; exact Or.inl rfl
    · have holds : ∀ j u, (L.map u8)[j]? = some u → w.cell? ((⟨g, 0, none⟩ : Addr).add j) = some u := hv0.cells (g := g) rfl
      have h2 := Lib.run_append_grow_string (P := Try.prog) w 22 9 22 5 i0 (.int .u8 0) Try.underlying22 Try.underlying9 hi0 hz0 ⟨g, 0, none⟩ L.length cap (L.map u8) (by rw [hz1]; simp) holds s (by omega) (by omega) (by rw [hz2]; exact growslice_fits (by omega) (by omega))
      rw [h2] at hr; cases hr; exact Or.inr rfl
theorem Buf.appSZ {B : Nat} {w : World} {v : Value} {L : List Nat} (hv : Buf B w v L) (s : ByteArray) (hn : L.length + s.size ≤ 2000000) (hB : B ≤ w.heap.size) :
    ∃ v' w', (Builtin.append_ #[22, 9] 22 #[v, .string s]).run Try.prog w = .ok v' w' ∧ AppZ B v w (L ++ lst s) v' w' := by
  obtain ⟨i0, hi0, hz0, hz1, hz2⟩ := info_parts Try.info5
  obtain ⟨v', w', hr, h2, h3, _⟩ := Lib.run_append_own_string (P := Try.prog) w B 22 9 22 5 i0 Try.underlying22 Try.underlying9 hi0 hz0 hz1 hz2 v L.length (L.map u8) hv s (by unfold maxLen; omega) (by omega) hB
  refine ⟨v', w', hr, ?_, Only.of_grown h3 fun k e _ => e, fun b e => ?_⟩
  · unfold Buf; rw [List.length_append, List.map_append, lst_len, ← strCells_lst]; exact h2
  · rcases appS_where hv s hn hr with h4 | h4
    · exact Or.inl (h4 ▸ e)
    · rw [h4] at e; cases e; exact Or.inr (Nat.le_refl _)
def ZS (B : Nat) (v : Value) (w : World) (L : List Nat) (e : Ending) (w' : World) : Prop := ∃ v', e = .returned v' ∧ AppZ B v w L v' w'
set_option maxRecDepth 100000 in
set_option maxHeartbeats 400000 in
theorem appNumZ (B : Nat) (L : List Nat) (v : Value) (n : Nat) (w : World) (hn : n ≤ 1099511627776) (hv : Buf B w v L) (hL : L.length ≤ 1000000) (hB : B ≤ w.heap.size) :
    Calls Try.prog 37 #[v, i64 n] w (ZS B v w (L ++ nb n)) := by
  have HV := hid hv
  have HN := hid (nb_le hn)
  have HB := hid hB
  clear hv hB
  go_enter Try.func37, Try.ntmps37
  go_wp2
  go_loopw [0, 1] (fun b i wr => ∃ (m : Nat) (L' : List Nat), m ≤ n ∧ i = i64 m ∧ L' ++ nb m = L ++ nb n ∧ AppZ B v w L' b wr) (fun b i _ => (intOf i).toNat)
  case atStart => exact ⟨n, L, Nat.le_refl _, rfl, rfl, AppZ.refl HV.out⟩
  case round =>
    obtain ⟨m, L', hm, rfl, hl, hb⟩ := hrel
    have HR := hid hb
    have HE := hid hl
    have hlen := congrArg List.length hl
    rw [List.length_append, List.length_append] at hlen
    have HLN := hid hlen
    have HSZ := hid (show B ≤ wr.heap.size by have := hb.only.size; have := HB.out; omega)
    clear hb hl hlen
    by_cases hlt : (128 : Int) ≤ (m : Int)
    · have hp1 : L'.length + 1 ≤ 2000000 := by have := HLN.out; have := HN.out; omega
      obtain ⟨v', w', hr, hq⟩ := HR.out.buf.pushZ (m % 128 + 128) hp1 HSZ.out
      have HRUN := hid hr
      clear hr hp1
      have hor := or_128 m
      generalize hc : m % 128 + 128 = c at *
      have HC := hid hc
      clear hc
      go_wp2_with (at_builtin; refine wpList_append_run _ _ 22 22 rfl rfl _ _ _ rfl rfl HRUN.out ?_)
      refine ⟨⟨m / 128, L' ++ [c], by omega, by simp, ?_, HR.out.trans hq⟩, by simp [intOf]; omega⟩
      rw [← HE.out, nb_ge (n := m) (by omega), HC.out, List.append_assoc]; rfl
    · have hp1 : L'.length + 1 ≤ 2000000 := by have := HLN.out; have := HN.out; omega
      obtain ⟨v', w', hr, hq⟩ := HR.out.buf.pushZ m hp1 HSZ.out
      have HRUN := hid hr
      clear hr hp1
      go_wp2_with (at_builtin; refine wpList_append_run _ _ 22 22 rfl rfl _ _ _ rfl rfl HRUN.out ?_)
      go_ret
      have e : nb m = [m] := nb_lt (by omega)
      refine ⟨_, rfl, ?_⟩
      rw [← HE.out, e]; exact HR.out.trans hq
theorem appTextZ (B : Nat) (L : List Nat) (v : Value) (s : ByteArray) (w : World) (hn : s.size ≤ 65536) (hv : Buf B w v L) (hL : L.length ≤ 900000) (hB : B ≤ w.heap.size) :
    Calls Try.prog 38 #[v, .string s] w (ZS B v w (L ++ tb (lst s))) := by
  have HV := hid hv
  have HB := hid hB
  clear hv hB
  go_enter Try.func38, Try.ntmps38
  go_wp2_with (first
    | (go_at_call 37; refine (appNumZ B L _ s.size w (by omega) HV.out (by omega) HB.out).mono ?_; rintro e w1 ⟨v1, rfl, hb1⟩; have hlen := nb_le (n := s.size) (by omega); obtain ⟨v2, w2, hr, hb2⟩ := hb1.buf.appSZ s (by rw [List.length_append]; omega) (by have := hb1.only.size; have := HB.out; omega); have HRUN := hid hr; clear hr)
    | (at_builtin; refine wpList_append_run _ _ 22 9 rfl rfl _ _ _ rfl rfl HRUN.out ?_))
  go_ret
  refine ⟨v2, rfl, ?_⟩
  unfold tb; rw [lst_len, ← List.append_assoc]; exact hb1.trans hb2
#print axioms appTextZ
end Go.Proofs.Ytepkpkbgmchioaa

/- Contract of appendVersion of package record. -/
namespace Go.Proofs.Ytepkpkbgmchioaa
open Go Go.RowKit

theorem below_drewN (w : World) (n : Nat) : Below w.heap.size w (w.drewN n) := ⟨rfl, rfl, rfl, Nat.le_refl _, fun _ _ => rfl⟩
theorem below_drew (w : World) : Below w.heap.size w w.drew := (Below.refl _ _).drew
def ZT (B : Nat) (v0 : Value) (w0 : World) (L : List Nat) (e : Ending) (w' : World) : Prop := ∃ v', e = .returned v' ∧ AppZ B v0 w0 L v' w'
section
variable {B : Nat} {v0 v : Value} {w0 w : World} {L : List Nat}
theorem AppZ.num (h : AppZ B v0 w0 L v w) {n : Int} (h0 : 0 ≤ n) (hn : n ≤ 1099511627776) (hL : L.length ≤ 900000) (hB : B ≤ w0.heap.size) (W : World) (hW : Below w.heap.size w W) : Calls Try.prog 37 #[v, i64 n] W (ZT B v0 w0 (L ++ ib n)) := by
  obtain ⟨k, rfl⟩ := Int.eq_ofNat_of_zero_le h0
  have h2 := h.below hW
  exact (appNumZ B L v k W (by omega) h2.buf (by omega) (by have := h2.only.size; omega)).mono fun e w' ⟨v', e1, hz⟩ => ⟨v', e1, h2.trans hz⟩
theorem AppZ.text (h : AppZ B v0 w0 L v w) {s : ByteArray} (hn : s.size ≤ 65536) (hL : L.length ≤ 900000) (hB : B ≤ w0.heap.size) (W : World) (hW : Below w.heap.size w W) : Calls Try.prog 38 #[v, .string s] W (ZT B v0 w0 (L ++ tb (lst s))) := by
  have h2 := h.below hW
  exact (appTextZ B L v s W hn h2.buf hL (by have := h2.only.size; omega)).mono fun e w' ⟨v', e1, hz⟩ => ⟨v', e1, h2.trans hz⟩
end
theorem RBox.only {w w' : World} {g : Nat} {r : Rv} {S : Nat → Prop} (h : RBox w g r) (ho : r.ok) (hO : Only S w w') (hS : ¬ S g) : RBox w' g r := RBox.mk' ho (h.at_.keep (hO.block g h.at_.lt hS))
theorem ib_le {n : Int} (h : n ≤ 1099511627776) : (ib n).length ≤ 6 := nb_le (by omega)
theorem tb_le {s : ByteArray} (h : s.size ≤ 65536) : (tb (lst s)).length ≤ s.size + 6 := by
  unfold tb; rw [List.length_append, lst_len]; have := nb_le (n := s.size) (by omega); omega
/-- What only a record of no mark has, as bytes. -/
def vB (r : Rv) (ps : Ps) : List Nat := ib r.size ++ (tb (lst r.etag) ++ (ib r.k ++ (ib r.m ++ (tb (lst r.data) ++ (r.sum ++ (nb ps.length ++ (psB ps ++ tb (lst r.up))))))))
theorem versOk_iff {r : Rv} {ps : Ps} (h : versOk r ps = true) : 0 ≤ r.size ∧ r.size ≤ 65536 ∧ r.etag.size ≤ 40 ∧ 1 ≤ r.k ∧ r.k ≤ 16 ∧ 1 ≤ r.m ∧ r.m ≤ 16 ∧ r.data.size ≤ 32 ∧ ps.length ≤ 32 ∧ okPs 0 ps = true ∧ r.up.size ≤ 32 := by
  unfold versOk at h
  simp only [Bool.and_eq_true] at h
  obtain ⟨h1, h2, h3, h4, h5, h6, h7⟩ := h
  have a1 := inR_iff.1 h1
  have a3 := inR_iff.1 h3
  have a4 := inR_iff.1 h4
  have a2 := okOf_len h2
  have a5 := okOf_len h5
  rw [lst_len] at a2 a5
  unfold okParts at h6
  simp only [Bool.and_eq_true, decide_eq_true_eq] at h6
  have a7 : r.up.size ≤ 32 := by
    unfold upOk at h7
    rw [Bool.or_eq_true] at h7
    rcases h7 with h | h
    · rw [isEmpty_lst] at h
      have : (lst r.up).length = 0 := by simpa using h
      rw [lst_len] at this; omega
    · have := okOf_len h; rw [lst_len] at this; omega
  exact ⟨a1.1, a1.2, a2.2, a3.1, a3.2, a4.1, by omega, a5.2, h6.1.1, h6.1.2, a7⟩
theorem okPs_at : ∀ {ps : Ps} {last : Int}, 0 ≤ last → okPs last ps = true → ∀ i, i < ps.length → 0 ≤ (ps.getD i (0, 0)).1 ∧ (ps.getD i (0, 0)).1 ≤ 10000 ∧ 0 ≤ (ps.getD i (0, 0)).2 ∧ (ps.getD i (0, 0)).2 ≤ 65536
  | [], _, _, _, i, hi => by simp at hi
  | p :: r, last, h0, h, i, hi => by
    simp [okPs, inR] at h
    cases i with
    | zero => simp; omega
    | succ i => simpa using okPs_at (ps := r) (last := p.1) (by omega) h.2 i (by simpa using hi)
theorem run_sum (g : Nat) (w : World) : (Instr.sliceAt 42 (.pointer (some ⟨g, 8, none⟩)) none none none).run Try.prog w = .ok (.slice (some ⟨g, 8, none⟩) 32 32) w := by kernel_rfl
theorem psB_take {ps : Ps} {k : Nat} (h : k < ps.length) : psB (ps.take (k + 1)) = psB (ps.take k) ++ (ib (ps.getD k (0, 0)).1 ++ ib (ps.getD k (0, 0)).2) := by
  have e : ps.take (k + 1) = ps.take k ++ [ps.getD k (0, 0)] := by rw [List.take_succ_eq_append_getElem h]; simp [List.getD, h]
  rw [e]
  unfold psB
  rw [List.map_append, List.flatten_append]
  simp
theorem psB_le {ps : Ps} (h : ∀ i, i < ps.length → (ps.getD i (0, 0)).1 ≤ 10000 ∧ (ps.getD i (0, 0)).2 ≤ 65536) : ∀ k, k ≤ ps.length → (psB (ps.take k)).length ≤ 12 * k
  | 0, _ => by simp [psB]
  | k + 1, hk => by
    have ih := psB_le h k (by omega)
    have h1 := h k (by omega)
    rw [psB_take (by omega), List.length_append, List.length_append]
    have := ib_le (n := (ps.getD k (0, 0)).1) (by omega)
    have := ib_le (n := (ps.getD k (0, 0)).2) (by omega)
    omega
theorem step_append_ex {P : Program} {w : World} {ops : Array Oper} {o : Oper} {a : Act} {K : Act → World → Prop} {Q : Exit → Act → World → Prop} {E : Prop} {R : Value → World → Prop} (hgd : o.guard = none) (s x : Operand) (t : TypeId)
    (ho : o.op = .call { callee := .builtin .append, args := #[s, x], argTypes := #[t, t] }) (v xv : Value) (hs : a.eval s = v) (hx : a.eval x = xv)
    (hr : ∃ v' w', (Builtin.append_ #[t, t] o.type #[v, xv]).run P w = .ok v' w' ∧ R v' w') (h : ∀ v' w', R v' w' → K (a.put o.dst v') w') : if Region.wanted o (yielded ops a.tmps) = true then Oper.wp P o a w K Q else E := by
  have hw : Region.wanted o (yielded ops a.tmps) = true := by simp [Region.wanted, hgd]
  rw [if_pos hw]
  obtain ⟨v', w', hr, hR⟩ := hr
  unfold Oper.wp execOp
  simp only [ho, resolve, invoke, builtin, Sem.run_bind, Sem.run_pure, Result.andThen_ok, List.map_toArray, List.map_cons, List.map_nil, hs, hx, hr]
  exact h _ _ hR
theorem AppZ.sumA {B : Nat} {v0 v : Value} {w0 w : World} {L : List Nat} (h : AppZ B v0 w0 L v w) {g : Nat} {r : Rv} (hr : r.ok) (hg : RBox w g r) (hL : L.length ≤ 900000) (hB : B ≤ w0.heap.size) (W : World) (hW : Below w.heap.size w W) :
    ∃ v' w', (Builtin.append_ #[22, 22] 22 #[v, .slice (some ⟨g, 8, none⟩) 32 32]).run Try.prog W = .ok v' w' ∧ AppZ B v0 w0 (L ++ r.sum) v' w' := by
  have h2 := h.below hW
  have hg2 := hg.below hr hW
  obtain ⟨v', w', h3, h4⟩ := h2.buf.appZ (some ⟨g, 8, none⟩) 32 r.sum (Or.inr ⟨g, 8, rfl, fun i hi => hg2.cs i _ (sumC_get hi)⟩) (by simp) (by rw [hr.sl]; omega) (by have := h2.only.size; omega)
  rw [hr.sl] at h3
  exact ⟨v', w', h3, h2.trans h4⟩
set_option maxRecDepth 100000 in
set_option maxHeartbeats 4000000 in
theorem appVers (w0 : World) (r : Rv) (hr : r.ok) (ps : Ps) (hp : PL w0 r.pv ps) (hv : versOk r ps = true) (v : Value) (L : List Nat) (w : World) (hw : Below w0.heap.size w0 w) (hb : Buf w0.heap.size w v L) (hL : L.length ≤ 200000) :
    Calls Try.prog 46 #[v, .agg r.cs] w (ZS w0.heap.size v w (L ++ vB r ps)) := by
  have HR := hid hr
  have HP := hid hp
  have HW := hid hw
  have HB := hid hb
  obtain ⟨q1, q2, q3, q4, q5, q6, q7, q8, q9, q10, q11⟩ := versOk_iff hv
  have HPS := hid (okPs_at (Int.le_refl 0) q10)
  have HVO := hid (fun b hb' => (own_ge hb b hb').2)
  have HVB := hid (fun b hb' => (own_ge hb b hb').1)
  obtain ⟨p1, d1, hpv, hpc, hpl, _⟩ := hp
  clear hr hv hw hb
  go_enter Try.func46, Try.ntmps46
  go_wp2_with ((with_reducible refine wpList_boxR rfl _ rfl r.cs ?_ ?_); exact rfl; intro w1 g1 hc1 hb1 hg1; have HA := hid (RBox.mk' HR.out hc1); have HB1 := hid hb1; clear hc1 hb1)
  have HG : Hid (∀ W, Only (fun b => v.ownBlock = some b) w1 W → RBox W g1 r) := fun W ho => HA.out.only HR.out ho (fun e => by have := HVO.out g1 e; omega)
  have hB1 : w0.heap.size ≤ w1.heap.size := by have := HW.out.size; have := HB1.out.size; omega
  have HZ := hid (AppZ.refl (HB.out.below HB1.out))
  have HC := hid (show _ ∧ _ from ⟨HA.out.c3, HA.out.c4⟩)
  have l1 := ib_le (n := r.size) (by omega)
  have l2 := tb_le (s := r.etag) (by omega)
  have l3 := ib_le (n := r.k) (by omega)
  have l4 := ib_le (n := r.m) (by omega)
  have l5 := tb_le (s := r.data) (by omega)
  have HLL := hid (And.intro l1 (And.intro l2 (And.intro l3 (And.intro l4 l5))))
  clear l1 l2 l3 l4 l5
  go_region_held3 (fun w' => w'.cell? ⟨g1, 3, none⟩ = some (i64 r.size) ∧ w'.cell? ⟨g1, 4, none⟩ = some (.string r.etag)) (exact HC.out) (first
    | (go_at_call 37; (first | refine (HZ.out.num q1 (by omega) (by omega) hB1 _ (below_drewN _ _)).mono ?_ | refine (HZ.out.num q1 (by omega) (by omega) hB1 _ (Below.refl _ _)).mono ?_); rintro e w2 ⟨v2, rfl, hz⟩; replace HZ := hid hz; replace HC := hid (show _ ∧ _ from ⟨(HG.out _ hz.only).c3, (HG.out _ hz.only).c4⟩); clear hz)
    | (go_at_call 38; (first | refine (HZ.out.text (by omega) (by rw [List.length_append]; have := HLL.out; omega) hB1 _ (below_drewN _ _)).mono ?_ | refine (HZ.out.text (by omega) (by rw [List.length_append]; have := HLL.out; omega) hB1 _ (Below.refl _ _)).mono ?_); rintro e w3 ⟨v3, rfl, hz⟩; replace HZ := hid hz; replace HC := hid (show _ ∧ _ from ⟨(HG.out _ hz.only).c3, (HG.out _ hz.only).c4⟩); clear hz))
  go_wp2
  replace HC := hid (show _ ∧ _ from ⟨(HG.out _ HZ.out.only).c5, (HG.out _ HZ.out.only).c6⟩)
  have q4' : 0 ≤ r.k := by omega
  have q6' : 0 ≤ r.m := by omega
  go_region_held3 (fun w' => w'.cell? ⟨g1, 5, none⟩ = some (i64 r.k) ∧ w'.cell? ⟨g1, 6, none⟩ = some (i64 r.m)) (exact HC.out) ((go_at_call 37; (first
    | with_reducible refine (HZ.out.num (n := r.k) q4' (by omega) (by simp only [List.length_append]; have := HLL.out; omega) hB1 _ (below_drewN _ _)).mono ?_
    | with_reducible refine (HZ.out.num (n := r.k) q4' (by omega) (by simp only [List.length_append]; have := HLL.out; omega) hB1 _ (below_drew _)).mono ?_
    | with_reducible refine (HZ.out.num (n := r.k) q4' (by omega) (by simp only [List.length_append]; have := HLL.out; omega) hB1 _ (Below.refl _ _)).mono ?_
    | with_reducible refine (HZ.out.num (n := r.m) q6' (by omega) (by simp only [List.length_append]; have := HLL.out; omega) hB1 _ (below_drewN _ _)).mono ?_
    | with_reducible refine (HZ.out.num (n := r.m) q6' (by omega) (by simp only [List.length_append]; have := HLL.out; omega) hB1 _ (below_drew _)).mono ?_
    | with_reducible refine (HZ.out.num (n := r.m) q6' (by omega) (by simp only [List.length_append]; have := HLL.out; omega) hB1 _ (Below.refl _ _)).mono ?_); rintro e w4 ⟨v4, rfl, hz⟩; replace HZ := hid hz; replace HC := hid (show _ ∧ _ from ⟨(HG.out _ hz.only).c5, (HG.out _ hz.only).c6⟩); clear hz))
  go_wp2
  replace HC := hid (HG.out _ HZ.out.only).c7
  have hsl := run_sum g1
  go_region_held3 (fun w' => w'.cell? ⟨g1, 7, none⟩ = some (.string r.data)) (exact HC.out) (first
    | (go_at_call 38; (first | refine (HZ.out.text (by omega) (by simp only [List.length_append]; have := HLL.out; omega) hB1 _ (below_drewN _ _)).mono ?_ | refine (HZ.out.text (by omega) (by simp only [List.length_append]; have := HLL.out; omega) hB1 _ (Below.refl _ _)).mono ?_); rintro e w5 ⟨v5, rfl, hz⟩; replace HZ := hid hz; replace HC := hid (HG.out _ hz.only).c7; clear hz)
    | ((first | refine step_append_ex (by rfl) (.tmp 24) (.tmp 26) 22 (by rfl) _ (.slice (some ⟨g1, 8, none⟩) 32 32) (by rfl) (by rfl) (HZ.out.sumA HR.out (HG.out _ HZ.out.only) (by simp only [List.length_append]; have := HLL.out; omega) hB1 _ (below_drewN _ _)) ?_ | refine step_append_ex (by rfl) (.tmp 24) (.tmp 26) 22 (by rfl) _ (.slice (some ⟨g1, 8, none⟩) 32 32) (by rfl) (by rfl) (HZ.out.sumA HR.out (HG.out _ HZ.out.only) (by simp only [List.length_append]; have := HLL.out; omega) hB1 _ (Below.refl _ _)) ?_); rintro v6 w6 hz; replace HZ := hid hz; replace HC := hid (HG.out _ hz.only).c7; clear hz))
  have hM : (L ++ ib r.size ++ tb (lst r.etag) ++ ib r.k ++ ib r.m ++ tb (lst r.data) ++ r.sum).length ≤ 300000 := by simp only [List.length_append, HR.out.sl]; have := HLL.out; omega
  generalize hMM : L ++ ib r.size ++ tb (lst r.etag) ++ ib r.k ++ ib r.m ++ tb (lst r.data) ++ r.sum = M at HZ hM
  have HMM := hid hMM
  clear hMM HC hsl HLL
  have HBW : Hid (∀ W, Only (fun b => v.ownBlock = some b) w1 W → Below w0.heap.size w0 W) := fun W ho => below_tr (below_tr HW.out (below_less HB1.out HW.out.size)) (ho.below (by have := HW.out.size; have := HB1.out.size; omega) (fun i e => HVB.out i e))
  have c40 := (HG.out _ HZ.out.only).c40
  rw [hpv] at c40
  have hps : ((ps.length : Nat) : Int) ≤ 1099511627776 := by omega
  go_wp2_with (go_at_call 37; refine (HZ.out.num (n := (ps.length : Int)) (by omega) hps (by omega) hB1 _ (Below.refl _ _)).mono ?_; rintro e w7 ⟨v7, rfl, hz⟩; replace HZ := hid hz; clear c40; have c40 := (HG.out _ hz.only).c40; rw [hpv] at c40; clear hz)
  have HPL := hid (psB_le fun i hi => ⟨(HPS.out i hi).2.1, (HPS.out i hi).2.2.2⟩)
  have hN : (M ++ ib (ps.length : Int)).length ≤ 300006 := by rw [List.length_append]; have := ib_le hps; omega
  generalize hNN : M ++ ib (ps.length : Int) = N at HZ hN
  have HNN := hid hNN
  clear hNN hM
  go_loopw [0, 36] (fun bv iv wr => ∃ k : Nat, k ≤ ps.length ∧ iv = i64 k ∧ AppZ w0.heap.size v w1 (N ++ psB (ps.take k)) bv wr) (fun _ iv _ => (ps.length - intOf iv).toNat)
  case atStart => exact ⟨0, by omega, rfl, by simpa [psB] using HZ.out⟩
  case round =>
    clear c40
    obtain ⟨k, hk, rfl, hz⟩ := hrel
    have HZ2 := hid hz
    have hlenN : (N ++ psB (ps.take k)).length ≤ 700000 := by rw [List.length_append]; have := HPL.out k hk; omega
    by_cases hlt : k < ps.length
    · have hlt' : (k : Int) < (ps.length : Int) := by omega
      have hpl2 := HP.out.below (HBW.out _ hz.only)
      rw [hpv] at hpl2
      obtain ⟨b, o, hpo, x1, x2⟩ := hpl2.at hlt
      subst hpo
      clear hpl2 hz
      obtain ⟨s1, s2, s3, s4⟩ := HPS.out k hlt
      have HPT := hid (psB_take hlt)
      generalize (ps.getD k (0, 0)).1 = X1 at *
      generalize (ps.getD k (0, 0)).2 = X2 at *
      go_wp2
      have hpb := CAt.made wr #[Value.int IntKind.i64 X1, Value.int IntKind.i64 X2] 53
      have hbl := below_al wr (.cells #[Value.int IntKind.i64 X1, Value.int IntKind.i64 X2] 53)
      generalize wr.alloc (.cells #[Value.int IntKind.i64 X1, Value.int IntKind.i64 X2] 53) = Wp at hpb hbl ⊢
      have HZW := hid (HZ2.out.below hbl)
      have HOW := hid (fun b e => (own_ge HZ2.out.buf b e).2)
      have HCF : Hid (∀ W, Only (fun b => u0.ownBlock = some b) Wp W → W.cell? ⟨wr.heap.size, 0, none⟩ = some (i64 X1) ∧ W.cell? ⟨wr.heap.size, 1, none⟩ = some (i64 X2)) := fun W ho => by
        have hk2 := hpb.keep (ho.block wr.heap.size hpb.lt (fun e => by have := HOW.out _ e; omega))
        exact ⟨hk2.cell 0, hk2.cell 1⟩
      have HC := hid (HCF.out _ (Only.refl _ _))
      have HZp := hid (AppZ.refl HZW.out.buf)
      have hBp : w0.heap.size ≤ Wp.heap.size := by have := HZW.out.only.size; omega
      clear hpb hbl HZ2
      have e1 := ib_le (n := X1) (by omega)
      have s2' : X1 ≤ 1099511627776 := by omega
      have s4' : X2 ≤ 1099511627776 := by omega
      have hl2 : (N ++ psB (ps.take k) ++ ib X1).length ≤ 800000 := by rw [List.length_append]; omega
      have hl1 : (N ++ psB (ps.take k)).length ≤ 900000 := by omega
      have hl3 : (N ++ psB (ps.take k) ++ ib X1).length ≤ 900000 := by omega
      go_region_held3 (fun w' => w'.cell? ⟨wr.heap.size, 0, none⟩ = some (i64 X1) ∧ w'.cell? ⟨wr.heap.size, 1, none⟩ = some (i64 X2)) (exact HC.out) (first
        | (go_at_call 37; (with_reducible refine (HZp.out.num (n := X1) s1 s2' hl1 hBp _ (below_drewN _ _)).mono ?_); rintro e w8 ⟨v8, rfl, hz⟩; replace HZp := hid hz; replace HC := hid (HCF.out _ hz.only); clear hz)
        | (go_at_call 37; (with_reducible refine (HZp.out.num (n := X1) s1 s2' hl1 hBp _ (below_drew _)).mono ?_); rintro e w8 ⟨v8, rfl, hz⟩; replace HZp := hid hz; replace HC := hid (HCF.out _ hz.only); clear hz)
        | (go_at_call 37; (with_reducible refine (HZp.out.num (n := X1) s1 s2' hl1 hBp _ (Below.refl _ _)).mono ?_); rintro e w8 ⟨v8, rfl, hz⟩; replace HZp := hid hz; replace HC := hid (HCF.out _ hz.only); clear hz)
        | (go_at_call 37; (with_reducible refine (HZp.out.num (n := X2) s3 s4' hl3 hBp _ (below_drewN _ _)).mono ?_); rintro e w8 ⟨v8, rfl, hz⟩; replace HZp := hid hz; replace HC := hid (HCF.out _ hz.only); clear hz)
        | (go_at_call 37; (with_reducible refine (HZp.out.num (n := X2) s3 s4' hl3 hBp _ (below_drew _)).mono ?_); rintro e w8 ⟨v8, rfl, hz⟩; replace HZp := hid hz; replace HC := hid (HCF.out _ hz.only); clear hz)
        | (go_at_call 37; (with_reducible refine (HZp.out.num (n := X2) s3 s4' hl3 hBp _ (Below.refl _ _)).mono ?_); rintro e w8 ⟨v8, rfl, hz⟩; replace HZp := hid hz; replace HC := hid (HCF.out _ hz.only); clear hz))
      go_wp2
      refine ⟨⟨k + 1, by omega, by simp, ?_⟩, by simp [intOf]; omega⟩
      have := HZW.out.trans HZp.out
      rw [HPT.out, ← List.append_assoc, ← List.append_assoc]; exact this
    · have hlt' : ¬ (k : Int) < (ps.length : Int) := by omega
      have c41 := (HG.out _ hz.only).c41
      clear hz
      go_wp2_with (go_at_call 38; refine (HZ2.out.text (by omega) (by omega) hB1 _ (Below.refl _ _)).mono ?_; rintro e w9 ⟨v9, rfl, hz⟩)
      go_ret
      refine ⟨v9, rfl, ?_⟩
      have hb := AppZ.start HB1.out hz
      have hk2 : ps.take k = ps := List.take_of_length_le (by omega)
      rw [hk2, ← HNN.out, ← HMM.out] at hb
      have e2 : ib (ps.length : Int) = nb ps.length := by unfold ib; simp
      rw [e2] at hb
      unfold vB
      simp only [List.append_assoc] at hb ⊢
      exact hb
#print axioms appVers
end Go.Proofs.Ytepkpkbgmchioaa

/- Contract of version of the reader of package record. -/
namespace Go.Proofs.Ytepkpkbgmchioaa
open Go Go.RowKit

def tk32 (b : List Nat) : Option (List Nat) := if b.length < 32 then none else some (b.drop 32)
def st1 (s : Option (List Nat)) : Option (List Nat) := (s.bind rdU).map (·.2)
def stT (s : Option (List Nat)) : Option (List Nat) := (s.bind rdT).map (·.2)
def stP (s : Option (List Nat)) : Option (List Nat) := (rdP s).map (·.2)
theorem rdD_end (s : Option (List Nat)) (id : List Nat) (t : Nat) : (s.bind (rdD id t)).map (·.2) = stT (stP ((stT (st1 (st1 (stT (st1 s))))).bind tk32)) := by
  unfold st1 stT stP tk32 rdP
  cases s with
  | none => rfl
  | some L =>
  simp only [Option.bind_some]
  unfold rdD
  cases h1 : rdU L with
  | none => rfl
  | some q1 =>
  obtain ⟨a1, L1⟩ := q1
  simp only [Option.bind_eq_bind, Option.bind_some, Option.map_some]
  cases h2 : rdT L1 with
  | none => rfl
  | some q2 =>
  obtain ⟨a2, L2⟩ := q2
  simp only [Option.bind_some, Option.map_some]
  cases h3 : rdU L2 with
  | none => rfl
  | some q3 =>
  obtain ⟨a3, L3⟩ := q3
  simp only [Option.bind_some, Option.map_some]
  cases h4 : rdU L3 with
  | none => rfl
  | some q4 =>
  obtain ⟨a4, L4⟩ := q4
  simp only [Option.bind_some, Option.map_some]
  cases h5 : rdT L4 with
  | none => rfl
  | some q5 =>
  obtain ⟨a5, L5⟩ := q5
  simp only [Option.bind_some, Option.map_some]
  by_cases hl : L5.length < 32
  · rw [if_pos hl, if_pos hl]; rfl
  rw [if_neg hl, if_neg hl]
  simp only [Option.bind_some]
  cases h6 : rdU (L5.drop 32) with
  | none => rfl
  | some q6 =>
  obtain ⟨n, L6⟩ := q6
  simp only [Option.bind_some]
  by_cases hn : 32 < n
  · rw [if_pos hn, if_pos hn]; rfl
  rw [if_neg hn, if_neg hn]
  cases h7 : rdPs n L6 with
  | none => rfl
  | some q7 =>
  obtain ⟨ps, L7⟩ := q7
  simp only [Option.bind_some, Option.map_some]
  cases h8 : rdT L7 with
  | none => rfl
  | some q8 => rfl
theorem rdD_val {s : Option (List Nat)} {id : List Nat} {t : Nat} {rc : Rc} {c : List Nat} (h : s.bind (rdD id t) = some (rc, c)) :
    ∃ size etag k m data L5 ps up, s.bind rdU = some (size, (st1 s).getD []) ∧ (st1 s).bind rdT = some (etag, (stT (st1 s)).getD []) ∧ (stT (st1 s)).bind rdU = some (k, (st1 (stT (st1 s))).getD []) ∧ (st1 (stT (st1 s))).bind rdU = some (m, (st1 (st1 (stT (st1 s)))).getD []) ∧
      (st1 (st1 (stT (st1 s)))).bind rdT = some (data, L5) ∧ stT (st1 (st1 (stT (st1 s)))) = some L5 ∧ 32 ≤ L5.length ∧ rdP (some (L5.drop 32)) = some (ps, (stP (some (L5.drop 32))).getD []) ∧ (stP (some (L5.drop 32))).bind rdT = some (up, c) ∧ rc = ⟨id, t, false, size, etag, k, m, data, L5.take 32, ps, up⟩ := by
  cases s with
  | none => cases h
  | some L =>
  simp only [Option.bind_some] at h
  unfold rdD at h
  cases h1 : rdU L with
  | none => rw [h1] at h; cases h
  | some q1 =>
  obtain ⟨a1, L1⟩ := q1
  rw [h1] at h
  simp only [Option.bind_eq_bind, Option.bind_some] at h
  have e1 : st1 (some L) = some L1 := by unfold st1; simp [h1]
  rw [e1]
  cases h2 : rdT L1 with
  | none => rw [h2] at h; cases h
  | some q2 =>
  obtain ⟨a2, L2⟩ := q2
  rw [h2] at h
  simp only [Option.bind_some] at h
  have e2 : stT (some L1) = some L2 := by unfold stT; simp [h2]
  rw [e2]
  cases h3 : rdU L2 with
  | none => rw [h3] at h; cases h
  | some q3 =>
  obtain ⟨a3, L3⟩ := q3
  rw [h3] at h
  simp only [Option.bind_some] at h
  have e3 : st1 (some L2) = some L3 := by unfold st1; simp [h3]
  rw [e3]
  cases h4 : rdU L3 with
  | none => rw [h4] at h; cases h
  | some q4 =>
  obtain ⟨a4, L4⟩ := q4
  rw [h4] at h
  simp only [Option.bind_some] at h
  have e4 : st1 (some L3) = some L4 := by unfold st1; simp [h4]
  rw [e4]
  cases h5 : rdT L4 with
  | none => rw [h5] at h; cases h
  | some q5 =>
  obtain ⟨a5, L5⟩ := q5
  rw [h5] at h
  simp only [Option.bind_some] at h
  have e5 : stT (some L4) = some L5 := by unfold stT; simp [h5]
  rw [e5]
  by_cases hl : L5.length < 32
  · rw [if_pos hl] at h; cases h
  rw [if_neg hl] at h
  cases h6 : rdU (L5.drop 32) with
  | none => rw [h6] at h; cases h
  | some q6 =>
  obtain ⟨n, L6⟩ := q6
  rw [h6] at h
  simp only [Option.bind_some] at h
  by_cases hn : 32 < n
  · rw [if_pos hn] at h; cases h
  rw [if_neg hn] at h
  cases h7 : rdPs n L6 with
  | none => rw [h7] at h; cases h
  | some q7 =>
  obtain ⟨ps, L7⟩ := q7
  rw [h7] at h
  simp only [Option.bind_some] at h
  have e7 : rdP (some (L5.drop 32)) = some (ps, L7) := by rw [rdP_some (s := some (L5.drop 32)) (n := n) (c := L6) h6, if_neg hn, h7]
  have e8 : stP (some (L5.drop 32)) = some L7 := by unfold stP; rw [e7]; rfl
  cases h8 : rdT L7 with
  | none => rw [h8] at h; cases h
  | some q8 =>
  obtain ⟨up, L8⟩ := q8
  rw [h8] at h
  simp only [Option.bind_some, Option.pure_def, Option.some.injEq, Prod.mk.injEq] at h
  obtain ⟨rfl, rfl⟩ := h
  exact ⟨a1, a2, a3, a4, a5, L5, ps, up, h1, h2, h3, h4, h5, rfl, by omega, by rw [e8]; exact e7, by rw [e8]; exact h8, rfl⟩
theorem step_copy_ex {P : Program} {w : World} {ops : Array Oper} {o : Oper} {a : Act} {K : Act → World → Prop} {Q : Exit → Act → World → Prop} {E : Prop} {R : Value → World → Prop} (hgd : o.guard = none) (s x : Operand) (t : TypeId)
    (ho : o.op = .call { callee := .builtin .copy, args := #[s, x], argTypes := #[t, t] }) (v xv : Value) (hs : a.eval s = v) (hx : a.eval x = xv)
    (hr : ∃ v' w', (Builtin.copy_ #[t, t] o.type #[v, xv]).run P w = .ok v' w' ∧ R v' w') (h : ∀ v' w', R v' w' → K (a.put o.dst v') w') : if Region.wanted o (yielded ops a.tmps) = true then Oper.wp P o a w K Q else E := by
  have hw : Region.wanted o (yielded ops a.tmps) = true := by simp [Region.wanted, hgd]
  rw [if_pos hw]
  obtain ⟨v', w', hr, hR⟩ := hr
  unfold Oper.wp execOp
  simp only [ho, resolve, invoke, builtin, Sem.run_bind, Sem.run_pure, Result.andThen_ok, List.map_toArray, List.map_cons, List.map_nil, hs, hx, hr]
  exact h _ _ hR
theorem PLF.base {B B' : Nat} {w : World} {v : Value} {ps : Ps} (h : PLF B w v ps) (hB : B' ≤ B) : PLF B' w v ps := ⟨h.1, fun a n c e e' => Nat.le_trans hB (h.2 a n c e e')⟩
theorem PLF.form {B : Nat} {w : World} {v : Value} {ps : Ps} (h : PLF B w v ps) : ∃ po n c, v = .slice po n c := by obtain ⟨⟨po, c, h, _⟩, _⟩ := h; exact ⟨_, _, _, h⟩
/-- A reader's block and a record's block behind it. -/
structure V2 (w0 : World) (p g : Nat) (r : Rv) (s : Option (List Nat)) (w : World) : Prop where
  ok : r.ok
  lt : p < g
  rb : RBox w g r
  rd : Rd w p s
  only : Only (fun b => b = p ∨ b = g) w0 w
theorem V2.below {w0 w w' : World} {p g : Nat} {r : Rv} {s : Option (List Nat)} (h : V2 w0 p g r s w) (hb : Below w.heap.size w w') : V2 w0 p g r s w' :=
  ⟨h.ok, h.lt, h.rb.below h.ok hb, h.rd.below hb, h.only.trans (Only.of_below hb)⟩
theorem V2.p {w0 w w' : World} {p g : Nat} {r : Rv} {s s' : Option (List Nat)} (h : V2 w0 p g r s w) (hr : Rd w' p s') (ho : Only (fun b => b = p) w w') : V2 w0 p g r s' w' :=
  ⟨h.ok, h.lt, h.rb.only h.ok ho (by have := h.lt; omega), hr, h.only.trans (ho.mono fun _ e => Or.inl e)⟩
theorem V2.g {w0 w w' : World} {p g : Nat} {r r' : Rv} {s : Option (List Nat)} (h : V2 w0 p g r s w) (hr : RBox w' g r') (hk : r'.ok) (ho : Only (fun b => b = g) w w') : V2 w0 p g r' s w' :=
  ⟨hk, h.lt, hr, h.rd.only ho (fun i e => by have := h.lt; omega), h.only.trans (ho.mono fun _ e => Or.inr e)⟩
section
variable {w0 w : World} {p g : Nat} {r : Rv} {s : Option (List Nat)} (h : V2 w0 p g r s w)
include h
theorem V2.set3 (n : Int) : V2 w0 p g { r with size := n } s (w.setCell ⟨g, 3, none⟩ (i64 n)) := h.g (h.rb.set3 h.ok n) ⟨h.ok.sl, h.ok.s8, h.ok.i, h.ok.e, h.ok.d, h.ok.u⟩ (Only.set w _ _ rfl)
theorem V2.set4 (t : ByteArray) (ht : t.size ≤ 65536) : V2 w0 p g { r with etag := t } s (w.setCell ⟨g, 4, none⟩ (.string t)) := h.g (h.rb.set4 h.ok t (by omega)) ⟨h.ok.sl, h.ok.s8, h.ok.i, by show t.size ≤ _; omega, h.ok.d, h.ok.u⟩ (Only.set w _ _ rfl)
theorem V2.set5 (n : Int) : V2 w0 p g { r with k := n } s (w.setCell ⟨g, 5, none⟩ (i64 n)) := h.g (h.rb.set5 h.ok n) ⟨h.ok.sl, h.ok.s8, h.ok.i, h.ok.e, h.ok.d, h.ok.u⟩ (Only.set w _ _ rfl)
theorem V2.set6 (n : Int) : V2 w0 p g { r with m := n } s (w.setCell ⟨g, 6, none⟩ (i64 n)) := h.g (h.rb.set6 h.ok n) ⟨h.ok.sl, h.ok.s8, h.ok.i, h.ok.e, h.ok.d, h.ok.u⟩ (Only.set w _ _ rfl)
theorem V2.set7 (t : ByteArray) (ht : t.size ≤ 65536) : V2 w0 p g { r with data := t } s (w.setCell ⟨g, 7, none⟩ (.string t)) := h.g (h.rb.set7 h.ok t (by omega)) ⟨h.ok.sl, h.ok.s8, h.ok.i, h.ok.e, by show t.size ≤ _; omega, h.ok.u⟩ (Only.set w _ _ rfl)
theorem V2.set40 (v : Value) : V2 w0 p g { r with pv := v } s (w.setCell ⟨g, 40, none⟩ v) := h.g (h.rb.set40 h.ok v) ⟨h.ok.sl, h.ok.s8, h.ok.i, h.ok.e, h.ok.d, h.ok.u⟩ (Only.set w _ _ rfl)
theorem V2.set41 (t : ByteArray) (ht : t.size ≤ 65536) : V2 w0 p g { r with up := t } s (w.setCell ⟨g, 41, none⟩ (.string t)) := h.g (h.rb.set41 h.ok t (by omega)) ⟨h.ok.sl, h.ok.s8, h.ok.i, h.ok.e, h.ok.d, by show t.size ≤ _; omega⟩ (Only.set w _ _ rfl)
theorem V2.num : Calls Try.prog 41 #[ptr p] w fun e w' => ∃ v : Int, e = .returned (i64 v) ∧ V2 w0 p g r (st1 s) w' ∧ Only (fun b => b = p) w w' ∧ ∀ n c, s.bind rdU = some (n, c) → v = n :=
  (number_any w p s h.rd).mono fun _ _ ⟨v, h1, h2, h3, h4⟩ => ⟨v, h1, h.p h2 h3, h3, h4⟩
theorem V2.text : Calls Try.prog 43 #[ptr p] w fun e w' => ∃ t : ByteArray, e = .returned (.string t) ∧ V2 w0 p g r (stT s) w' ∧ Only (fun b => b = p) w w' ∧ t.size ≤ 65536 ∧ ∀ x c, s.bind rdT = some (x, c) → lst t = x :=
  (text_any w p s h.rd).mono fun _ _ ⟨v, h1, h2, h3, h4, h5⟩ => ⟨v, h1, h.p h2 h3, h3, h4, h5⟩
theorem V2.parts : Calls Try.prog 69 #[ptr p] w fun e w' => ∃ (v : Value) (ps : Ps), e = .returned v ∧ V2 w0 p g r (stP s) w' ∧ PLF w.heap.size w' v ps ∧ ∀ qs c, rdP s = some (qs, c) → ps = qs :=
  (parts_any w p s h.rd).mono fun _ _ ⟨v, ps, h1, h2, h3, h4, h5⟩ => ⟨v, ps, h1, h.p h3 h4, h2, h5⟩
theorem V2.take : Calls Try.prog 60 #[ptr p, i64 32] w fun e w' => ∃ (po : Option Addr) (x : List Nat), e = .returned (.slice po x.length x.length) ∧ V2 w0 p g r (s.bind tk32) w' ∧ BL w' po x ∧ (x = [] ∧ po = none ∨ x.length = 32) ∧ (∀ z ∈ x, z < 256) ∧ ∀ L, s = some L → 32 ≤ L.length → x = L.take 32 := by
  by_cases hb : ∀ L, s = some L → (L.length : Int) < 32
  · refine (take_bad w p 32 s h.rd hb).mono ?_
    rintro e w' ⟨rfl, h2, h3⟩
    refine ⟨none, [], rfl, ?_, Or.inl rfl, Or.inl ⟨rfl, rfl⟩, by simp, fun L h1 h2 => by have := hb L h1; omega⟩
    have e : s.bind tk32 = none := by
      cases s with
      | none => rfl
      | some L => have := hb L rfl; show tk32 L = none; unfold tk32; rw [if_pos (by omega)]
    rw [e]; exact h.p h2 h3
  · cases s with
    | none => exact (hb fun L e => by cases e).elim
    | some L =>
      have hl : 32 ≤ L.length := by
        rcases Nat.lt_or_ge L.length 32 with q | q
        · exact (hb fun L' e => by cases e; omega).elim
        · exact q
      refine (take_ok w p 32 L h.rd hl).mono ?_
      rintro e w' ⟨po, rfl, h2, h3, h4, h5⟩
      have e1 : (L.take 32).length = 32 := by rw [List.length_take]; omega
      refine ⟨po, L.take 32, by rw [e1], ?_, h2, Or.inr e1, fun z hz => h.rd.bytes.2 z (List.mem_of_mem_take hz), fun L' e _ => by cases e; rfl⟩
      have e2 : (some L).bind tk32 = some (L.drop 32) := by show tk32 L = _; unfold tk32; rw [if_neg (by omega)]
      rw [e2]; exact h.p h3 h4
theorem V2.copy {po : Option Addr} {x : List Nat} (hb : BL w po x) (hx : x = [] ∧ po = none ∨ x.length = 32) (h8 : ∀ z ∈ x, z < 256) (ty : TypeId) : ∀ w2, Below w.heap.size w w2 → ∃ v' w', (Builtin.copy_ #[22, 22] ty #[.slice (some ⟨g, 8, none⟩) 32 32, .slice po x.length x.length]).run Try.prog w2 = .ok v' w' ∧ ∃ y, V2 w0 p g { r with sum := y } s w' ∧ (x.length = 32 → y = x) := by
  intro w2 hw
  have h2 := h.below hw
  rcases hx with ⟨rfl, rfl⟩ | hx
  · refine ⟨_, _, run_copy_none (P := Try.prog) w2 22 22 ty 5 _ _ 32 32 0 0 Try.underlying22 (by kernel_rfl) rfl, r.sum, h2, fun e => by cases e⟩
  · have := run_copySum h2.rb h2.ok po x hx (hb.below hw) ty
    rw [← hx] at this
    refine ⟨_, _, by rw [hx] at this ⊢; exact this, x, h2.g (h2.rb.setSum h2.ok x hx h8) ⟨hx, h8, h.ok.i, h.ok.e, h.ok.d, h.ok.u⟩ (only_setCells _ _ _ _ rfl), fun _ => rfl⟩
end
def VerS (w : World) (p g : Nat) (r : Rv) (s : Option (List Nat)) (e : Ending) (w' : World) : Prop :=
  ∃ (r' : Rv) (ps : Ps), e = .returned (.tuple #[]) ∧ r'.id = r.id ∧ r'.time = r.time ∧ r'.mark = r.mark ∧ V2 w p g r' (stT (stP ((stT (st1 (st1 (stT (st1 s))))).bind tk32))) w' ∧ PLF w.heap.size w' r'.pv ps ∧
    ∀ t rc c, s.bind (rdD (lst r.id) t) = some (rc, c) → r'.rc ps = { rc with time := r.time, mark := r.mark }
set_option maxRecDepth 100000 in
set_option maxHeartbeats 2000000 in
theorem version_any (w : World) (p g : Nat) (r : Rv) (s : Option (List Nat)) (h : V2 w p g r s w) : Calls Try.prog 67 #[ptr p, ptr g] w (VerS w p g r s) := by
  have hnum := h.num
  have HL : Hid (g < w.heap.size ∧ p < g) := hid ⟨h.rb.at_.lt, h.lt⟩
  clear h
  go_enter Try.func67, Try.ntmps67
  go_wp2_with (first
    | (go_at_call 41; refine hnum.mono ?_; rintro e w1 ⟨v1, rfl, k1, _, f1⟩; clear hnum; have K1 := hid k1; have F1 := hid f1; clear k1 f1)
    | (go_at_call 43; refine K1.out.text.mono ?_; rintro e w2 ⟨t2, rfl, k2, _, l2, f2⟩; have c3 := k2.rb.c3; have c4 := (k2.set3 v1).rb.c4; have z := k2.rb.free; have z' := (k2.set3 v1).rb.free; have K2 := hid ((k2.set3 v1).set4 t2 l2); have F2 := hid f2; clear k2 f2 K1)
    | (go_at_call 41; refine K2.out.num.mono ?_; rintro e w3 ⟨v3, rfl, k3, _, f3⟩; have K3 := hid k3; have F3 := hid f3; clear k3 f3 K2 c3 c4 z z')
    | (go_at_call 41; refine K3.out.num.mono ?_; rintro e w4 ⟨v4, rfl, k4, _, f4⟩; have c5 := k4.rb.c5; have c6 := (k4.set5 v3).rb.c6; have z := k4.rb.free; have z' := (k4.set5 v3).rb.free; have K4 := hid ((k4.set5 v3).set6 v4); have F4 := hid f4; clear k4 f4 K3)
    | (go_at_call 43; refine K4.out.text.mono ?_; rintro e w5 ⟨t5, rfl, k5, _, l5, f5⟩; clear c5 c6 z z'; have c7 := k5.rb.c7; have z := k5.rb.free; have K5 := hid (k5.set7 t5 l5); have F5 := hid f5; clear k5 f5 K4))
  clear c7 z
  generalize hw6 : w5.setCell ⟨g, 7, none⟩ (.string t5) = w6 at K5
  have hsl := run_sum g
  go_region_held3 (fun w' => True) (trivial) (first
    | (go_at_call 60; (first | refine (K5.out.below (below_drewN _ _)).take.mono ?_ | refine K5.out.take.mono ?_); rintro e w7 ⟨po, x, rfl, k7, hb7, hx7, h8, f7⟩; have K7 := hid k7; have F7 := hid f7; have HB7 := hid hb7; have H8 := hid h8; have HX7 := hid hx7; clear k7 f7 hb7 h8 hx7 K5)
    | ((first | refine step_copy_ex (by rfl) (.tmp 32) (.tmp 34) 22 (by rfl) (.slice (some ⟨g, 8, none⟩) 32 32) _ (by rfl) (by rfl) (K7.out.copy HB7.out HX7.out H8.out _ _ (below_drewN _ _)) ?_ | refine step_copy_ex (by rfl) (.tmp 32) (.tmp 34) 22 (by rfl) (.slice (some ⟨g, 8, none⟩) 32 32) _ (by rfl) (by rfl) (K7.out.copy HB7.out HX7.out H8.out _ _ (Below.refl _ _)) ?_); rintro v8 w8 ⟨y, k8, f8⟩; have K8 := hid k8; have F8 := hid f8; clear k8 f8 K7))
  clear hsl HB7 H8 hw6
  go_wp2_with (first
    | (go_at_call 69; refine K8.out.parts.mono ?_; rintro e w9 ⟨v9, ps, rfl, k9, hp9, f9⟩; obtain ⟨po9, n9, c9, hv9⟩ := hp9.form; subst hv9; have c40 := k9.rb.c40; have z := k9.rb.free; have K9 := hid (k9.set40 (.slice po9 n9 c9)); have F9 := hid f9; have HP9 := hid ((hp9.base K8.out.only.size).only (Only.set (S := fun b => b = g) w9 ⟨g, 40, none⟩ (.slice po9 n9 c9) rfl) (fun i e => by have := HL.out; omega)); clear k9 f9 hp9 K8)
    | (go_at_call 43; refine K9.out.text.mono ?_; rintro e w10 ⟨t10, rfl, k10, o10, l10, f10⟩; clear c40 z; have c41 := k10.rb.c41; have z := k10.rb.free; have K10 := hid (k10.set41 t10 l10); have F10 := hid f10; have HP10 := hid ((HP9.out.only o10 (fun i e => by have := HL.out; omega)).only (Only.set (S := fun b => b = g) w10 ⟨g, 41, none⟩ (.string t10) rfl) (fun i e => by have := HL.out; omega)); clear k10 f10 K9 o10))
  go_end0
  refine ⟨{ r with size := v1, etag := t2, k := v3, m := v4, data := t5, sum := y, pv := .slice po9 n9 c9, up := t10 }, ps, rfl, rfl, rfl, rfl, K10.out, HP10.out, fun t rc c hs => ?_⟩
  obtain ⟨size, etag, k, m, data, L5, qs, up, a1, a2, a3, a4, a5, a6, a7, a8, a9, rfl⟩ := rdD_val hs
  have e32 : (stT (st1 (st1 (stT (st1 s))))).bind tk32 = some (L5.drop 32) := by rw [a6]; show tk32 L5 = _; unfold tk32; rw [if_neg (by omega)]
  have b7 := F7.out L5 a6 a7
  have b8 := F8.out (by rw [b7, List.length_take]; omega)
  have b9 := F9.out
  have b10 := F10.out
  rw [e32] at b9 b10
  unfold Rv.rc
  simp only [F1.out _ _ a1, F2.out _ _ a2, F3.out _ _ a3, F4.out _ _ a4, F5.out _ _ a5, b8, b7, b9 _ _ a8, b10 _ _ a9]
#print axioms version_any
end Go.Proofs.Ytepkpkbgmchioaa

/- Contract of Bytes of package record. -/
namespace Go.Proofs.Ytepkpkbgmchioaa
open Go Go.RowKit

theorem AppZ.pushA {B : Nat} {v0 v : Value} {w0 w : World} {L : List Nat} (h : AppZ B v0 w0 L v w) (k : Nat) (hL : L.length ≤ 900000) (hB : B ≤ w0.heap.size) (W : World) (hW : Below w.heap.size w W) (g : Nat) (hg : g = W.heap.size) :
    ∃ v' w', (Builtin.append_ #[22, 22] 22 #[v, .slice (some ⟨g, 0, none⟩) 1 1]).run Try.prog (W.alloc (.cells #[u8 k] 5)) = .ok v' w' ∧ AppZ B v0 w0 (L ++ [k]) v' w' := by
  subst hg
  have h2 := h.below hW
  obtain ⟨v', w', h3, h4⟩ := h2.buf.pushZ k (by omega) (by have := h2.only.size; omega)
  exact ⟨v', w', h3, h2.trans h4⟩
theorem rcB_mark {r : Rv} {ps : Ps} (h : r.mark = true) : rcB (r.rc ps) = tb (lst r.id) ++ (ib r.time ++ [1]) := by
  unfold rcB Rv.rc; simp [h]
theorem rcB_vers {r : Rv} {ps : Ps} (h : r.mark = false) : rcB (r.rc ps) = tb (lst r.id) ++ (ib r.time ++ ([0] ++ vB r ps)) := by
  unfold rcB Rv.rc vB; simp [h]
theorem run_loadR {w : World} {g : Nat} {r : Rv} (hr : r.ok) (h : RBox w g r) : (Instr.loadAt 45 (.pointer (some ⟨g, 0, none⟩))).run Try.prog w = .ok (.agg r.cs) w := by
  simp only [Instr.loadAt, Instr.sureAddr, Sem.run_bind, Sem.run_pure, Result.andThen_ok, run_loadVar_at w g 0 45 r.cs _ h.whole underRec rfl (by rw [hr.size]; exact sizeR)]
theorem exec_load {a : Act} {o : Oper} {ty : TypeId} {x : Operand} {p v : Value} {W : World} (ho : o.op = .load ty x) (hx : a.eval x = p) (h : (Instr.loadAt ty p).run Try.prog W = .ok v W) : (execOp a.eval o).run Try.prog W = .ok (.value v) W := by
  unfold execOp
  simp only [ho, hx, Sem.run_bind, h, Result.andThen_ok, Sem.run_pure]
theorem rangeR {w : World} {g : Nat} {r : Rv} (h : RBox w g r) : w.rangeAt g 0 r.cs.toList := fun j v hv => h.whole j v (by simpa using hv)
set_option maxRecDepth 100000 in
set_option maxHeartbeats 2000000 in
theorem bytes_bad (r : Rv) (hr : r.ok) (ps : Ps) (w : World) (hp : PL w r.pv ps) (h : okRc (r.rc ps) = false) : Calls Try.prog 24 #[.agg r.cs] w fun e w' => e = .returned (.tuple #[.slice none 0 0, i64 2]) ∧ Below w.heap.size w w' := by
  have HR := hid hr
  have HP := hid hp
  have H := hid h
  clear hr hp h
  go_enter Try.func24, Try.ntmps24
  go_wp2_with (first
    | ((with_reducible refine wpList_boxR rfl _ rfl r.cs ?_ ?_); exact rfl; intro w1 g1 hc1 hb1 hg1; have HA := hid (RBox.mk' HR.out hc1); have HB := hid hb1; have HP1 := hid (HP.out.below hb1); clear hc1 hb1)
    | ((with_reducible refine wpList_load_at 45 _ rfl ?_ g1 0 ?_ r.cs (.struct (Try.prog.fieldsOf 45)) ?_ underRec rfl ?_ ?_); exact rfl; exact rfl; exact HA.out.whole; (rw [HR.out.size]; exact sizeR))
    | (go_at_call 23; refine (check_any r HR.out ps _ HP1.out).mono ?_; rintro e w2 ⟨rfl, hb2⟩; rw [H.out]; replace HB := hid (below_on HB.out hb2); clear hb2))
  go_ret2
  exact ⟨rfl, HB.out⟩
theorem okRc_id {r : Rv} {ps : Ps} (h : okRc (r.rc ps) = true) : r.id.size ≤ 32 ∧ 0 ≤ r.time ∧ r.time ≤ 1048576 := by
  unfold okRc Rv.rc at h
  simp only [Bool.and_eq_true] at h
  have h1 := okOf_len h.1.1
  have h2 := inR_iff.1 h.1.2
  rw [lst_len] at h1
  exact ⟨h1.2, h2.1, h2.2⟩
set_option maxRecDepth 100000 in
set_option maxHeartbeats 2000000 in
theorem bytes_mark (r : Rv) (hr : r.ok) (ps : Ps) (w : World) (hp : PL w r.pv ps) (h : okRc (r.rc ps) = true) (hm : r.mark = true) : Calls Try.prog 24 #[.agg r.cs] w (OutE w (rcB (r.rc ps)) 0) := by
  have HR := hid hr
  have HP := hid hp
  have H := hid h
  obtain ⟨q1, q2, q3⟩ := okRc_id h
  clear hr hp h
  go_enter Try.func24, Try.ntmps24
  go_wp2_with (first
    | ((with_reducible refine wpList_boxR rfl _ rfl r.cs ?_ ?_); exact rfl; intro w1 g1 hc1 hb1 hg1; have HA := hid (RBox.mk' HR.out hc1); have HB := hid hb1; have HP1 := hid (HP.out.below hb1); clear hc1 hb1)
    | ((with_reducible refine wpList_load_at 45 _ rfl ?_ g1 0 ?_ r.cs (.struct (Try.prog.fieldsOf 45)) ?_ underRec rfl ?_ ?_); exact rfl; exact rfl; exact HA.out.whole; (rw [HR.out.size]; exact sizeR))
    | (go_at_call 23; refine (check_any r HR.out ps _ HP1.out).mono ?_; rintro e w2 ⟨rfl, hb2⟩; rw [H.out]; replace HA := hid (HA.out.below HR.out hb2); replace HB := hid (below_on HB.out hb2); clear hb2))
  have HZ := hid (AppZ.refl (Buf.nil w.heap.size w2))
  have hB1 : w.heap.size ≤ w2.heap.size := HB.out.size
  have HG : Hid (∀ W, Only (fun b => (Value.slice none 0 0).ownBlock = some b) w2 W → RBox W g1 r) := fun W ho => HA.out.only HR.out ho (by simp [Value.ownBlock])
  have HC := hid (show _ ∧ _ from ⟨HA.out.c0, HA.out.c1⟩)
  have l1 := tb_le (s := r.id) (by omega)
  have l2 := ib_le (n := r.time) (by omega)
  go_region_held3 (fun w' => w'.cell? ⟨g1, 0, none⟩ = some (.string r.id) ∧ w'.cell? ⟨g1, 1, none⟩ = some (i64 r.time)) (exact HC.out) (first
    | (go_at_call 38; (first | refine (HZ.out.text (by omega) (by simp) hB1 _ (below_drewN _ _)).mono ?_ | refine (HZ.out.text (by omega) (by simp) hB1 _ (Below.refl _ _)).mono ?_); rintro e w3 ⟨v3, rfl, hz⟩; replace HZ := hid hz; replace HC := hid (show _ ∧ _ from ⟨(HG.out _ hz.only).c0, (HG.out _ hz.only).c1⟩); clear hz)
    | (go_at_call 37; (first | refine (HZ.out.num q2 (by omega) (by simp only [List.nil_append]; omega) hB1 _ (below_drewN _ _)).mono ?_ | refine (HZ.out.num q2 (by omega) (by simp only [List.nil_append]; omega) hB1 _ (Below.refl _ _)).mono ?_); rintro e w4 ⟨v4, rfl, hz⟩; replace HZ := hid hz; replace HC := hid (show _ ∧ _ from ⟨(HG.out _ hz.only).c0, (HG.out _ hz.only).c1⟩); clear hz))
  have c2 := (HG.out _ HZ.out.only).c2
  rw [hm] at c2
  obtain ⟨v5, w5, hrun, hz5⟩ := HZ.out.pushA 1 (by simp only [List.length_append, List.length_nil]; omega) hB1 w4 (Below.refl _ _) w4.heap.size rfl
  have HRUN := hid hrun
  clear hrun HC
  go_wp2_with (first
    | (at_builtin; refine wpList_append_run _ _ 22 22 rfl rfl _ _ _ rfl rfl HRUN.out ?_)
    | (go_at_call 36; refine (clip_any w.heap.size _ _ _ hz5.buf).mono ?_; rintro e w6 ⟨⟨v6, rfl, ho⟩, hw6⟩; have hw7 := hw6.symm; subst hw7))
  go_ret2
  refine ⟨v6, rfl, ?_, below_tr HB.out (hz5.only.below hB1 (by simp [Value.ownBlock]))⟩
  rw [rcB_mark hm]; simpa using ho
#print axioms bytes_mark
set_option maxRecDepth 100000 in
set_option maxHeartbeats 2000000 in
theorem bytes_vers (r : Rv) (hr : r.ok) (ps : Ps) (w : World) (hp : PL w r.pv ps) (h : okRc (r.rc ps) = true) (hm : r.mark = false) : Calls Try.prog 24 #[.agg r.cs] w (OutE w (rcB (r.rc ps)) 0) := by
  have HR := hid hr
  have HP := hid hp
  have H := hid h
  obtain ⟨q1, q2, q3⟩ := okRc_id h
  have hvo : versOk r ps = true := by rw [okRc_vers r ps hm hr.sl] at h; simp only [Bool.and_eq_true] at h; exact h.2
  have HV := hid hvo
  have HSZ := hid hr.size
  clear hr hp h hvo
  go_enter Try.func24, Try.ntmps24
  go_wp2_with (first
    | ((with_reducible refine wpList_boxR rfl _ rfl r.cs ?_ ?_); exact rfl; intro w1 g1 hc1 hb1 hg1; have HA := hid (RBox.mk' HR.out hc1); have HB := hid hb1; have HP1 := hid (HP.out.below hb1); clear hc1 hb1)
    | ((with_reducible refine wpList_load_at 45 _ rfl ?_ g1 0 ?_ r.cs (.struct (Try.prog.fieldsOf 45)) ?_ underRec rfl ?_ ?_); exact rfl; exact rfl; exact HA.out.whole; (rw [HR.out.size]; exact sizeR))
    | (go_at_call 23; refine (check_any r HR.out ps _ HP1.out).mono ?_; rintro e w2 ⟨rfl, hb2⟩; rw [H.out]; replace HA := hid (HA.out.below HR.out hb2); replace HB := hid (below_on HB.out hb2); clear hb2))
  have HZ := hid (AppZ.refl (Buf.nil w.heap.size w2))
  have hB1 : w.heap.size ≤ w2.heap.size := HB.out.size
  have HG : Hid (∀ W, Only (fun b => (Value.slice none 0 0).ownBlock = some b) w2 W → RBox W g1 r) := fun W ho => HA.out.only HR.out ho (by simp [Value.ownBlock])
  have HC := hid (show _ ∧ _ from ⟨HA.out.c0, HA.out.c1⟩)
  have l1 := tb_le (s := r.id) (by omega)
  have l2 := ib_le (n := r.time) (by omega)
  go_region_held3 (fun w' => w'.cell? ⟨g1, 0, none⟩ = some (.string r.id) ∧ w'.cell? ⟨g1, 1, none⟩ = some (i64 r.time)) (exact HC.out) (first
    | (go_at_call 38; (first | refine (HZ.out.text (by omega) (by simp) hB1 _ (below_drewN _ _)).mono ?_ | refine (HZ.out.text (by omega) (by simp) hB1 _ (Below.refl _ _)).mono ?_); rintro e w3 ⟨v3, rfl, hz⟩; replace HZ := hid hz; replace HC := hid (show _ ∧ _ from ⟨(HG.out _ hz.only).c0, (HG.out _ hz.only).c1⟩); clear hz)
    | (go_at_call 37; (first | refine (HZ.out.num q2 (by omega) (by simp only [List.nil_append]; omega) hB1 _ (below_drewN _ _)).mono ?_ | refine (HZ.out.num q2 (by omega) (by simp only [List.nil_append]; omega) hB1 _ (Below.refl _ _)).mono ?_); rintro e w4 ⟨v4, rfl, hz⟩; replace HZ := hid hz; replace HC := hid (show _ ∧ _ from ⟨(HG.out _ hz.only).c0, (HG.out _ hz.only).c1⟩); clear hz))
  have c2 := (HG.out _ HZ.out.only).c2
  rw [hm] at c2
  clear HC
  go_wp2
  clear c2
  have HAF : Hid (∀ W, Below w4.heap.size w4 W → (Instr.loadAt 45 (.pointer (some ⟨g1, 0, none⟩))).run Try.prog W = .ok (.agg r.cs) W) := fun W hW => run_loadR HR.out ((HG.out _ HZ.out.only).below HR.out hW)
  have HC := hid (HAF.out _ (Below.refl _ _))
  have HBB := hid (fun W (ho : Only (fun b => (Value.slice none 0 0).ownBlock = some b) w2 W) => below_tr HB.out (ho.below hB1 (by simp [Value.ownBlock])))
  refine wp_region_held_drew (S := fun w' => (Instr.loadAt 45 (.pointer (some ⟨g1, 0, none⟩))).run Try.prog w' = .ok (.agg r.cs) w') (by kernel_rfl) (HAF.out _ (below_drew _)) (fun hHeld => ?_)
  refine wpAnyH_take (i := 0) (v := v4) rfl (by kernel_rfl) (by kernel_rfl) (by kernel_rfl) (fun _ _ _ h => h) (Or.inl ⟨by rfl, by intro W hW; go_simp⟩) hHeld ?_
  refine wpAnyH_take (i := 3) (v := .agg r.cs) rfl (by kernel_rfl) (by kernel_rfl) (by kernel_rfl) (fun _ _ _ h => h) (Or.inl ⟨by rfl, fun W hW => exec_load rfl rfl hW⟩) hHeld ?_
  refine wpAnyH_ready (rs := [1]) (by kernel_rfl) (by simp) ?_
  refine AllReadyH.cons rfl (fun K hK => ?_) AllReadyH.nil
  go_simp
  refine hK.out _ _ (HAF.out _ (below_on (below_drew _) (below_al _ _))) (fun hHeld => ?_)
  clear hK K
  refine wpAnyH_ready (rs := [2]) (by kernel_rfl) (by simp) ?_
  refine AllReadyH.cons rfl (fun K hK => ?_) AllReadyH.nil
  refine step_append_ex (by rfl) (.tmp 23) (.tmp 24) 22 (by rfl) v4 (.slice (some ⟨w4.heap.size, 0, none⟩) 1 1) (by rfl) (by rfl) (HZ.out.pushA 0 (by simp only [List.length_append, List.length_nil]; omega) hB1 w4.drew (below_drew _) w4.heap.size rfl) ?_
  rintro v5 w5 hz
  replace HZ := hid hz
  clear hz
  refine hK.out _ _ (run_loadR HR.out (HG.out _ HZ.out.only)) (fun hHeld => ?_)
  clear hK K
  refine wpAnyH_ready (rs := [4]) (by kernel_rfl) (by simp) ?_
  refine AllReadyH.cons rfl (fun K hK => ?_) AllReadyH.nil
  go_simp
  refine (appVers w r HR.out ps HP.out HV.out v5 _ w5 (HBB.out _ HZ.out.only) HZ.out.buf (by simp only [List.length_append, List.length_nil, List.length_singleton]; omega)).mono ?_
  rintro e w6 ⟨v6, rfl, hz⟩
  replace HZ := hid (HZ.out.trans hz)
  clear hz
  go_wp2_with fail
  refine hK.out _ _ (run_loadR HR.out (HG.out _ HZ.out.only)) (fun hHeld => ?_)
  clear hK K
  refine wpAnyH_ready (rs := [5]) (by kernel_rfl) (by simp) ?_
  refine AllReadyH.cons rfl (fun K hK => ?_) AllReadyH.nil
  go_simp
  refine (clip_any w.heap.size _ _ _ HZ.out.buf).mono ?_
  rintro e w7 ⟨⟨v7, rfl, ho⟩, hw7⟩
  have hw8 := hw7.symm
  subst hw8
  go_wp2_with fail
  refine hK.out _ _ (run_loadR HR.out (HG.out _ HZ.out.only)) (fun hHeld => ?_)
  clear hK K
  refine wpAnyH_take (i := 6) (oi := ⟨some 2, .assign (.tmp 28), 22, _, _, none⟩) (v := v7) rfl (by kernel_rfl) (by kernel_rfl) (by kernel_rfl) (fun _ _ _ h => h) (Or.inl ⟨by rfl, by intro W hW; go_simp⟩) hHeld ?_
  refine wpAnyH_take (i := 7) (oi := ⟨some 3, .assign (.const (.int .i64 0)), 23, _, _, none⟩) (v := i64 0) rfl (by kernel_rfl) (by kernel_rfl) (by kernel_rfl) (fun _ _ _ h => h) (Or.inl ⟨by rfl, by intro W hW; go_simp⟩) hHeld ?_
  refine wpAnyH_done (by kernel_rfl) ?_ _
  simp only [Act.put, List.setIfInBounds_toArray, List.set_cons_zero, List.set_cons_succ]
  go_wp2
  go_ret2
  refine ⟨v7, rfl, ?_, HBB.out _ HZ.out.only⟩
  rw [rcB_vers hm]; simpa using ho
theorem bytes_ok (r : Rv) (hr : r.ok) (ps : Ps) (w : World) (hp : PL w r.pv ps) (h : okRc (r.rc ps) = true) : Calls Try.prog 24 #[.agg r.cs] w (OutE w (rcB (r.rc ps)) 0) := by
  cases hm : r.mark
  · exact bytes_vers r hr ps w hp h hm
  · exact bytes_mark r hr ps w hp h hm
#print axioms bytes_ok
end Go.Proofs.Ytepkpkbgmchioaa

/- Contract of record of the reader of package record. -/
namespace Go.Proofs.Ytepkpkbgmchioaa
open Go Go.RowKit

def zR : Rv := ⟨⟨#[]⟩, 0, false, 0, ⟨#[]⟩, 0, 0, ⟨#[]⟩, zeroD, .slice none 0 0, ⟨#[]⟩⟩
theorem zR_ok : zR.ok := ⟨rfl, by simp [zR, zeroD], by simp [zR, ByteArray.size], by simp [zR, ByteArray.size], by simp [zR, ByteArray.size], by simp [zR, ByteArray.size]⟩
theorem zeroR : (Try.prog.info? 45).map (·.zero) = some (some (.agg zR.cs)) := by kernel_rfl
theorem built_head (id : ByteArray) (time : Int) : Try.prog.built 45 [(0, .string id), (1, i64 time)] = some ({ zR with id := id, time := time } : Rv).cs := by kernel_rfl
theorem headR_ok {t : ByteArray} {v : Int} (h : t.size ≤ 65536) : ({ zR with id := t, time := v } : Rv).ok := ⟨zR_ok.sl, zR_ok.s8, by show t.size ≤ _; omega, zR_ok.e, zR_ok.d, zR_ok.u⟩
theorem Rv.one {r : Rv} (h : r.pv.oneCell' = true) : r.cs.all (·.oneCell') = true := by
  rw [Array.all_eq_true_iff_forall_mem]
  intro v hv
  rw [← Array.mem_toList_iff, Rv.toL] at hv
  simp only [List.mem_append, List.mem_cons, List.not_mem_nil, or_false, List.mem_map] at hv
  rcases hv with (rfl | rfl | rfl | rfl | rfl | rfl | rfl | rfl) | ⟨_, _, rfl⟩ | rfl | rfl <;> first | rfl | exact h
theorem only_setRow {S : Nat → Prop} (w : World) (g : Nat) (cs : Array Value) (h : S g) : Only S w (w.setRow g cs) := ⟨rfl, rfl, rfl, by simp, fun k _ hk => setRow_other w g k cs fun e => hk (e ▸ h)⟩
theorem run_storeR {w : World} {g : Nat} {r0 r : Rv} (h0 : r0.ok) (hr : r.ok) (hpv : r.pv.oneCell' = true) (hb : RBox w g r0) : (Instr.storeAt 45 (.pointer (some ⟨g, 0, none⟩)) (.agg r.cs)).run Try.prog w = .ok () (w.setRow g r.cs) ∧ RBox (w.setRow g r.cs) g r := by
  have e := run_storeVar_row (P := Try.prog) w g 45 45 r0.cs r.cs hb.at_ (by rw [hr.size]; exact sizeR) (by rw [h0.size, hr.size]) (Rv.one hpv)
  refine ⟨?_, RBox.mk' hr (setRow_heap w g r0.cs r.cs _ _ hb.at_)⟩
  simp only [Instr.storeAt, Instr.sureAddr, Sem.run_bind, Sem.run_pure, Result.andThen_ok, e]
theorem wpList_allocR {ops : Array Oper} {rest : List Oper} {o : Oper} {a : Act} {w : World} {Q : Exit → Act → World → Prop} (hg : o.guard = none) (ho : o.op = .alloc 45)
    (h : ∀ w1 g, RBox w1 g zR → Below w.heap.size w w1 → w.heap.size = g → wpList Try.prog ops Q rest (a.put o.dst (ptr g)) w1) : wpList Try.prog ops Q (o :: rest) a w := by
  refine wpList_plain hg fun _ hK => ?_
  obtain ⟨i, hq, hz'⟩ := Option.map_eq_some_iff.1 zeroR
  unfold Oper.wp execOp
  simp only [ho, Instr.alloc, zeroValue, typeInfo, Sem.run_bind, newVar, newRow]
  simp [hq, hz', Value.cells]
  exact hK _ _ (h _ _ (RBox.mk' zR_ok (CAt.made _ _ _)) (below_al _ _) rfl)
theorem wpList_storeR {ops : Array Oper} {rest : List Oper} {o : Oper} {a : Act} {w : World} {Q : Exit → Act → World → Prop} (hg : o.guard = none) (hdst : o.dst = none) (x y : Operand) (ho : o.op = .store 45 x y) (g : Nat) (hx : a.eval x = ptr g) {r0 r : Rv} (hy : a.eval y = .agg r.cs) (h0 : r0.ok) (hr : r.ok) (hpv : r.pv.oneCell' = true) (hb : RBox w g r0)
    (h : ∀ w1, RBox w1 g r → Only (fun b => b = g) w w1 → wpList Try.prog ops Q rest a w1) : wpList Try.prog ops Q (o :: rest) a w := by
  refine wpList_plain hg fun _ hK => ?_
  obtain ⟨e1, e2⟩ := run_storeR h0 hr hpv hb
  unfold Oper.wp execOp
  simp only [ho, hx, hy, ptr, Sem.run_bind, e1, Result.andThen_ok, Sem.run_pure]
  refine hK (a.put o.dst undef) _ ?_
  rw [hdst]
  exact h _ e2 (only_setRow _ _ _ rfl)
/-- The reader's block, the block of the result and that of the record. -/
structure RR (w : World) (p g2 g : Nat) (r : Rv) (s : Option (List Nat)) (W : World) : Prop where
  ok : r.ok
  zb : RBox W g2 zR
  rb : RBox W g r
  rd : Rd W p s
  only : Only (fun b => b = p) w W
  h1 : p < w.heap.size
  h2 : w.heap.size ≤ g2
  h3 : g2 < g
section
variable {w W W' : World} {p g2 g : Nat} {r r' : Rv} {s s' : Option (List Nat)} (h : RR w p g2 g r s W)
include h
theorem RR.below (hb : Below W.heap.size W W') : RR w p g2 g r s W' := ⟨h.ok, h.zb.below zR_ok hb, h.rb.below h.ok hb, h.rd.below hb, h.only.trans (Only.of_below hb), h.h1, h.h2, h.h3⟩
theorem RR.pp (hr : Rd W' p s') (ho : Only (fun b => b = p) W W') : RR w p g2 g r s' W' :=
  ⟨h.ok, h.zb.only zR_ok ho (by have := h.h1; have := h.h2; omega), h.rb.only h.ok ho (by have := h.h1; have := h.h2; have := h.h3; omega), hr, h.only.trans ho, h.h1, h.h2, h.h3⟩
theorem RR.v2 : V2 W p g r s W := ⟨h.ok, by have := h.h1; have := h.h2; have := h.h3; omega, h.rb, h.rd, Only.refl _ _⟩
theorem RR.ver (k : V2 W p g r' s' W') : RR w p g2 g r' s' W' :=
  ⟨k.ok, h.zb.only zR_ok k.only (by have := h.h1; have := h.h2; have := h.h3; omega), k.rb, k.rd, h.only.then k.only (fun i hi e => by have := h.h1; have := h.h2; have := h.h3; omega), h.h1, h.h2, h.h3⟩
theorem RR.set2 (b : Bool) : RR w p g2 g { r with mark := b } s (W.setCell ⟨g, 2, none⟩ (.bool b)) := by
  have ho : Only (fun b => b = g) W (W.setCell ⟨g, 2, none⟩ (.bool b)) := Only.set W _ _ rfl
  exact ⟨⟨h.ok.sl, h.ok.s8, h.ok.i, h.ok.e, h.ok.d, h.ok.u⟩, h.zb.only zR_ok ho (by have := h.h3; omega), h.rb.set2 h.ok b, h.rd.only ho (fun i e => by have := h.h1; have := h.h2; have := h.h3; omega), h.only.then ho (fun i hi e => by have := h.h1; have := h.h2; have := h.h3; omega), h.h1, h.h2, h.h3⟩
end
theorem RR.mk1 {w w1 w2 w3 w4 : World} {p g2 g : Nat} {r : Rv} {s : Option (List Nat)} (hp : p < w.heap.size) (hz : RBox w1 g2 zR) (hb : Below w.heap.size w w1) (hg : w.heap.size = g2) (hr : Rd w2 p s) (ho : Only (fun b => b = p) w1 w2)
    (hb3 : Below w2.heap.size w2 w3) (hg3 : w2.heap.size = g) (h4 : RBox w4 g r) (hk : r.ok) (ho4 : Only (fun b => b = g) w3 w4) : RR w p g2 g r s w4 := by
  have l1 := hz.at_.lt
  have l2 := ho.size
  have z2 := hz.only zR_ok ho (by omega)
  have z3 := z2.below zR_ok hb3
  have r3 := hr.below hb3
  exact ⟨hk, z3.only zR_ok ho4 (by omega), h4, r3.only ho4 (fun i e => by omega), ((((Only.of_below hb).trans ho).trans (Only.of_below hb3)).then ho4 fun i hi e => by have := hb.size; omega), hp, by omega, by omega⟩
theorem rdAny_eq (s : Option (List Nat)) : s.bind rdAny = (s.bind rdT).bind fun q => ((stT s).bind rdU).bind fun q2 => (st1 (stT s)).bind fun b => match b with
  | [] => none
  | c :: b => if 1 < c then none else if c = 1 then some (⟨q.1, q2.1, true, 0, [], 0, 0, [], zeroD, [], []⟩, b) else rdD q.1 q2.1 b := by
  cases s with
  | none => rfl
  | some L =>
  simp only [Option.bind_some, stT, st1]
  unfold rdAny
  cases h1 : rdT L with
  | none => rfl
  | some q =>
  obtain ⟨id, L1⟩ := q
  simp only [Option.bind_eq_bind, Option.bind_some, Option.map_some]
  cases h2 : rdU L1 with
  | none => rfl
  | some q2 => obtain ⟨t, L2⟩ := q2; rfl
theorem rdR_eq (s : Option (List Nat)) : s.bind rdR = (s.bind rdAny).bind fun q => if okRc q.1 then some q else none := by
  cases s with
  | none => rfl
  | some L => simp only [Option.bind_some]; unfold rdR; cases rdAny L <;> rfl
def RecS (w : World) (p : Nat) (s : Option (List Nat)) (e : Ending) (w' : World) : Prop :=
  ∃ (r : Rv) (ps : Ps), e = .returned (.agg r.cs) ∧ r.ok ∧ PLF w.heap.size w' r.pv ps ∧ Rd w' p ((s.bind rdR).map (·.2)) ∧ Only (fun b => b = p) w w' ∧ ∀ rc c, s.bind rdR = some (rc, c) → r.rc ps = rc
theorem ret_rowR {fn : Func} {q : Tmp} (h : fn.results = #[.cell q 45]) {R : Ending → World → Prop} {a : Act} {w : World} (g : Nat) {r : Rv}
    (hd0 : a.defers = []) (hp : a.tmps.getD q undef = .pointer (some ⟨g, 0, none⟩)) (hb : RBox w g r) (hr : r.ok) (hR : R (.returned (.agg r.cs)) w) : bodyPost Try.prog fn R .ret a w :=
  ⟨hd0, _, results_cell_row h _ _ g 45 r.cs (0, 0) _ hp hb.at_ underRec rfl (by rw [hr.size]; exact sizeR), hR⟩
#print axioms ret_rowR
end Go.Proofs.Ytepkpkbgmchioaa

/- Contract of record of the reader of package record: the walks. -/
namespace Go.Proofs.Ytepkpkbgmchioaa
open Go Go.RowKit

theorem any_mark {s : Option (List Nat)} (h : oneV (st1 (stT s)) = 1) : ∃ x r n r2, s.bind rdT = some (x, r) ∧ (stT s).bind rdU = some (n, r2) ∧ oneR (st1 (stT s)) = (s.bind rdAny).map (·.2) ∧ ∀ rc c, s.bind rdAny = some (rc, c) → rc = ⟨x, n, true, 0, [], 0, 0, [], zeroD, [], []⟩ := by
  rw [rdAny_eq]
  cases h1 : s.bind rdT with
  | none => unfold stT at h; rw [h1] at h; cases h
  | some q =>
  obtain ⟨x, r⟩ := q
  cases h2 : (stT s).bind rdU with
  | none => unfold st1 at h; rw [h2] at h; cases h
  | some q2 =>
  obtain ⟨n, r2⟩ := q2
  have e : st1 (stT s) = some r2 := by unfold st1; rw [h2]; rfl
  rw [e] at h ⊢
  refine ⟨x, r, n, r2, rfl, rfl, ?_, ?_⟩
  · match r2, h with
    | c :: b, h => have h' : c = 1 := h; subst h'; rfl
  · match r2, h with
    | c :: b, h =>
      have h' : c = 1 := h
      subst h'
      intro rc c h
      simp at h
      exact h.1.symm
theorem any_vers {s : Option (List Nat)} (h : oneV (st1 (stT s)) = 0) : ((oneR (st1 (stT s))).bind (rdD [] 0)).map (·.2) = (s.bind rdAny).map (·.2) ∧ ∀ rc c, s.bind rdAny = some (rc, c) → ∃ x r n r2, s.bind rdT = some (x, r) ∧ (stT s).bind rdU = some (n, r2) ∧ (oneR (st1 (stT s))).bind (rdD x n) = some (rc, c) := by
  rw [rdAny_eq]
  cases h1 : s.bind rdT with
  | none =>
    have e : stT s = none := by unfold stT; rw [h1]; rfl
    rw [e]
    exact ⟨rfl, fun rc c h => by cases h⟩
  | some q =>
  obtain ⟨x, r⟩ := q
  cases h2 : (stT s).bind rdU with
  | none =>
    have e : st1 (stT s) = none := by unfold st1; rw [h2]; rfl
    rw [e]
    exact ⟨rfl, fun rc c h => by cases h⟩
  | some q2 =>
  obtain ⟨n, r2⟩ := q2
  have e : st1 (stT s) = some r2 := by unfold st1; rw [h2]; rfl
  rw [e] at h ⊢
  match r2, h with
  | [], _ => exact ⟨rfl, fun rc c h => by cases h⟩
  | c :: b, h =>
    have h' : c = 0 := h
    subst h'
    refine ⟨?_, fun rc c h => ⟨x, r, n, _, rfl, rfl, by simpa [oneR] using h⟩⟩
    have e1 := rdD_end (some b) [] 0
    have e2 := rdD_end (some b) x n
    simp only [Option.bind_some] at e1 e2 ⊢
    simp only [oneR, Option.bind_some]
    rw [e1, ← e2]; rfl
theorem any_none {s : Option (List Nat)} {c : Nat} (h : oneV (st1 (stT s)) = c) (hc : 1 < c) : s.bind rdAny = none := by
  rw [rdAny_eq]
  cases h1 : s.bind rdT with
  | none => rfl
  | some q =>
  cases h2 : (stT s).bind rdU with
  | none => rfl
  | some q2 =>
  obtain ⟨n, r2⟩ := q2
  have e : st1 (stT s) = some r2 := by unfold st1; rw [h2]; rfl
  rw [e] at h ⊢
  match r2, h with
  | [], _ => rfl
  | d :: b, h => have h' : d = c := h; subst h'; simp [hc]
theorem fin_rec {s s7 : Option (List Nat)} {R : Rc} {n : Int} (hv : ∀ rc c, s.bind rdAny = some (rc, c) → R = rc) (hs : s7 = (s.bind rdAny).map (·.2)) (hn : n = if okRc R = true then 0 else 2) : (if (n == 0) then s7 else none) = (s.bind rdR).map (·.2) ∧ ∀ rc c, s.bind rdR = some (rc, c) → R = rc := by
  rw [rdR_eq]
  cases h : s.bind rdAny with
  | none => rw [h] at hs; rw [hs]; exact ⟨by cases (n == 0) <;> rfl, fun rc c h => by cases h⟩
  | some q =>
    obtain ⟨rc, c⟩ := q
    have e := hv rc c h
    subst e
    rw [h] at hs
    rw [hs]
    cases ho : okRc R
    · rw [ho] at hn
      have : n = 2 := by simpa using hn
      subst this
      exact ⟨by simp [ho], fun rc c h => by simp [ho] at h⟩
    · rw [ho] at hn
      have : n = 0 := by simpa using hn
      subst this
      exact ⟨by simp [ho], fun rc c h => by simp [ho] at h; exact h.1⟩
theorem markR_any (B : Nat) {w W : World} {p g2 g : Nat} {s : Option (List Nat)} {t : ByteArray} {v : Int} (h : RR w p g2 g { zR with id := t, time := v, mark := true } s W) : ∃ (R : Rv) (ps : Ps), R.rc ps = ⟨lst t, v, true, 0, [], 0, 0, [], zeroD, [], []⟩ ∧ RR w p g2 g R s W ∧ R.pv.oneCell' = true ∧ PLF B W R.pv ps :=
  ⟨_, [], rfl, h, rfl, PLF.nil _ _⟩
set_option maxRecDepth 100000 in
set_option maxHeartbeats 1000000 in
theorem record_mark (w : World) (p : Nat) (s : Option (List Nat)) (h : Rd w p s) (hc : oneV (st1 (stT s)) = 1) : Calls Try.prog 55 #[ptr p] w (RecS w p s) := by
  have H := hid h
  have HC := hid hc
  have hp := h.lt
  clear h hc
  go_enter Try.func55, Try.ntmps55
  go_wp2_with (first
    | ((with_reducible refine wpList_allocR rfl rfl ?_); intro w1 g2 hz1 hb1 hg2; have HZ1 := hid hz1; have HB1 := hid hb1; have HG2 := hid hg2; have H1 := hid (H.out.below hb1); clear hz1 hb1 hg2 H)
    | (go_at_call 43; refine (text_any _ p s H1.out).mono ?_; rintro e w2 ⟨t, rfl, hr2, ho2, l2, f2⟩; have HR2 : Hid (Rd w2 p (stT s)) := hid hr2; have HO2 := hid ho2; have F2 := hid f2; clear hr2 ho2 f2)
    | (go_at_call 41; refine (number_any _ p _ HR2.out).mono ?_; rintro e w3 ⟨v, rfl, hr3, ho3, f3⟩; have HR3 : Hid (Rd w3 p (st1 (stT s))) := hid hr3; have HO3 := hid (HO2.out.trans ho3); have F3 := hid f3; clear hr3 ho3 f3 HR2 HO2)
    | ((with_reducible refine wpList_build_want 45 _ rfl ?_ ({ zR with id := t, time := v } : Rv).cs ?_ ?_); exact rfl; exact built_head t v)
    | ((with_reducible refine wpList_allocR rfl rfl ?_); intro w4 g hz4 hb4 hg4; have HZ4 := hid hz4; have HB4 := hid hb4; have HG4 := hid hg4; clear hz4 hb4 hg4)
    | ((with_reducible refine wpList_storeR rfl rfl _ _ rfl g ?_ (r := { zR with id := t, time := v }) ?_ zR_ok (headR_ok l2) rfl HZ4.out ?_); exact rfl; exact rfl; intro w5 h5 o5; have HRR := hid (RR.mk1 hp HZ1.out HB1.out HG2.out HR3.out HO3.out HB4.out HG4.out h5 (headR_ok l2) o5); clear h5 o5 HZ1 HB1 HG2 HR3 HO3 HB4 HG4 HZ4 H1)
    | (go_at_call 58; refine (one_any _ p _ HRR.out.rd).mono ?_; rintro e w6 ⟨rfl, hr6, ho6⟩; rw [HC.out, show u8 1 = Value.int .u8 1 from rfl]; have HR6 := hid (HRR.out.pp hr6 ho6); have c2 := HR6.out.rb.c2; have z2 := HR6.out.rb.free; have hr7 := HR6.out.set2 true; have d2 := hr7.rb.c2; obtain ⟨R, ps, hR, hr8, hone, hpl⟩ := markR_any (w6.heap.size) hr7; have HR7 := hid hr8; have HRE := hid hR; have HW : Hid (p < w.heap.size ∧ g2 < w6.heap.size ∧ w.heap.size ≤ w6.heap.size) := hid ⟨hp, HR6.out.zb.at_.lt, HR6.out.only.size⟩; have HPL := hid hpl; clear hr6 ho6 HRR HR6 hr7 hR hr8 hpl)
    | (go_at_call 59; (with_reducible refine (need_true _ p).mono ?_); rintro e w7 ⟨rfl, hw7⟩; have hw8 := hw7.symm; subst hw8; clear hw7)
    | ((with_reducible refine wpList_load_at 45 _ rfl ?_ g 0 ?_ R.cs (.struct (Try.prog.fieldsOf 45)) ?_ underRec rfl ?_ ?_); exact rfl; exact rfl; exact HR9.out.rb.whole; (rw [HR9.out.ok.size]; exact sizeR))
    | ((with_reducible refine wpList_load_at 45 _ rfl ?_ g 0 ?_ R.cs (.struct (Try.prog.fieldsOf 45)) ?_ underRec rfl ?_ ?_); exact rfl; exact rfl; exact HR7.out.rb.whole; (rw [HR7.out.ok.size]; exact sizeR))
    | (go_at_call 23; refine (check_any R HR7.out.ok ps _ HPL.out.1).mono ?_; rintro e w8 ⟨rfl, hb8⟩; generalize hn : (if okRc (Rv.rc R ps) = true then (0 : Int) else 2) = n; have HN := hid hn; have HR8 := hid (HR7.out.below hb8); replace HPL := hid (HPL.out.only (Only.of_below (S := fun _ => False) hb8) (fun _ h => h.elim)); clear hn hb8 HR7)
    | (go_at_call 59; refine (need_any _ p _ _ HR8.out.rd).mono ?_; rintro e w9 ⟨rfl, hr9, ho9⟩; have HR9 := hid (HR8.out.pp hr9 ho9); replace HPL := hid (HPL.out.only ho9 (fun i e => by have := HW.out; omega)); clear hr9 ho9 HR8)
    | ((with_reducible refine wpList_storeR rfl rfl _ _ rfl g2 ?_ (r := R) ?_ zR_ok HR9.out.ok ?_ HR9.out.zb ?_); exact rfl; exact rfl; exact hone; intro w10 h10 o10; have H10 := hid h10; have O10 := hid o10; replace HPL := hid (HPL.out.only o10 (fun i e => by have := HW.out; omega)); clear h10 o10))
  refine ret_rowR rfl g2 rfl rfl H10.out HR9.out.ok ?_
  obtain ⟨x, r, n1, r2, e1, e2, e3, e4⟩ := any_mark HC.out
  obtain ⟨k1, k2⟩ := fin_rec (s := s) (R := R.rc ps) (n := n) (fun rc c h => by rw [e4 rc c h, HRE.out, F2.out _ _ e1, F3.out _ _ e2]) e3 HN.out.symm
  exact ⟨R, ps, rfl, HR9.out.ok, PLF.base HPL.out HW.out.2.2, k1 ▸ (HR9.out.rd.only O10.out (fun i e => by have := HR9.out.h1; have := HR9.out.h2; omega)), HR9.out.only.then O10.out (fun i hi e => by have := HR9.out.h1; have := HR9.out.h2; omega), k2⟩
set_option maxRecDepth 100000 in
set_option maxHeartbeats 1000000 in
theorem record_vers (w : World) (p : Nat) (s : Option (List Nat)) (h : Rd w p s) (hc : oneV (st1 (stT s)) = 0) : Calls Try.prog 55 #[ptr p] w (RecS w p s) := by
  have H := hid h
  have HC := hid hc
  have hp := h.lt
  clear h hc
  go_enter Try.func55, Try.ntmps55
  go_wp2_with (first
    | ((with_reducible refine wpList_allocR rfl rfl ?_); intro w1 g2 hz1 hb1 hg2; have HZ1 := hid hz1; have HB1 := hid hb1; have HG2 := hid hg2; have H1 := hid (H.out.below hb1); clear hz1 hb1 hg2 H)
    | (go_at_call 43; refine (text_any _ p s H1.out).mono ?_; rintro e w2 ⟨t, rfl, hr2, ho2, l2, f2⟩; have HR2 : Hid (Rd w2 p (stT s)) := hid hr2; have HO2 := hid ho2; have F2 := hid f2; clear hr2 ho2 f2)
    | (go_at_call 41; refine (number_any _ p _ HR2.out).mono ?_; rintro e w3 ⟨v, rfl, hr3, ho3, f3⟩; have HR3 : Hid (Rd w3 p (st1 (stT s))) := hid hr3; have HO3 := hid (HO2.out.trans ho3); have F3 := hid f3; clear hr3 ho3 f3 HR2 HO2)
    | ((with_reducible refine wpList_build_want 45 _ rfl ?_ ({ zR with id := t, time := v } : Rv).cs ?_ ?_); exact rfl; exact built_head t v)
    | ((with_reducible refine wpList_allocR rfl rfl ?_); intro w4 g hz4 hb4 hg4; have HZ4 := hid hz4; have HB4 := hid hb4; have HG4 := hid hg4; clear hz4 hb4 hg4)
    | ((with_reducible refine wpList_storeR rfl rfl _ _ rfl g ?_ (r := { zR with id := t, time := v }) ?_ zR_ok (headR_ok l2) rfl HZ4.out ?_); exact rfl; exact rfl; intro w5 h5 o5; have HRR := hid (RR.mk1 hp HZ1.out HB1.out HG2.out HR3.out HO3.out HB4.out HG4.out h5 (headR_ok l2) o5); clear h5 o5 HZ1 HB1 HG2 HR3 HO3 HB4 HG4 HZ4 H1)
    | (go_at_call 58; refine (one_any _ p _ HRR.out.rd).mono ?_; rintro e w6 ⟨rfl, hr6, ho6⟩; rw [HC.out, show u8 0 = Value.int .u8 0 from rfl]; have HR6 := hid (HRR.out.pp hr6 ho6); clear hr6 ho6 HRR; have c2 := HR6.out.rb.c2; have z2 := HR6.out.rb.free; have hr7 := HR6.out.set2 false; have d2 := hr7.rb.c2; have HRV := hid hr7; have HW := hid (show p < w.heap.size ∧ _ ∧ _ from ⟨hp, HRV.out.zb.at_.lt, HRV.out.only.size⟩); clear hr7 HR6)
    | (go_at_call 59; (with_reducible refine (need_true _ p).mono ?_); rintro e w7 ⟨rfl, hw7⟩; have hw8 := hw7.symm; subst hw8; clear hw7)
    | (go_at_call 67; refine (version_any _ p g _ _ HRV.out.v2).mono ?_; rintro e w7 ⟨R, ps, rfl, q1, q2, q3, k7, hpl, hval⟩; have hone : R.pv.oneCell' = true := (by obtain ⟨_, _, _, e⟩ := hpl.form; rw [e]; rfl); have HR7 := hid (HRV.out.ver k7); have HPL := hid hpl; have HVAL := hid hval; clear q1 q2 q3 k7 hpl hval HRV c2 z2 d2)
    | ((with_reducible refine wpList_load_at 45 _ rfl ?_ g 0 ?_ R.cs (.struct (Try.prog.fieldsOf 45)) ?_ underRec rfl ?_ ?_); exact rfl; exact rfl; exact HR9.out.rb.whole; (rw [HR9.out.ok.size]; exact sizeR))
    | ((with_reducible refine wpList_load_at 45 _ rfl ?_ g 0 ?_ R.cs (.struct (Try.prog.fieldsOf 45)) ?_ underRec rfl ?_ ?_); exact rfl; exact rfl; exact HR7.out.rb.whole; (rw [HR7.out.ok.size]; exact sizeR))
    | (go_at_call 23; refine (check_any R HR7.out.ok ps _ HPL.out.1).mono ?_; rintro e w8 ⟨rfl, hb8⟩; generalize hn : (if okRc (Rv.rc R ps) = true then (0 : Int) else 2) = n; have HN := hid hn; have HR8 := hid (HR7.out.below hb8); replace HPL := hid (HPL.out.only (Only.of_below (S := fun _ => False) hb8) (fun _ h => h.elim)); clear hn hb8 HR7)
    | (go_at_call 59; refine (need_any _ p _ _ HR8.out.rd).mono ?_; rintro e w9 ⟨rfl, hr9, ho9⟩; have HR9 := hid (HR8.out.pp hr9 ho9); replace HPL := hid (HPL.out.only ho9 (fun i e => by have := HW.out; omega)); clear hr9 ho9 HR8)
    | ((with_reducible refine wpList_storeR rfl rfl _ _ rfl g2 ?_ (r := R) ?_ zR_ok HR9.out.ok ?_ HR9.out.zb ?_); exact rfl; exact rfl; exact hone; intro w10 h10 o10; have H10 := hid h10; have O10 := hid o10; replace HPL := hid (HPL.out.only o10 (fun i e => by have := HW.out; omega)); clear h10 o10))
  refine ret_rowR rfl g2 rfl rfl H10.out HR9.out.ok ?_
  obtain ⟨a1, a2⟩ := any_vers HC.out
  obtain ⟨k1, k2⟩ := fin_rec (s := s) (R := R.rc ps) (n := n) (fun rc c h => by
    obtain ⟨x, r, n1, r2, e1, e2, e3⟩ := a2 rc c h
    have b := HVAL.out n1 rc c (by show (oneR (st1 (stT s))).bind (rdD (lst t) n1) = _; rw [F2.out _ _ e1]; exact e3)
    obtain ⟨_, _, _, _, _, _, _, _, _, _, _, _, _, _, _, _, _, rfl⟩ := rdD_val e3
    rw [b]
    simp only [F3.out _ _ e2]) (s7 := stT (stP ((stT (st1 (st1 (stT (st1 (oneR (st1 (stT s)))))))).bind tk32))) (by rw [← a1]; exact (rdD_end _ _ _).symm) HN.out.symm
  exact ⟨R, ps, rfl, HR9.out.ok, PLF.base HPL.out HW.out.2.2, k1 ▸ (HR9.out.rd.only O10.out (fun i e => by have := HR9.out.h1; have := HR9.out.h2; omega)), HR9.out.only.then O10.out (fun i hi e => by have := HR9.out.h1; have := HR9.out.h2; omega), k2⟩
set_option maxRecDepth 100000 in
set_option maxHeartbeats 1000000 in
theorem record_bad (w : World) (p : Nat) (s : Option (List Nat)) (h : Rd w p s) (c : Nat) (hc : oneV (st1 (stT s)) = c) (hc2 : 1 < c) : Calls Try.prog 55 #[ptr p] w (RecS w p s) := by
  have H := hid h
  have HC := hid hc
  have hp := h.lt
  have hc0 : ((c : Int) == 0) = false := by simp; omega
  have hc1 : ((c : Int) == 1) = false := by simp; omega
  clear h hc
  go_enter Try.func55, Try.ntmps55
  go_wp2_with (first
    | ((with_reducible refine wpList_allocR rfl rfl ?_); intro w1 g2 hz1 hb1 hg2; have HZ1 := hid hz1; have HB1 := hid hb1; have HG2 := hid hg2; have H1 := hid (H.out.below hb1); clear hz1 hb1 hg2 H)
    | (go_at_call 43; refine (text_any _ p s H1.out).mono ?_; rintro e w2 ⟨t, rfl, hr2, ho2, l2, f2⟩; have HR2 : Hid (Rd w2 p (stT s)) := hid hr2; have HO2 := hid ho2; have F2 := hid f2; clear hr2 ho2 f2)
    | (go_at_call 41; refine (number_any _ p _ HR2.out).mono ?_; rintro e w3 ⟨v, rfl, hr3, ho3, f3⟩; have HR3 : Hid (Rd w3 p (st1 (stT s))) := hid hr3; have HO3 := hid (HO2.out.trans ho3); have F3 := hid f3; clear hr3 ho3 f3 HR2 HO2)
    | ((with_reducible refine wpList_build_want 45 _ rfl ?_ ({ zR with id := t, time := v } : Rv).cs ?_ ?_); exact rfl; exact built_head t v)
    | ((with_reducible refine wpList_allocR rfl rfl ?_); intro w4 g hz4 hb4 hg4; have HZ4 := hid hz4; have HB4 := hid hb4; have HG4 := hid hg4; clear hz4 hb4 hg4)
    | ((with_reducible refine wpList_storeR rfl rfl _ _ rfl g ?_ (r := { zR with id := t, time := v }) ?_ zR_ok (headR_ok l2) rfl HZ4.out ?_); exact rfl; exact rfl; intro w5 h5 o5; have HRR := hid (RR.mk1 hp HZ1.out HB1.out HG2.out HR3.out HO3.out HB4.out HG4.out h5 (headR_ok l2) o5); clear h5 o5 HZ1 HB1 HG2 HR3 HO3 HB4 HG4 HZ4 H1)
    | (go_at_call 58; refine (one_any _ p _ HRR.out.rd).mono ?_; rintro e w6 ⟨rfl, hr6, ho6⟩; rw [HC.out, show u8 c = Value.int .u8 (c : Int) from rfl]; have HR6 := hid (HRR.out.pp hr6 ho6); clear hr6 ho6 HRR)
    | (go_at_call 59; (with_reducible refine (need_any _ p _ false HR6.out.rd).mono ?_); rintro e w61 ⟨rfl, hr61, ho61⟩; replace HR6 := hid (HR6.out.pp hr61 ho61); clear hr61 ho61; have c2 := HR6.out.rb.c2; have z2 := HR6.out.rb.free; have hr7 := HR6.out.set2 false; have d2 := hr7.rb.c2; have HRV := hid hr7; have HW := hid (show p < w.heap.size ∧ _ ∧ _ from ⟨hp, HRV.out.zb.at_.lt, HRV.out.only.size⟩); clear hr7 HR6)
    | (go_at_call 67; refine (version_any _ p g _ _ HRV.out.v2).mono ?_; rintro e w7 ⟨R, ps, rfl, q1, q2, q3, k7, hpl, hval⟩; have hone : R.pv.oneCell' = true := (by obtain ⟨_, _, _, e⟩ := hpl.form; rw [e]; rfl); have HR7 := hid (HRV.out.ver k7); have HPL := hid hpl; have HVAL := hid hval; clear q1 q2 q3 k7 hpl hval HRV c2 z2 d2)
    | ((with_reducible refine wpList_load_at 45 _ rfl ?_ g 0 ?_ R.cs (.struct (Try.prog.fieldsOf 45)) ?_ underRec rfl ?_ ?_); exact rfl; exact rfl; exact HR9.out.rb.whole; (rw [HR9.out.ok.size]; exact sizeR))
    | ((with_reducible refine wpList_load_at 45 _ rfl ?_ g 0 ?_ R.cs (.struct (Try.prog.fieldsOf 45)) ?_ underRec rfl ?_ ?_); exact rfl; exact rfl; exact HR7.out.rb.whole; (rw [HR7.out.ok.size]; exact sizeR))
    | (go_at_call 23; refine (check_any R HR7.out.ok ps _ HPL.out.1).mono ?_; rintro e w8 ⟨rfl, hb8⟩; generalize hn : (if okRc (Rv.rc R ps) = true then (0 : Int) else 2) = n; have HN := hid hn; have HR8 := hid (HR7.out.below hb8); replace HPL := hid (HPL.out.only (Only.of_below (S := fun _ => False) hb8) (fun _ h => h.elim)); clear hn hb8 HR7)
    | (go_at_call 59; refine (need_any _ p _ _ HR8.out.rd).mono ?_; rintro e w9 ⟨rfl, hr9, ho9⟩; have HR9 := hid (HR8.out.pp hr9 ho9); replace HPL := hid (HPL.out.only ho9 (fun i e => by have := HW.out; omega)); clear hr9 ho9 HR8)
    | ((with_reducible refine wpList_storeR rfl rfl _ _ rfl g2 ?_ (r := R) ?_ zR_ok HR9.out.ok ?_ HR9.out.zb ?_); exact rfl; exact rfl; exact hone; intro w10 h10 o10; have H10 := hid h10; have O10 := hid o10; replace HPL := hid (HPL.out.only o10 (fun i e => by have := HW.out; omega)); clear h10 o10))
  refine ret_rowR rfl g2 rfl rfl H10.out HR9.out.ok ?_
  have a1 := any_none HC.out hc2
  obtain ⟨k1, k2⟩ := fin_rec (s := s) (R := R.rc ps) (n := n) (fun rc c h => by rw [a1] at h; cases h) (by rw [a1]) HN.out.symm
  exact ⟨R, ps, rfl, HR9.out.ok, PLF.base HPL.out HW.out.2.2, k1 ▸ (HR9.out.rd.only O10.out (fun i e => by have := HR9.out.h1; have := HR9.out.h2; omega)), HR9.out.only.then O10.out (fun i hi e => by have := HR9.out.h1; have := HR9.out.h2; omega), k2⟩
theorem record_any (w : World) (p : Nat) (s : Option (List Nat)) (h : Rd w p s) : Calls Try.prog 55 #[ptr p] w (RecS w p s) := by
  by_cases h0 : oneV (st1 (stT s)) = 0
  · exact record_vers w p s h h0
  by_cases h1 : oneV (st1 (stT s)) = 1
  · exact record_mark w p s h h1
  · exact record_bad w p s h _ rfl (by omega)
#print axioms record_any
end Go.Proofs.Ytepkpkbgmchioaa

/- Contract of told of package record, for records. -/
namespace Go.Proofs.Ytepkpkbgmchioaa
open Go Go.RowKit

theorem step_storeR {w : World} {ops : Array Oper} {o : Oper} {a : Act} {K : Act → World → Prop} {Q : Exit → Act → World → Prop} {E : Prop} (hgd : o.guard = none) (hdst : o.dst = none) (x y : Operand) (ho : o.op = .store 45 x y) (g : Nat) (hx : a.eval x = ptr g) {r0 r : Rv} (hy : a.eval y = .agg r.cs) (h0 : r0.ok) (hr : r.ok) (hpv : r.pv.oneCell' = true) (hb : RBox w g r0)
    (h : ∀ w1, RBox w1 g r → Only (fun b => b = g) w w1 → K a w1) : if Region.wanted o (yielded ops a.tmps) = true then Oper.wp Try.prog o a w K Q else E := by
  have hw : Region.wanted o (yielded ops a.tmps) = true := by simp [Region.wanted, hgd]
  rw [if_pos hw]
  obtain ⟨e1, e2⟩ := run_storeR h0 hr hpv hb
  unfold Oper.wp execOp
  simp only [ho, hx, hy, ptr, Sem.run_bind, e1, Result.andThen_ok, Sem.run_pure]
  show K (a.put o.dst undef) _
  rw [hdst]
  exact h _ e2 (only_setRow _ _ _ rfl)
theorem ret_row3 {fn : Func} {q u t : Tmp} (h : fn.results = #[.cell q 45, .tmp u, .tmp t]) {R : Ending → World → Prop} {a : Act} {w : World} (g : Nat) {r : Rv} {v x : Value}
    (hd0 : a.defers = []) (hp : a.tmps.getD q undef = .pointer (some ⟨g, 0, none⟩)) (hv : a.tmps.getD u undef = v) (hx : a.tmps.getD t undef = x) (hb : RBox w g r) (hr : r.ok) (hR : R (.returned (.tuple #[.agg r.cs, v, x])) w) : bodyPost Try.prog fn R .ret a w := by
  refine ⟨hd0, .tuple #[.agg r.cs, v, x], ?_, hR⟩
  have hl := run_loadVar_row (P := Try.prog) w g 45 45 r.cs (0, 0) _ hb.at_ underRec rfl (by rw [hr.size]; exact sizeR)
  simp only [results, h]
  simp only [Array.getD_eq_getD_getElem?] at hp hv hx
  simp [Result.andThen, hp, hv, hx, asAddr, hl]
set_option maxRecDepth 100000 in
set_option maxHeartbeats 300000 in
theorem toldR_bad (w : World) (p : Nat) (r : Rv) (hr : r.ok) (h : Rd w p none) : Calls Try.prog 54 #[ptr p, .agg r.cs] w fun e w' => e = .returned (.tuple #[.agg zR.cs, .slice none 0 0, i64 4]) ∧ Below w.heap.size w w' := by
  have hp := h.lt
  obtain ⟨po, L, h1, hrest⟩ := h
  clear hrest
  have H1 := hid h1
  obtain ⟨Z, hZ⟩ : ∃ Z, zR = Z := ⟨_, rfl⟩
  have zok : Z.ok := hZ ▸ zR_ok
  have zone : Z.pv.oneCell' = true := hZ ▸ rfl
  have HZZ := hid hZ
  have HR := hid hr
  clear h1 hr hZ
  go_enter Try.func54, Try.ntmps54
  go_wp2_with (first
    | ((with_reducible refine wpList_boxR rfl _ rfl r.cs ?_ ?_); exact rfl; intro w1 g1 hc1 hb1 hg1; have HB1 := hid hb1; clear hc1 hb1)
    | ((with_reducible refine wpList_allocR rfl rfl ?_); intro w2 g2 hz2 hb2 hg2; rw [HZZ.out] at hz2; have HZ2 := hid hz2; have HB2 := hid (below_on HB1.out hb2); have HG2 := hid (show w.heap.size ≤ g2 by have := HB1.out.size; omega); clear hz2 hb2 hg2 HB1; have c1 := (H1.out.below HB2.out).cell 1; simp at c1)
    | ((with_reducible refine wpList_allocR rfl rfl ?_); intro w3 g3 hz3 hb3 hg3; rw [HZZ.out] at hz3; have HZ3 := hid hz3; have HG3 := hid (show g2 < g3 by have := HZ2.out.at_.lt; omega); have HB3 := hid (below_on HB2.out hb3); have HZ4 := hid (HZ2.out.below zok hb3); clear hz3 hb3 hg3 HZ2 HB2 c1))
  have HSF : Hid (∀ W, Only (fun b => b = g2) w3 W → (Instr.loadAt 45 (.pointer (some ⟨g3, 0, none⟩))).run Try.prog W = .ok (.agg Z.cs) W ∧ W.cell? ⟨p, 1, none⟩ = some (i64 4)) := fun W ho =>
    ⟨run_loadR zok (HZ3.out.only zok ho (by have := HG3.out; omega)), by
      have := ((H1.out.below HB3.out).keep (ho.block p (by have := HB3.out.size; omega) (by have := HG2.out; omega))).cell 1
      simpa using this⟩
  refine wp_region_held_drew (S := fun W => (Instr.loadAt 45 (.pointer (some ⟨g3, 0, none⟩))).run Try.prog W = .ok (.agg Z.cs) W ∧ W.cell? ⟨p, 1, none⟩ = some (i64 4)) (by kernel_rfl) (HSF.out _ (Only.of_below (below_drew _))) (fun hHeld => ?_)
  refine wpAnyH_take (i := 0) (oi := ⟨some 13, .load 45 (.tmp 7), 45, _, _, none⟩) (v := .agg Z.cs) rfl (by kernel_rfl) (by kernel_rfl) (by kernel_rfl) (fun _ _ _ h => h) (Or.inl ⟨by rfl, fun W hW => exec_load rfl rfl hW.1⟩) hHeld ?_
  refine wpAnyH_take (i := 1) (oi := ⟨some 14, .move (.tmp 0), 66, _, _, none⟩) (v := ptr p) rfl (by kernel_rfl) (by kernel_rfl) (by kernel_rfl) (fun _ _ _ h => h) (Or.inl ⟨by rfl, by intro W hW; go_simp⟩) hHeld ?_
  refine wpAnyH_take (i := 2) (oi := ⟨some 15, .nilCheck (.tmp 14), 0, _, _, none⟩) (v := ptr p) rfl (by kernel_rfl) (by kernel_rfl) (by kernel_rfl) (fun _ _ _ h => h) (Or.inl ⟨by rfl, by intro W hW; go_simp⟩) hHeld ?_
  refine wpAnyH_take (i := 3) (oi := ⟨some 16, .fieldAddr 83 (.tmp 15) 1, 0, _, _, none⟩) (v := .pointer (some ⟨p, 1, none⟩)) rfl (by kernel_rfl) (by kernel_rfl) (by kernel_rfl) (fun _ _ _ h => h) (Or.inl ⟨by rfl, by intro W hW; go_simp⟩) hHeld ?_
  refine wpAnyH_take (i := 4) (oi := ⟨some 17, .load 23 (.tmp 16), 23, _, _, none⟩) (v := i64 4) rfl (by kernel_rfl) (by kernel_rfl) (by kernel_rfl) (fun _ _ _ h => h) (Or.inl ⟨by rfl, by intro W hW; have c1 := hW.2; go_simp⟩) hHeld ?_
  refine wpAnyH_ready (rs := [5]) (by kernel_rfl) (by simp) ?_
  refine AllReadyH.cons (o := ⟨none, .store 45 (.tmp 4) (.tmp 13), _, _, _, none⟩) rfl (fun K hK => ?_) AllReadyH.nil
  with_reducible refine step_storeR ?_ ?_ (.tmp 4) (.tmp 13) ?_ g2 ?_ (r := Z) ?_ zok zok zone (HZ4.out.below zok (below_drew _)) ?_
  · exact rfl
  · exact rfl
  · exact rfl
  · kernel_rfl
  · kernel_rfl
  intro w5 h5 o5
  have H5 := hid h5
  have O5 := hid ((Only.of_below (below_drew w3)).trans o5)
  clear h5 o5
  refine hK.out _ _ (HSF.out _ O5.out) (fun hHeld => ?_)
  clear hK K
  refine wpAnyH_take (i := 6) (oi := ⟨some 5, .assign (.const (.slice none 0 0)), 22, _, _, none⟩) (v := .slice none 0 0) rfl (by kernel_rfl) (by kernel_rfl) (by kernel_rfl) (fun _ _ _ h => h) (Or.inl ⟨by rfl, by intro W hW; go_simp⟩) hHeld ?_
  refine wpAnyH_take (i := 7) (oi := ⟨some 6, .assign (.tmp 17), 23, _, _, none⟩) (v := i64 4) rfl (by kernel_rfl) (by kernel_rfl) (by kernel_rfl) (fun _ _ _ h => h) (Or.inl ⟨by rfl, by intro W hW; go_simp⟩) hHeld ?_
  refine wpAnyH_done (by kernel_rfl) ?_ _
  simp only [Act.put, List.setIfInBounds_toArray, List.set_cons_zero, List.set_cons_succ]
  go_wp2
  refine ret_row3 rfl g2 (v := .slice none 0 0) (x := i64 4) rfl rfl rfl rfl H5.out zok ⟨by rw [HZZ.out], ?_⟩
  exact below_tr HB3.out (O5.out.below HB3.out.size (fun i e => by have := HG2.out; omega))
def TolR (w : World) (L : List Nat) (r : Rv) (e : Ending) (w' : World) : Prop := ∃ out, e = .returned (.tuple #[.agg r.cs, out, i64 0]) ∧ OutB w.heap.size w' out L ∧ Below w.heap.size w w'
set_option maxRecDepth 100000 in
set_option maxHeartbeats 300000 in
theorem toldR_ok (w : World) (p : Nat) (r : Rv) (hr : r.ok) (hone : r.pv.oneCell' = true) (M : List Nat) (h : Rd w p (some M)) : Calls Try.prog 54 #[ptr p, .agg r.cs] w (TolR w M r) := by
  have hp := h.lt
  obtain ⟨po, L, h1, h2, h3, h4, h5, h6, h7⟩ := h
  have e : M = L := by rcases h5 with h | h <;> cases h; rfl
  subst e
  have H1 := hid h1
  have H2 := hid h2
  have H4 := hid h4
  obtain ⟨Z, hZ⟩ : ∃ Z, zR = Z := ⟨_, rfl⟩
  have zok : Z.ok := hZ ▸ zR_ok
  have HZZ := hid hZ
  have HR := hid hr
  clear h1 hr hZ h2 h3 h4 h5 h7
  go_enter Try.func54, Try.ntmps54
  go_wp2_with (first
    | ((with_reducible refine wpList_boxR rfl _ rfl r.cs ?_ ?_); exact rfl; intro w1 g1 hc1 hb1 hg1; have HA1 := hid (RBox.mk' HR.out hc1); have HB1 := hid hb1; clear hc1 hb1)
    | ((with_reducible refine wpList_allocR rfl rfl ?_); intro w2 g2 hz2 hb2 hg2; rw [HZZ.out] at hz2; have HZ2 := hid hz2; have HA2 := hid (HA1.out.below HR.out hb2); have HB2 := hid (below_on HB1.out hb2); have HG2 := hid (show w.heap.size ≤ g2 ∧ g1 < g2 by have := HB1.out.size; have := HA1.out.at_.lt; omega); clear hz2 hb2 hg2 HB1 HA1; have c1 := (H1.out.below HB2.out).cell 1; simp at c1))
  clear c1
  have HSF : Hid (∀ W, Only (fun b => b = g2) w2 W → (Instr.loadAt 45 (.pointer (some ⟨g1, 0, none⟩))).run Try.prog W = .ok (.agg r.cs) W ∧ W.cell? ⟨p, 0, none⟩ = some (.slice po M.length M.length)) := fun W ho =>
    ⟨run_loadR HR.out (HA2.out.only HR.out ho (by have := HG2.out; omega)), by
      have := ((H1.out.below HB2.out).keep (ho.block p (by have := HB2.out.size; omega) (by have := HG2.out; omega))).cell 0
      simpa using this⟩
  refine wp_region_held_drew (S := fun W => (Instr.loadAt 45 (.pointer (some ⟨g1, 0, none⟩))).run Try.prog W = .ok (.agg r.cs) W ∧ W.cell? ⟨p, 0, none⟩ = some (.slice po M.length M.length)) (by kernel_rfl) (HSF.out _ (Only.of_below (below_drew _))) (fun hHeld => ?_)
  refine wpAnyH_take (i := 0) (oi := ⟨some 18, .load 45 (.tmp 3), 45, _, _, none⟩) (v := .agg r.cs) rfl (by kernel_rfl) (by kernel_rfl) (by kernel_rfl) (fun _ _ _ h => h) (Or.inl ⟨by rfl, fun W hW => exec_load rfl rfl hW.1⟩) hHeld ?_
  refine wpAnyH_take (i := 1) (oi := ⟨some 19, .move (.tmp 0), 66, _, _, none⟩) (v := ptr p) rfl (by kernel_rfl) (by kernel_rfl) (by kernel_rfl) (fun _ _ _ h => h) (Or.inl ⟨by rfl, by intro W hW; go_simp⟩) hHeld ?_
  refine wpAnyH_take (i := 2) (oi := ⟨some 20, .nilCheck (.tmp 19), 0, _, _, none⟩) (v := ptr p) rfl (by kernel_rfl) (by kernel_rfl) (by kernel_rfl) (fun _ _ _ h => h) (Or.inl ⟨by rfl, by intro W hW; go_simp⟩) hHeld ?_
  refine wpAnyH_take (i := 3) (oi := ⟨some 21, .fieldAddr 83 (.tmp 20) 0, 0, _, _, none⟩) (v := .pointer (some ⟨p, 0, none⟩)) rfl (by kernel_rfl) (by kernel_rfl) (by kernel_rfl) (fun _ _ _ h => h) (Or.inl ⟨by rfl, by intro W hW; go_simp⟩) hHeld ?_
  refine wpAnyH_take (i := 4) (oi := ⟨some 22, .load 22 (.tmp 21), 22, _, _, none⟩) (v := .slice po M.length M.length) rfl (by kernel_rfl) (by kernel_rfl) (by kernel_rfl) (fun _ _ _ h => h) (Or.inl ⟨by rfl, by intro W hW; have c1 := hW.2; go_simp⟩) hHeld ?_
  refine wpAnyH_ready (rs := [5]) (by kernel_rfl) (by simp) ?_
  refine AllReadyH.cons rfl (fun K hK => ?_) AllReadyH.nil
  go_simp
  refine (fresh_any po M.length M _ (H2.out.below (below_on HB2.out (below_drew _))) (fun e => by rw [H4.out e]; rfl) (by omega)).mono ?_
  rintro e w3 ⟨v3, rfl, ho3, hb3⟩
  have HO3 := hid ho3
  have HB3 := hid (below_on (below_drew w2) hb3)
  clear ho3 hb3
  go_wp2_with fail
  refine hK.out _ _ (HSF.out _ (Only.of_below HB3.out)) (fun hHeld => ?_)
  clear hK K
  refine wpAnyH_ready (rs := [6]) (by kernel_rfl) (by simp) ?_
  refine AllReadyH.cons (o := ⟨none, .store 45 (.tmp 4) (.tmp 18), _, _, _, none⟩) rfl (fun K hK => ?_) AllReadyH.nil
  with_reducible refine step_storeR ?_ ?_ (.tmp 4) (.tmp 18) ?_ g2 ?_ (r := r) ?_ zok HR.out hone (HZ2.out.below zok HB3.out) ?_
  · exact rfl
  · exact rfl
  · exact rfl
  · kernel_rfl
  · kernel_rfl
  intro w5 h5 o5
  have H5 := hid h5
  have O5 := hid ((Only.of_below HB3.out).trans o5)
  have HO5 := hid (HO3.out.only o5 (fun i e => by have h1 := (HO3.out.blk i e).1; have h2 : w2.heap.size ≤ i := h1; have := HZ2.out.at_.lt; omega))
  clear h5 o5
  refine hK.out _ _ (HSF.out _ O5.out) (fun hHeld => ?_)
  clear hK K
  refine wpAnyH_take (i := 7) (oi := ⟨some 5, .assign (.tmp 23), 22, _, _, none⟩) (v := v3) rfl (by kernel_rfl) (by kernel_rfl) (by kernel_rfl) (fun _ _ _ h => h) (Or.inl ⟨by rfl, by intro W hW; go_simp⟩) hHeld ?_
  refine wpAnyH_take (i := 8) (oi := ⟨some 6, .assign (.const (.int .i64 0)), 23, _, _, none⟩) (v := i64 0) rfl (by kernel_rfl) (by kernel_rfl) (by kernel_rfl) (fun _ _ _ h => h) (Or.inl ⟨by rfl, by intro W hW; go_simp⟩) hHeld ?_
  refine wpAnyH_done (by kernel_rfl) ?_ _
  simp only [Act.put, List.setIfInBounds_toArray, List.set_cons_zero, List.set_cons_succ]
  go_wp2
  refine ret_row3 rfl g2 (v := v3) (x := i64 0) rfl rfl rfl rfl H5.out HR.out ⟨v3, rfl, HO5.out.base HB2.out.size, ?_⟩
  exact below_tr HB2.out (O5.out.below HB2.out.size (fun i e => by have := HG2.out; omega))
end Go.Proofs.Ytepkpkbgmchioaa

/- Contract of Read of package record. -/
namespace Go.Proofs.Ytepkpkbgmchioaa
open Go Go.RowKit

def ReadOk (w : World) (rc : Rc) (L : List Nat) (e : Ending) (w' : World) : Prop := ∃ (r : Rv) (ps : Ps) (out : Value), e = .returned (.tuple #[.agg r.cs, out, i64 0]) ∧ r.ok ∧ r.rc ps = rc ∧ PLF w.heap.size w' r.pv ps ∧ OutB w.heap.size w' out L ∧ Below w.heap.size w w'
set_option maxRecDepth 100000 in
set_option maxHeartbeats 400000 in
theorem read_bad (po : Option Addr) (c : Nat) (bs : List Nat) (w : World) (h : BL w po bs) (hc : bs.length ≤ c) (hn : bs.length ≤ 100000) (h8 : ∀ x ∈ bs, x < 256) (hq : rdR bs = none) :
    Calls Try.prog 30 #[.slice po bs.length c] w fun e w' => e = .returned (.tuple #[.agg zR.cs, .slice none 0 0, i64 4]) ∧ Below w.heap.size w w' := by
  have hro := fun w1 (hb : Below w.heap.size w w1) => readerOf_any po c bs w1 (h.below hb) hc hn h8
  have HRO := hid hro
  have HQ : Hid ((some bs).bind rdR = none) := hid hq
  clear h h8 hq hro
  go_enter Try.func30, Try.ntmps30
  go_wp2_with (first
    | ((with_reducible refine wpList_allocR rfl rfl ?_); intro w1 g1 hz1 hb1 hg1; have HZ1 := hid hz1; have HB1 := hid hb1; clear hz1 hb1)
    | (go_at_call 39; refine (HRO.out _ HB1.out).mono ?_; rintro e w2 ⟨rfl, hr2, hb2⟩; have HZ2 := hid (And.intro HZ1.out.at_.lt (HZ1.out.below zR_ok hb2)); have HB2 := hid (below_on HB1.out hb2); have HR2 := hid hr2; clear hr2 hb2 HZ1)
    | (go_at_call 55; refine (record_any _ _ _ HR2.out).mono ?_; rintro e w3 ⟨r, ps, rfl, hok, hpl, hr3, ho3, hval⟩; have HB3 := hid (below_tr HB2.out (ho3.below HB2.out.size (fun i e => by have := HB1.out.size; omega))); have HZ3 := hid (HZ2.out.2.only zR_ok ho3 (by have := HZ2.out.1; omega)); have HK := hid hok; rw [HQ.out] at hr3; have HR3 := hid hr3; clear hr3 ho3 hpl hok hval HR2)
    | (go_at_call 54; refine (toldR_bad _ _ r HK.out HR3.out).mono ?_; rintro e w4 ⟨rfl, hb4⟩; have HZ4 := hid (HZ3.out.below zR_ok hb4); have HB4 := hid (below_on HB3.out hb4); clear hb4)
    | ((with_reducible refine wpList_storeR rfl rfl _ _ rfl g1 ?_ (r := zR) ?_ zR_ok zR_ok rfl HZ4.out ?_); exact rfl; exact rfl; intro w5 h5 o5; have H5 := hid h5; have O5 := hid o5; clear h5 o5))
  refine ret_row3 rfl g1 (v := .slice none 0 0) (x := i64 4) rfl rfl rfl rfl H5.out zR_ok ⟨rfl, ?_⟩
  exact below_tr HB4.out (O5.out.below HB4.out.size (fun i e => by omega))
set_option maxRecDepth 100000 in
set_option maxHeartbeats 400000 in
theorem read_ok (po : Option Addr) (c : Nat) (bs : List Nat) (w : World) (h : BL w po bs) (hc : bs.length ≤ c) (hn : bs.length ≤ 100000) (h8 : ∀ x ∈ bs, x < 256) {rc : Rc} {L : List Nat} (hq : rdR bs = some (rc, L)) :
    Calls Try.prog 30 #[.slice po bs.length c] w (ReadOk w rc L) := by
  have hro := fun w1 (hb : Below w.heap.size w w1) => readerOf_any po c bs w1 (h.below hb) hc hn h8
  have HRO := hid hro
  have HQ : Hid ((some bs).bind rdR = some (rc, L)) := hid hq
  clear h h8 hq hro
  go_enter Try.func30, Try.ntmps30
  go_wp2_with (first
    | ((with_reducible refine wpList_allocR rfl rfl ?_); intro w1 g1 hz1 hb1 hg1; have HZ1 := hid hz1; have HB1 := hid hb1; clear hz1 hb1)
    | (go_at_call 39; refine (HRO.out _ HB1.out).mono ?_; rintro e w2 ⟨rfl, hr2, hb2⟩; have HZ2 := hid (And.intro HZ1.out.at_.lt (HZ1.out.below zR_ok hb2)); have HB2 := hid (below_on HB1.out hb2); have HR2 := hid hr2; clear hr2 hb2 HZ1)
    | (go_at_call 55; refine (record_any _ _ _ HR2.out).mono ?_; rintro e w3 ⟨r, ps, rfl, hok, hpl, hr3, ho3, hval⟩; have HB3 := hid (below_tr HB2.out (ho3.below HB2.out.size (fun i e => by have := HB1.out.size; omega))); have HZ3 := hid (HZ2.out.2.only zR_ok ho3 (by have := HZ2.out.1; omega)); have HK := hid hok; rw [HQ.out] at hr3; have HR3 := hid hr3; have HVAL := hid (hval _ _ HQ.out); have hone : r.pv.oneCell' = true := (by obtain ⟨_, _, _, e⟩ := hpl.form; rw [e]; rfl); have HPL := hid hpl; clear hr3 ho3 hpl hok hval HR2)
    | (go_at_call 54; refine (toldR_ok _ _ r HK.out hone L HR3.out).mono ?_; rintro e w4 ⟨out, rfl, hout, hb4⟩; have HOUT := hid hout; have HZ4 := hid (HZ3.out.below zR_ok hb4); have HB4 := hid (below_on HB3.out hb4); have HPL4 := hid (HPL.out.only (Only.of_below (S := fun _ => False) hb4) (fun _ h => h.elim)); clear hb4 hout)
    | ((with_reducible refine wpList_storeR rfl rfl _ _ rfl g1 ?_ (r := r) ?_ zR_ok HK.out hone HZ4.out ?_); exact rfl; exact rfl; intro w5 h5 o5; have H5 := hid h5; have O5 := hid o5; clear h5 o5))
  refine ret_row3 rfl g1 (v := out) (x := i64 0) rfl rfl rfl rfl H5.out HK.out ?_
  have l1 := HZ2.out.1
  have l2 := HB2.out.size
  have l3 := HB3.out.size
  have l4 := HB1.out.size
  have l5 := HZ3.out.at_.lt
  have l6 := HZ2.out.2.at_.lt
  refine ⟨r, ps, out, rfl, HK.out, HVAL.out, PLF.base (HPL4.out.only O5.out (fun i e => by omega)) l2, OutB.base (HOUT.out.only O5.out (fun i e => by have := (HOUT.out.blk i e).1; omega)) l3, ?_⟩
  exact below_tr HB4.out (O5.out.below HB4.out.size (fun i e => by omega))
#print axioms read_ok
#print axioms read_bad
end Go.Proofs.Ytepkpkbgmchioaa
