/- Texts laid into one, cut to what is needed: the remark ahead of each part says what is proved there. -/
import Derived.Test.YtelkijiphhoacaaGreatDoorMaf
import Derived.Test.YtelkijiphhoacaaGreatDoorMad
/- Contract of parts of the reader of package record. -/
namespace Go.Proofs.YtelkijiphhoacaaGreatDoor
open Go Go.RowKit

def flatP (ps : Ps) : List Value := ps.flatMap fun p => [i64 p.1, i64 p.2]
theorem flatP_get : ∀ (ps : Ps) (i : Nat), i < ps.length → (flatP ps)[i * 2]? = some (i64 (ps.getD i (0, 0)).1) ∧ (flatP ps)[i * 2 + 1]? = some (i64 (ps.getD i (0, 0)).2)
  | [], i, h => by simp at h
  | p :: r, 0, _ => by simp [flatP]
  | p :: r, i + 1, h => by
    have ih := flatP_get r i (by simpa using h)
    have e : flatP (p :: r) = i64 p.1 :: i64 p.2 :: flatP r := rfl
    rw [e, show (i + 1) * 2 = i * 2 + 1 + 1 by omega]
    simpa using ih
/-- Parts in a row of their own. -/
def PBuf (B : Nat) (w : World) (v : Value) (ps : Ps) : Prop := w.ownsRow B 103 2 v ps.length (flatP ps)
theorem Tryz.infoP : (Tryz.prog.info? 103).map (fun i => (i.zero, i.size, i.bytes)) = some (some (.agg #[.int .i64 0, .int .i64 0]), 2, 16) := by kernel_rfl
/-- Parts in memory of no block below B, that may be written; none only where there is no room. -/
def PLF (B : Nat) (w : World) (v : Value) (ps : Ps) : Prop := PL w v ps ∧ (∀ a n c, v = .slice (some a) n c → ps ≠ [] → B ≤ a.block ∧ ∃ cs, CAt w a.block cs 103) ∧ ∀ n c, v = .slice none n c → c = 0
theorem PLF.nil (B : Nat) (w : World) : PLF B w (.slice none 0 0) [] := ⟨PL.nil w, fun _ _ _ _ h => (h rfl).elim, fun _ _ h => by cases h; rfl⟩
theorem PLF.only {B : Nat} {w w' : World} {v : Value} {ps : Ps} {S : Nat → Prop} (h : PLF B w v ps) (hO : Only S w w') (hS : ∀ i, S i → i < B) : PLF B w' v ps := by
  obtain ⟨⟨po, c, h1, h2, h3, h⟩, hB, hz⟩ := h
  refine ⟨⟨po, c, h1, h2, h3, ?_⟩, fun a n c e hne => ?_, hz⟩
  · rcases h with h | ⟨b, o, hp, h⟩
    · exact Or.inl h
    · refine Or.inr ⟨b, o, hp, fun i hi => ?_⟩
      have hb : B ≤ b := (hB ⟨b, o, none⟩ _ _ (by rw [h1, hp]) (fun e => by rw [e] at hi; cases hi)).1
      have hk : w'.heap[b]? = w.heap[b]? := hO.block b (cell_lt' (a := ⟨b, o + i * 2, none⟩) (by rw [(h i hi).1]; simp)) (fun e => by have := hS _ e; omega)
      exact ⟨(World.cell?_of_block (a := ⟨b, o + i * 2, none⟩) hk).trans (h i hi).1, (World.cell?_of_block (a := ⟨b, o + i * 2 + 1, none⟩) hk).trans (h i hi).2⟩
  · obtain ⟨k1, cs, k2⟩ := hB a n c e hne
    exact ⟨k1, cs, k2.keep (hO.block a.block k2.lt fun k => by have := hS _ k; omega)⟩
theorem PBuf.nil (B : Nat) (w : World) : PBuf B w (.slice none 0 0) [] := World.ownsRow_nil w B _ 2
theorem PBuf.form {B : Nat} {w : World} {v : Value} {ps : Ps} (h : PBuf B w v ps) : ∃ po c, v = .slice po ps.length c ∧ ps.length ≤ c := by
  rcases h.2 with ⟨rfl, h0⟩ | ⟨g, cap, cur, rfl, _, _, h1, _⟩
  · exact ⟨none, 0, by rw [h0], by omega⟩
  · exact ⟨_, cap, rfl, h1⟩
theorem PBuf.pl {B : Nat} {w : World} {po : Option Addr} {n c : Nat} {ps : Ps} (h : PBuf B w (.slice po n c) ps) (hn : ps.length ≤ 100000) (c' : Nat) (hc : ps.length ≤ c') (hz : c' = ps.length ∨ c' = c) : n = ps.length ∧ PLF B w (.slice po ps.length c') ps := by
  rcases h.2 with ⟨e, h0⟩ | ⟨g, cap, cur, e, hB, hg, h1, _, h3, h4⟩
  · simp at e
    exact ⟨by omega, ⟨po, c', rfl, hc, hn, Or.inl (List.eq_nil_of_length_eq_zero h0)⟩, fun a n c _ h => (h (List.eq_nil_of_length_eq_zero h0)).elim, fun n c2 e2 => by cases e2; omega⟩
  · cases e
    refine ⟨rfl, ⟨_, c', rfl, hc, hn, Or.inr ⟨g, 0, rfl, fun i hi => ?_⟩⟩, fun a n c h _ => by cases h; exact ⟨hB, _, hg⟩, fun n c e => by cases e⟩
    have hc2 : CAt w g cur 103 := hg
    obtain ⟨a1, a2⟩ := flatP_get ps i hi
    rw [← h4] at a1 a2
    rw [Nat.zero_add, hc2.cell, hc2.cell]
    constructor
    · rw [List.getElem?_take, if_pos (by omega)] at a1; simpa using a1
    · rw [List.getElem?_take, if_pos (by omega)] at a2; simpa using a2
theorem PBuf.push {B : Nat} {w : World} {v : Value} {ps : Ps} (h : PBuf B w v ps) (x y : Int) (hn : ps.length ≤ 1000000) (hB : B ≤ w.heap.size) :
    ∃ v' w', (Builtin.append_ #[72, 72] 72 #[v, .slice (some ⟨w.heap.size, 0, none⟩) 1 1]).run Tryz.prog (w.alloc (.cells #[i64 x, i64 y] 103)) = .ok v' w' ∧ PBuf B w' v' (ps ++ [(x, y)]) ∧ (w.alloc (.cells #[i64 x, i64 y] 103)).grownBy w' v.ownBlock := by
  obtain ⟨i0, hi0, hz0, hz1, hz2⟩ := info_parts Tryz.infoP
  have h2 : (w.alloc (.cells #[i64 x, i64 y] 103)).ownsRow B 103 2 v ps.length (flatP ps) := h.alloc _
  have hc : CAt (w.alloc (.cells #[i64 x, i64 y] 103)) w.heap.size #[i64 x, i64 y] 103 := CAt.made w _ _
  obtain ⟨v', w', hr, h3, h4, _, _⟩ := run_append_own_at (P := Tryz.prog) (w.alloc (.cells #[i64 x, i64 y] 103)) B 72 72 103 i0 _ 2 16 Tryz.underlying72 hi0 hz0 hz1 hz2 rfl (by decide) v ps.length (flatP ps) h2 ⟨w.heap.size, 0, none⟩ 1 1 [i64 x, i64 y] rfl (fun j u hj => by
      rw [add_none, Nat.zero_add, hc.cell]
      rcases j with _ | _ | j
      · simpa using hj
      · simpa using hj
      · simp at hj) (by intro u hu; simp at hu; rcases hu with rfl | rfl <;> rfl) (by unfold maxLen; omega) (by omega) (by rw [size_al]; omega)
  refine ⟨v', w', hr, ?_, h4⟩
  unfold PBuf
  rw [show flatP (ps ++ [(x, y)]) = flatP ps ++ [i64 x, i64 y] by simp [flatP]]
  simpa using h3
theorem elemP (w : World) : (sizeOf (Tryz.prog.elem 72)).run Tryz.prog w = .ok 2 w := by
  have hi : (Tryz.prog.info? (Tryz.prog.elem 72)).map (·.size) = some 2 := by kernel_rfl
  obtain ⟨i, h1, h2⟩ := Option.map_eq_some_iff.1 hi
  simp [sizeOf, typeInfo, h1, h2]
theorem underEP : Tryz.prog.underlying 72 = some (.slice (Tryz.prog.elem 72)) := by kernel_rfl
theorem run_clipP (po : Option Addr) (n c : Nat) (h : n ≤ c) (w : World) : (Instr.slice 72 (.slice po n c) none (some (.int .i64 (n : Int))) (some (.int .i64 (n : Int)))).run Tryz.prog w = .ok (.slice po n n) w := by
  rw [run_slice_hm (P := Tryz.prog) w 72 po n c underEP .i64 .i64 (n : Int) (n : Int) (by omega) (by omega) (by omega), elemP]
  cases po with
  | none => simp [Result.andThen, sliced]
  | some a =>
    by_cases h0 : n = 0
    · simp [Result.andThen, sliced, h0]
    · simp [Result.andThen, sliced, h0, add_zero']
theorem clipP_any (po : Option Addr) (n c : Nat) (hc : n ≤ c) (w : World) : Calls Tryz.prog 114 #[.slice po n c] w fun e w' => e = .returned (.slice po n n) ∧ w' = w := by
  have hs := run_clipP po n c hc
  go_enter Tryz.func114, Tryz.ntmps114
  go_wp2
  go_ret
  exact ⟨rfl, rfl⟩
/-- How many parts there are, and these. -/
def rdP (s : Option (List Nat)) : Option (Ps × List Nat) := s.bind fun L => (rdU L).bind fun q => if 32 < q.1 then none else rdPs q.1 q.2
def ParS (w : World) (p : Nat) (s : Option (List Nat)) (e : Ending) (w' : World) : Prop :=
  ∃ (v : Value) (ps : Ps), e = .returned v ∧ PLF w.heap.size w' v ps ∧ Rd w' p ((rdP s).map (·.2)) ∧ Only (fun b => b = p) w w' ∧ ∀ qs r, rdP s = some (qs, r) → ps = qs
theorem rdP_none {s : Option (List Nat)} (h : s.bind rdU = none) : rdP s = none := by
  unfold rdP
  cases s with
  | none => rfl
  | some L => have h' : rdU L = none := h; simp [h']
theorem rdP_some {s : Option (List Nat)} {n : Nat} {c : List Nat} (h : s.bind rdU = some (n, c)) : rdP s = if 32 < n then none else rdPs n c := by
  unfold rdP
  cases s with
  | none => cases h
  | some L => have h' : rdU L = some (n, c) := h; simp [h']
theorem PBuf.keep {B : Nat} {w w' : World} {v : Value} {ps : Ps} (h : PBuf B w v ps) (hk : ∀ b, v.ownBlock = some b → w'.heap[b]? = w.heap[b]?) : PBuf B w' v ps := ownsRow_keep h hk
set_option maxRecDepth 100000 in
set_option maxHeartbeats 1000000 in
theorem parts_bad (w : World) (p : Nat) (s : Option (List Nat)) (h : Rd w p s) (hq : ∀ n c, s.bind rdU = some (n, c) → 32 < n) : Calls Tryz.prog 113 #[ptr p] w (ParS w p s) := by
  have hnum := number_any w p s h
  have HP : Hid (rdP s = none) := by
    cases hs : s.bind rdU with
    | none => exact rdP_none hs
    | some q => obtain ⟨n, c⟩ := q; have e := rdP_some hs; rw [if_pos (hq n c hs)] at e; exact e
  clear h
  cases hs : s.bind rdU with
  | none =>
    have HS := hid hs
    clear hs hq
    go_enter Tryz.func113, Tryz.ntmps113
    go_wp2_with (first
      | (go_at_call 106; refine hnum.mono ?_; rintro e w1 ⟨v, rfl, hr1, ho1, _⟩; rw [HS.out] at hr1; have HR1 := hid hr1; have HO1 := hid ho1; clear hr1 ho1)
      | (go_at_call 110; refine (need_gone _ p _ HR1.out).mono ?_; rintro e w2 ⟨rfl, hw2⟩; have hw3 := hw2.symm; subst hw3))
    obtain ⟨po1, L1, k1, _⟩ := HR1.out
    have c1 := k1.cell 1
    simp at c1
    clear k1
    refine wp_loop_rounds 1 ?_
    rw [rounds_succ]
    by_cases hv : (0 : Int) < v <;>
    · go_wp2_with (go_at_call 114; refine (clipP_any none 0 0 (Nat.le_refl _) _).mono ?_; rintro e w2 ⟨rfl, hw2⟩; have hw3 := hw2.symm; subst hw3)
      go_ret
      exact ⟨_, [], rfl, PLF.nil _ _, by rw [HP.out]; exact HR1.out, HO1.out, fun qs r h => by rw [HP.out] at h; cases h⟩
  | some q =>
    obtain ⟨n, c⟩ := q
    have hbig := hq n c hs
    have hbig' : ¬ (n : Int) ≤ 32 := by omega
    have HS := hid hs
    clear hs hq
    go_enter Tryz.func113, Tryz.ntmps113
    go_wp2_with (first
      | (go_at_call 106; refine hnum.mono ?_; rintro e w1 ⟨v, rfl, hr1, ho1, hv⟩; have hv2 := hv n c HS.out; subst hv2; rw [HS.out] at hr1; have HR1 := hid hr1; have HO1 := hid ho1; clear hr1 ho1 hv)
      | (go_at_call 110; refine (need_any _ p _ _ HR1.out).mono ?_; rintro e w2 ⟨rfl, hr2, ho2⟩; have HR2 : Hid (Rd w2 p none) := hid (by have hz : ¬ ((n : Int) ≤ 32) := (by omega); simpa [hz] using hr2); have HO2 := hid ho2; clear hr2 ho2))
    obtain ⟨po1, L1, k1, _⟩ := HR2.out
    have c1 := k1.cell 1
    simp at c1
    clear k1
    refine wp_loop_rounds 1 ?_
    rw [rounds_succ]
    go_wp2_with (go_at_call 114; refine (clipP_any none 0 0 (Nat.le_refl _) _).mono ?_; rintro e w3 ⟨rfl, hw2⟩; have hw3 := hw2.symm; subst hw3)
    go_ret
    exact ⟨_, [], rfl, PLF.nil _ _, by rw [HP.out]; exact HR2.out, HO1.out.trans HO2.out, fun qs r h => by rw [HP.out] at h; cases h⟩
end Go.Proofs.YtelkijiphhoacaaGreatDoor

/- Contract of parts of the reader of package record: the loop. -/
namespace Go.Proofs.YtelkijiphhoacaaGreatDoor
open Go Go.RowKit

/-- So many parts have been read; what is left of them. -/
def PAcc (n : Nat) (c : List Nat) (k : Nat) (qs : Ps) (st : Option (List Nat)) : Prop := qs.length = k ∧ match st with
  | none => rdPs n c = none
  | some d => rdPs n c = (rdPs (n - k) d).map fun q => (qs ++ q.1, q.2)
theorem PAcc.start (n : Nat) (c : List Nat) : PAcc n c 0 [] (some c) := ⟨rfl, by simp⟩
theorem rdPs_succ (n : Nat) (b : List Nat) : rdPs (n + 1) b = (rdU b).bind fun q => (rdU q.2).bind fun q2 => (rdPs n q2.2).bind fun q3 => some (((q.1 : Int), (q2.1 : Int)) :: q3.1, q3.2) := by
  rw [rdPs]; rfl
theorem PAcc.next {n k : Nat} {c d : List Nat} {qs : Ps} (h : PAcc n c k qs (some d)) (hk : k < n) {x y : Int} (hx : ∀ m r, rdU d = some (m, r) → x = m) (hy : ∀ m r, ((rdU d).map (·.2)).bind rdU = some (m, r) → y = m) :
    PAcc n c (k + 1) (qs ++ [(x, y)]) ((((rdU d).map (·.2)).bind rdU).map (·.2)) := by
  refine ⟨by simp [h.1], ?_⟩
  have h2 : rdPs n c = (rdPs (n - k) d).map fun q => (qs ++ q.1, q.2) := h.2
  rw [show n - k = (n - (k + 1)) + 1 by omega, rdPs_succ] at h2
  cases e1 : rdU d with
  | none => rw [e1] at h2; exact h2
  | some q =>
    obtain ⟨m1, d1⟩ := q
    rw [e1] at h2 hy
    simp only [Option.map_some, Option.bind_some] at h2 hy ⊢
    have hx' := hx m1 d1 e1
    cases e2 : rdU d1 with
    | none => rw [e2] at h2; exact h2
    | some q2 =>
      obtain ⟨m2, d2⟩ := q2
      rw [e2] at h2
      have hy' := hy m2 d2 e2
      simp only [Option.bind_some, Option.map_some] at h2 ⊢
      rw [h2, hx', hy']
      cases rdPs (n - (k + 1)) d2 with
      | none => rfl
      | some q3 => simp
set_option maxRecDepth 100000 in
set_option maxHeartbeats 2000000 in
theorem parts_ok (w : World) (p : Nat) (s : Option (List Nat)) (h : Rd w p s) (n : Nat) (c : List Nat) (hs : s.bind rdU = some (n, c)) (hn : n ≤ 32) : Calls Tryz.prog 113 #[ptr p] w (ParS w p s) := by
  have hnum := number_any w p s h
  have HP : Hid (rdP s = rdPs n c) := by have e := rdP_some hs; rw [if_neg (by omega)] at e; exact e
  have hp := h.lt
  have HS := hid hs
  have hn' : (n : Int) ≤ 32 := by omega
  clear h hs
  go_enter Tryz.func113, Tryz.ntmps113
  go_wp2_with (first
    | (go_at_call 106; refine hnum.mono ?_; rintro e w1 ⟨v, rfl, hr1, ho1, hv⟩; have hv2 := hv n c HS.out; subst hv2; rw [HS.out] at hr1; have HR1 := hid hr1; have HO1 := hid ho1; clear hr1 ho1 hv)
    | (go_at_call 110; refine (need_true _ p).mono ?_; rintro e w2 ⟨rfl, hw2⟩; have hw3 := hw2.symm; subst hw3))
  go_loopw [4] (fun pv wr => ∃ (k : Nat) (qs : Ps) (st : Option (List Nat)), k ≤ n ∧ PBuf w.heap.size wr pv qs ∧ Rd wr p st ∧ Only (fun b => b = p) w wr ∧ PAcc n c k qs st) (fun pv _ => n - (match pv with | .slice _ l _ => l | _ => 0))
  case atStart => exact ⟨0, [], some c, by omega, PBuf.nil _ _, HR1.out, HO1.out, PAcc.start n c⟩
  case round =>
    obtain ⟨k, qs, st, hk, hb, hr, ho, ha⟩ := hrel
    have HB := hid hb
    have HR := hid hr
    have HO := hid ho
    have HA := hid ha
    have hlen := ha.1
    obtain ⟨po, cc, hform, hcc⟩ := hb.form
    subst hform
    obtain ⟨po1, L1, k1, _⟩ := hr
    have c1 := k1.cell 1
    clear k1 hb ho HR1 HO1
    rw [hlen] at hcc ⊢
    by_cases hlt : k < n
    · have hlt' : (k : Int) < (n : Int) := by omega
      cases st with
      | none =>
        simp at c1
        have HN : Hid (rdPs n c = none) := ha.2
        clear ha
        go_wp2_with (go_at_call 114; refine (clipP_any po k cc hcc _).mono ?_; rintro e w2 ⟨rfl, hw2⟩; have hw3 := hw2.symm; subst hw3)
        go_ret
        have hpl := (HB.out.pl (by omega) k (by omega) (Or.inl hlen.symm)).2
        rw [hlen] at hpl
        refine ⟨_, qs, rfl, hpl, by rw [HP.out, HN.out]; exact HR.out, HO.out, fun qs r h => by rw [HP.out, HN.out] at h; cases h⟩
      | some d =>
        simp at c1
        clear ha
        have HOW := hid (fun b (hb : (Value.slice po k cc).ownBlock = some b) => own_ge (by have := HB.out; rw [hlen] at this; exact this) b hb)
        go_wp2_with (first
          | (go_at_call 106; refine (number_any _ p _ HR2.out).mono ?_; rintro e w3 ⟨y, rfl, hr3, ho3, hy⟩; have HR3 := hid hr3; have HO3 := hid (HO2.out.trans ho3); have HY := hid hy; clear hr3 ho3 hy; have hkeep := HB.out.keep (w' := w3) (fun b hb => HO3.out.block b (own_ge HB.out b hb).2 (fun e => by have := (own_ge HB.out b hb).1; omega)); rw [hlen] at hkeep; obtain ⟨v4, w4, hrun, hpb, hgr⟩ := hkeep.push x y (by omega) (by have := HO.out.size; have := HO3.out.size; omega); have HRUN := hid hrun; have HPB := hid hpb; have HGR := hid hgr; clear hkeep hrun hpb hgr)
          | (go_at_call 106; refine (number_any _ p _ HR.out).mono ?_; rintro e w2 ⟨x, rfl, hr2, ho2, hx⟩; have HR2 := hid hr2; have HO2 := hid ho2; have HX := hid hx; clear hr2 ho2 hx)
          | (at_builtin; refine wpList_append_run _ _ 72 72 rfl rfl _ _ _ rfl rfl HRUN.out ?_))
        have hgo : Only (fun b => (Value.slice po k cc).ownBlock = some b) w3 w4 := (Only.alloc w3 _).trans (Only.of_grown HGR.out fun b e _ => e)
        have hT : ∀ i, i < w.heap.size → (Value.slice po k cc).ownBlock = some i → i = p := fun i hi e => by have := (HOW.out i e).1; omega
        have hlt4 : ∀ i, (Value.slice po k cc).ownBlock = some i → p < i := fun i e => by have := (HOW.out i e).1; omega
        obtain ⟨po4, c4, hf4, _⟩ := HPB.out.form
        refine ⟨⟨k + 1, qs ++ [(x, y)], _, by omega, HPB.out, HR3.out.only hgo hlt4, (HO.out.trans HO3.out).then hgo hT, ?_⟩, ?_⟩
        · exact HA.out.next hlt (fun m r h => HX.out m r h) (fun m r h => HY.out m r h)
        · rw [hf4]; simp [hlen]; omega
    · have hlt' : ¬ (k : Int) < (n : Int) := by omega
      have HK2 : Hid (k = n) := hid (by omega)
      go_wp2_with (go_at_call 114; refine (clipP_any po k cc hcc _).mono ?_; rintro e w2 ⟨rfl, hw2⟩; have hw3 := hw2.symm; subst hw3)
      go_ret
      have hpl := (HB.out.pl (by omega) k (by omega) (Or.inl hlen.symm)).2
      rw [hlen] at hpl
      cases st with
      | none =>
        have HN : rdPs n c = none := HA.out.2
        exact ⟨_, qs, rfl, hpl, by rw [HP.out, HN]; exact HR.out, HO.out, fun qs r h => by rw [HP.out, HN] at h; cases h⟩
      | some d =>
        have HN : rdPs n c = (rdPs (n - k) d).map fun q => (qs ++ q.1, q.2) := HA.out.2
        rw [HK2.out, Nat.sub_self] at HN
        have HN2 : rdPs n c = some (qs, d) := by rw [HN]; simp [rdPs]
        exact ⟨_, qs, rfl, hpl, by rw [HP.out, HN2]; exact HR.out, HO.out, fun qs' r h => by rw [HP.out, HN2] at h; cases h; rfl⟩
theorem parts_any (w : World) (p : Nat) (s : Option (List Nat)) (h : Rd w p s) : Calls Tryz.prog 113 #[ptr p] w (ParS w p s) := by
  cases hs : s.bind rdU with
  | none => exact parts_bad w p s h fun n c e => by rw [hs] at e; cases e
  | some q =>
    obtain ⟨n, c⟩ := q
    by_cases hn : n ≤ 32
    · exact parts_ok w p s h n c hs hn
    · exact parts_bad w p s h fun n' c' e => by rw [hs] at e; cases e; omega
end Go.Proofs.YtelkijiphhoacaaGreatDoor

/- A record in memory, field by field written. -/
namespace Go.Proofs.YtelkijiphhoacaaGreatDoor
open Go Go.RowKit

theorem Rv.toL (r : Rv) : r.cs.toList = [.string r.id, i64 r.time, .bool r.mark, i64 r.size, .string r.etag, i64 r.k, i64 r.m, .string r.data] ++ (r.sum.map u8 ++ [r.pv, .string r.up]) := by simp [Rv.cs, sumC]
theorem set_lo (r s : Rv) (i : Nat) (v : Value) (hi : i < 8) (h : s.sum = r.sum ∧ s.pv = r.pv ∧ s.up = r.up)
    (he : ([.string r.id, i64 r.time, .bool r.mark, i64 r.size, .string r.etag, i64 r.k, i64 r.m, .string r.data] : List Value).set i v = [.string s.id, i64 s.time, .bool s.mark, i64 s.size, .string s.etag, i64 s.k, i64 s.m, .string s.data]) : r.cs.setIfInBounds i v = s.cs := by
  apply Array.toList_inj.1
  rw [Array.toList_setIfInBounds, Rv.toL, Rv.toL, List.set_append_left _ _ (by simpa using hi), he, h.1, h.2.1, h.2.2]
section
variable {w : World} {g : Nat} {r : Rv} (h : RBox w g r) (ho : r.ok)
include h ho
theorem RBox.set2 (b : Bool) : RBox (w.setCell ⟨g, 2, none⟩ (.bool b)) g { r with mark := b } := RBox.mk' ⟨ho.sl, ho.s8, ho.i, ho.e, ho.d, ho.u⟩ (by rw [← set_lo r { r with mark := b } 2 (.bool b) (by omega) ⟨rfl, rfl, rfl⟩ rfl]; exact h.at_.set 2 _)
theorem RBox.set3 (n : Int) : RBox (w.setCell ⟨g, 3, none⟩ (i64 n)) g { r with size := n } := RBox.mk' ⟨ho.sl, ho.s8, ho.i, ho.e, ho.d, ho.u⟩ (by rw [← set_lo r { r with size := n } 3 (i64 n) (by omega) ⟨rfl, rfl, rfl⟩ rfl]; exact h.at_.set 3 _)
theorem RBox.set4 (s : ByteArray) (hs : s.size ≤ 100000) : RBox (w.setCell ⟨g, 4, none⟩ (.string s)) g { r with etag := s } := RBox.mk' ⟨ho.sl, ho.s8, ho.i, hs, ho.d, ho.u⟩ (by rw [← set_lo r { r with etag := s } 4 (.string s) (by omega) ⟨rfl, rfl, rfl⟩ rfl]; exact h.at_.set 4 _)
theorem RBox.set5 (n : Int) : RBox (w.setCell ⟨g, 5, none⟩ (i64 n)) g { r with k := n } := RBox.mk' ⟨ho.sl, ho.s8, ho.i, ho.e, ho.d, ho.u⟩ (by rw [← set_lo r { r with k := n } 5 (i64 n) (by omega) ⟨rfl, rfl, rfl⟩ rfl]; exact h.at_.set 5 _)
theorem RBox.set6 (n : Int) : RBox (w.setCell ⟨g, 6, none⟩ (i64 n)) g { r with m := n } := RBox.mk' ⟨ho.sl, ho.s8, ho.i, ho.e, ho.d, ho.u⟩ (by rw [← set_lo r { r with m := n } 6 (i64 n) (by omega) ⟨rfl, rfl, rfl⟩ rfl]; exact h.at_.set 6 _)
theorem RBox.set7 (s : ByteArray) (hs : s.size ≤ 100000) : RBox (w.setCell ⟨g, 7, none⟩ (.string s)) g { r with data := s } := RBox.mk' ⟨ho.sl, ho.s8, ho.i, ho.e, hs, ho.u⟩ (by rw [← set_lo r { r with data := s } 7 (.string s) (by omega) ⟨rfl, rfl, rfl⟩ rfl]; exact h.at_.set 7 _)
theorem RBox.set40 (v : Value) : RBox (w.setCell ⟨g, 40, none⟩ v) g { r with pv := v } := RBox.mk' ⟨ho.sl, ho.s8, ho.i, ho.e, ho.d, ho.u⟩ (by
  have e : r.cs.setIfInBounds 40 v = ({ r with pv := v } : Rv).cs := by
    apply Array.toList_inj.1
    rw [Array.toList_setIfInBounds, Rv.toL, Rv.toL, List.set_append_right _ _ (by simp), List.set_append_right _ _ (by simp [ho.sl])]
    simp [ho.sl]
  rw [← e]; exact h.at_.set 40 _)
theorem RBox.set41 (s : ByteArray) (hs : s.size ≤ 100000) : RBox (w.setCell ⟨g, 41, none⟩ (.string s)) g { r with up := s } := RBox.mk' ⟨ho.sl, ho.s8, ho.i, ho.e, ho.d, hs⟩ (by
  have e : r.cs.setIfInBounds 41 (.string s) = ({ r with up := s } : Rv).cs := by
    apply Array.toList_inj.1
    rw [Array.toList_setIfInBounds, Rv.toL, Rv.toL, List.set_append_right _ _ (by simp), List.set_append_right _ _ (by simp [ho.sl])]
    simp [ho.sl]
  rw [← e]; exact h.at_.set 41 _)
end
/-- Cells set one behind the other. -/
def setAll (cs : List Value) (o : Nat) : List Value → List Value
  | [] => cs
  | v :: r => setAll (cs.set o v) (o + 1) r
theorem CAt.setCells {b : Nat} {t : TypeId} : ∀ (vs : List Value) (o : Nat) (cs : Array Value) (w : World), CAt w b cs t → CAt (w.setCells b o vs) b (setAll cs.toList o vs).toArray t
  | [], o, cs, w, h => by simpa [World.setCells, setAll] using h
  | v :: r, o, cs, w, h => by
    rw [World.setCells, setAll]
    have := CAt.setCells r (o + 1) _ _ (h.set o v)
    rw [Array.toList_setIfInBounds] at this
    exact this
theorem setAll_app (pre : List Value) : ∀ (vs mid suf : List Value), vs.length = mid.length → setAll (pre ++ (mid ++ suf)) pre.length vs = pre ++ (vs ++ suf)
  | [], mid, suf, h => by
    have : mid = [] := List.eq_nil_of_length_eq_zero (by simpa using h.symm)
    subst this; rfl
  | v :: r, [], suf, h => by simp at h
  | v :: r, m :: mid, suf, h => by
    rw [setAll]
    have e : (pre ++ (m :: mid ++ suf)).set pre.length v = (pre ++ [v]) ++ (mid ++ suf) := by
      rw [List.set_append_right _ _ (Nat.le_refl _)]; simp
    rw [e]
    have := setAll_app (pre ++ [v]) r mid suf (by simpa using h)
    rw [List.length_append] at this
    rw [show pre.length + 1 = pre.length + [v].length from rfl, this]
    simp
theorem RBox.setSum {w : World} {g : Nat} {r : Rv} (h : RBox w g r) (ho : r.ok) (x : List Nat) (hx : x.length = 32) (h8 : ∀ z ∈ x, z < 256) : RBox (w.setCells g 8 (x.map u8)) g { r with sum := x } := RBox.mk' ⟨hx, h8, ho.i, ho.e, ho.d, ho.u⟩ (by
  have h2 := CAt.setCells (x.map u8) 8 _ _ h.at_
  have e : (setAll r.cs.toList 8 (x.map u8)).toArray = ({ r with sum := x } : Rv).cs := by
    apply Array.toList_inj.1
    rw [Rv.toL, Rv.toL]
    have := setAll_app [.string r.id, i64 r.time, .bool r.mark, i64 r.size, .string r.etag, i64 r.k, i64 r.m, .string r.data] (x.map u8) (r.sum.map u8) [r.pv, .string r.up] (by simp [hx, ho.sl])
    simpa using this
  rw [e] at h2
  exact h2)
theorem only_setCells {S : Nat → Prop} (w : World) (b o : Nat) (vs : List Value) (h : S b) : Only S w (w.setCells b o vs) := by
  induction vs generalizing o w with
  | nil => exact Only.refl _ _
  | cons v r ih => rw [World.setCells]; exact (Only.set w ⟨b, o, none⟩ v h).trans (ih _ _)
/-- copy(v.Sum[:], 32 bytes) -/
theorem run_copySum {w : World} {g : Nat} {r : Rv} (h : RBox w g r) (ho : r.ok) (po : Option Addr) (x : List Nat) (hx : x.length = 32) (hb : BL w po x) (ty : TypeId) :
    (Builtin.copy_ #[28, 28] ty #[.slice (some ⟨g, 8, none⟩) 32 32, .slice po 32 32]).run Tryz.prog w = .ok (goInt 32) (w.setCells g 8 (x.map u8)) := by
  rcases hb with rfl | ⟨b, o, rfl, hb⟩
  · simp at hx
  have := run_copy_cells (P := Tryz.prog) w 28 28 ty 5 g 8 32 32 ⟨b, o, none⟩ 32 32 (x.map u8) Tryz.underlying28 (by kernel_rfl) (by simp [hx])
    (fun j v hj => by
      have hjn : j < x.length := by
        rcases Nat.lt_or_ge j x.length with q | q
        · exact q
        · rw [List.getElem?_eq_none (by simpa using q)] at hj; cases hj
      rw [add_none, hb j hjn]
      simp [hjn] at hj
      rw [← hj]; simp [List.getD, hjn])
    (fun j hj => by
      have hj' : j < 32 := by simpa [hx] using hj
      rw [h.cs j _ (sumC_get (by rw [ho.sl]; exact hj'))]; rfl)
    (fun j _ => h.free _)
    (fun v hv => by obtain ⟨i, _, rfl⟩ := List.mem_map.1 hv; rfl)
  simp only [List.length_map, hx] at this
  exact this
end Go.Proofs.YtelkijiphhoacaaGreatDoor

/- What is appended turns nothing else; numbers and texts laid behind bytes once more, by this. -/
namespace Go.Proofs.YtelkijiphhoacaaGreatDoor
open Go Go.RowKit

/-- From w0 on the bytes v0 have been appended to: they are L at v now; nothing else that was there has turned. -/
structure AppZ (B : Nat) (v0 : Value) (w0 : World) (L : List Nat) (v : Value) (w : World) : Prop where
  buf : Buf B w v L
  only : Only (fun b => v0.ownBlock = some b) w0 w
  own : ∀ b, v.ownBlock = some b → v0.ownBlock = some b ∨ w0.heap.size ≤ b
theorem AppZ.refl {B : Nat} {v : Value} {w : World} {L : List Nat} (h : Buf B w v L) : AppZ B v w L v w := ⟨h, Only.refl _ _, fun _ h => Or.inl h⟩
theorem AppZ.trans {B : Nat} {v0 v1 v2 : Value} {w0 w1 w2 : World} {L M : List Nat} (h : AppZ B v0 w0 L v1 w1) (k : AppZ B v1 w1 M v2 w2) : AppZ B v0 w0 M v2 w2 :=
  ⟨k.buf, h.only.then k.only fun i hi e => (h.own i e).elim id fun q => by omega, fun b hb => (k.own b hb).elim (h.own b) fun q => Or.inr (Nat.le_trans h.only.size q)⟩
theorem AppZ.below {B : Nat} {v0 v : Value} {w0 w w' : World} {L : List Nat} (h : AppZ B v0 w0 L v w) (hb : Below w.heap.size w w') : AppZ B v0 w0 L v w' :=
  ⟨h.buf.below hb, h.only.trans (Only.of_below hb), h.own⟩
theorem AppZ.start {B : Nat} {v0 v : Value} {w0 w1 w : World} {L : List Nat} (hb : Below w0.heap.size w0 w1) (h : AppZ B v0 w1 L v w) : AppZ B v0 w0 L v w :=
  ⟨h.buf, (Only.of_below hb).trans h.only, fun b e => (h.own b e).imp id fun q => by have := hb.size; omega⟩
theorem Buf.appZ {B : Nat} {w : World} {v : Value} {L : List Nat} (hv : Buf B w v L) (po : Option Addr) (c : Nat) (bs : List Nat) (hb : BL w po bs) (hc : po = none → c = 0) (hn : L.length + bs.length ≤ 2000000) (hB : B ≤ w.heap.size) :
    ∃ v' w', (Builtin.append_ #[28, 28] 28 #[v, .slice po bs.length c]).run Tryz.prog w = .ok v' w' ∧ AppZ B v w (L ++ bs) v' w' := by
  obtain ⟨i0, hi0, hz0, hz1, hz2⟩ := info_parts Tryz.info5
  cases po with
  | none =>
    have : bs = [] := by rcases hb with h | ⟨b, o, h, _⟩
                         · exact h
                         · cases h
    subst this
    obtain rfl := hc rfl
    exact ⟨v, w, run_append_owned_none (P := Tryz.prog) (w := w) B 28 28 5 i0 1 Tryz.underlying28 hi0 v _ _ hv, by rw [List.append_nil]; exact AppZ.refl hv⟩
  | some a =>
    obtain ⟨v', w', hr, h2, h3, _, h4⟩ := run_append_own_at (P := Tryz.prog) w B 28 28 5 i0 (.int .u8 0) 1 1 Tryz.underlying28 hi0 hz0 hz1 hz2 rfl (by decide) v L.length (L.map u8) hv a bs.length c (bs.map u8) (by simp) (fun j u hj => by
        have hjl : j < bs.length := by
          rcases Nat.lt_or_ge j bs.length with q | q
          · exact q
          · rw [List.getElem?_eq_none (by simpa using q)] at hj; cases hj
        have e : u = u8 (bs.getD j 0) := by simp [hjl] at hj; rw [← hj]; simp [List.getD, hjl]
        rcases hb with h | ⟨b, o, e2, h⟩
        · subst h; simp at hjl
        · cases e2
          rw [add_none, e]; exact h j hjl) (by intro u hu; simp at hu; obtain ⟨k, _, rfl⟩ := hu; rfl) (by unfold maxLen; omega) (by omega) hB
    refine ⟨v', w', hr, ?_, Only.of_grown h3 fun k e _ => e, fun b e => ?_⟩
    · unfold Buf; rw [List.length_append, List.map_append]; exact h2
    · rcases h4 with h4 | h4
      · exact Or.inl (h4 ▸ e)
      · rw [h4] at e; cases e; exact Or.inr (Nat.le_refl _)
theorem Buf.pushZ {B : Nat} {w : World} {v : Value} {L : List Nat} (hv : Buf B w v L) (k : Nat) (hn : L.length + 1 ≤ 2000000) (hB : B ≤ w.heap.size) :
    ∃ v' w', (Builtin.append_ #[28, 28] 28 #[v, .slice (some ⟨w.heap.size, 0, none⟩) 1 1]).run Tryz.prog (w.alloc (.cells #[u8 k] 5)) = .ok v' w' ∧ AppZ B v w (L ++ [k]) v' w' := by
  have h2 := hv.below (below_al w (.cells #[u8 k] 5))
  have hc : CAt (w.alloc (.cells #[u8 k] 5)) w.heap.size #[u8 k] 5 := CAt.made w _ _
  obtain ⟨v', w', h3, h4⟩ := h2.appZ (some ⟨w.heap.size, 0, none⟩) 1 [k] (Or.inr ⟨w.heap.size, 0, rfl, fun i hi => by
    have : i = 0 := by simpa using hi
    subst this; rw [Nat.zero_add, hc.cell]; rfl⟩) (by simp) (by simpa using hn) (by rw [size_al]; omega)
  exact ⟨v', w', h3, AppZ.start (below_al w _) h4⟩
theorem appS_where {B : Nat} {w : World} {v : Value} {L : List Nat} (hv : Buf B w v L) (s : ByteArray) (hn : L.length + s.size ≤ 2000000) {v' : Value} {w' : World} (hr : (Builtin.append_ #[28, 9] 28 #[v, .string s]).run Tryz.prog w = .ok v' w') :
    v'.ownBlock = v.ownBlock ∨ v'.ownBlock = some w.heap.size := by
  obtain ⟨i0, hi0, hz0, hz1, hz2⟩ := info_parts Tryz.info5
  have hv0 : w.ownsRow B 5 1 v L.length (L.map u8) := hv
  rcases hv0.2 with ⟨rfl, hl⟩ | ⟨g, cap, cur, rfl, hbg, hg, hnc, hcm, hcs, htake⟩
  · by_cases hm : s.size = 0
    · have hf := Lib.run_firstCells_string (P := Tryz.prog) w 1 s
      rw [hm] at hf
      have h2 : (Builtin.append_ #[28, 9] 28 #[.slice none 0 0, .string s]).run Tryz.prog w = .ok (.slice none 0 0) w := by
        simp [Builtin.append_, run_underlying Tryz.underlying28, run_underlying Tryz.underlying9, sizeOf, typeInfo, hi0, hz1, Builtin.lenOf, hm, hf]
      rw [h2] at hr; cases hr; exact Or.inl rfl
    · have h2 := run_append_nil_string (P := Tryz.prog) w 28 9 28 5 i0 (.int .u8 0) Tryz.underlying28 Tryz.underlying9 hi0 hz0 s (by omega) (by omega) (by rw [hz2]; omega)
      rw [h2] at hr; cases hr; exact Or.inr rfl
  · by_cases hroom : L.length + s.size ≤ cap
    · have h2 := Lib.run_append_room_string (P := Tryz.prog) w 28 9 28 5 i0 Tryz.underlying28 Tryz.underlying9 hi0 hz1 g L.length cap cur hg s hroom (by omega)
      rw [h2] at hr; cases hr; exact Or.inl rfl
    · have holds : ∀ j u, (L.map u8)[j]? = some u → w.cell? ((⟨g, 0, none⟩ : Addr).add j) = some u := hv0.cells (g := g) rfl
      have h2 := Lib.run_append_grow_string (P := Tryz.prog) w 28 9 28 5 i0 (.int .u8 0) Tryz.underlying28 Tryz.underlying9 hi0 hz0 ⟨g, 0, none⟩ L.length cap (L.map u8) (by rw [hz1]; simp) holds s (by omega) (by omega) (by rw [hz2]; exact growslice_fits (by omega) (by omega))
      rw [h2] at hr; cases hr; exact Or.inr rfl
theorem Buf.appSZ {B : Nat} {w : World} {v : Value} {L : List Nat} (hv : Buf B w v L) (s : ByteArray) (hn : L.length + s.size ≤ 2000000) (hB : B ≤ w.heap.size) :
    ∃ v' w', (Builtin.append_ #[28, 9] 28 #[v, .string s]).run Tryz.prog w = .ok v' w' ∧ AppZ B v w (L ++ lst s) v' w' := by
  obtain ⟨i0, hi0, hz0, hz1, hz2⟩ := info_parts Tryz.info5
  obtain ⟨v', w', hr, h2, h3, _⟩ := Lib.run_append_own_string (P := Tryz.prog) w B 28 9 28 5 i0 Tryz.underlying28 Tryz.underlying9 hi0 hz0 hz1 hz2 v L.length (L.map u8) hv s (by unfold maxLen; omega) (by omega) hB
  refine ⟨v', w', hr, ?_, Only.of_grown h3 fun k e _ => e, fun b e => ?_⟩
  · unfold Buf; rw [List.length_append, List.map_append, lst_len, ← strCells_lst]; exact h2
  · rcases appS_where hv s hn hr with h4 | h4
    · exact Or.inl (h4 ▸ e)
    · rw [h4] at e; cases e; exact Or.inr (Nat.le_refl _)
def ZS (B : Nat) (v : Value) (w : World) (L : List Nat) (e : Ending) (w' : World) : Prop := ∃ v', e = .returned v' ∧ AppZ B v w L v' w'
set_option maxRecDepth 100000 in
set_option maxHeartbeats 400000 in
theorem appNumZ (B : Nat) (L : List Nat) (v : Value) (n : Nat) (w : World) (hn : n ≤ 1099511627776) (hv : Buf B w v L) (hL : L.length ≤ 1000000) (hB : B ≤ w.heap.size) :
    Calls Tryz.prog 71 #[v, i64 n] w (ZS B v w (L ++ nb n)) := by
  have HV := hid hv
  have HN := hid (nb_le hn)
  have HB := hid hB
  clear hv hB
  go_enter Tryz.func71, Tryz.ntmps71
  go_wp2
  go_loopw [0, 1] (fun b i wr => ∃ (m : Nat) (L' : List Nat), m ≤ n ∧ i = i64 m ∧ L' ++ nb m = L ++ nb n ∧ AppZ B v w L' b wr) (fun b i _ => (intOf i).toNat)
  case atStart => exact ⟨n, L, Nat.le_refl _, rfl, rfl, AppZ.refl HV.out⟩
  case round =>
    obtain ⟨m, L', hm, rfl, hl, hb⟩ := hrel
    have HR := hid hb
    have HE := hid hl
    have hlen := congrArg List.length hl
    rw [List.length_append, List.length_append] at hlen
    have HLN := hid hlen
    have HSZ := hid (show B ≤ wr.heap.size by have := hb.only.size; have := HB.out; omega)
    clear hb hl hlen
    by_cases hlt : (128 : Int) ≤ (m : Int)
    · have hp1 : L'.length + 1 ≤ 2000000 := by have := HLN.out; have := HN.out; omega
      obtain ⟨v', w', hr, hq⟩ := HR.out.buf.pushZ (m % 128 + 128) hp1 HSZ.out
      have HRUN := hid hr
      clear hr hp1
      have hor := or_128 m
      generalize hc : m % 128 + 128 = c at *
      have HC := hid hc
      clear hc
      go_wp2_with (at_builtin; refine wpList_append_run _ _ 28 28 rfl rfl _ _ _ rfl rfl HRUN.out ?_)
      refine ⟨⟨m / 128, L' ++ [c], by omega, by simp, ?_, HR.out.trans hq⟩, by simp [intOf]; omega⟩
      rw [← HE.out, nb_ge (n := m) (by omega), HC.out, List.append_assoc]; rfl
    · have hp1 : L'.length + 1 ≤ 2000000 := by have := HLN.out; have := HN.out; omega
      obtain ⟨v', w', hr, hq⟩ := HR.out.buf.pushZ m hp1 HSZ.out
      have HRUN := hid hr
      clear hr hp1
      go_wp2_with (at_builtin; refine wpList_append_run _ _ 28 28 rfl rfl _ _ _ rfl rfl HRUN.out ?_)
      go_ret
      have e : nb m = [m] := nb_lt (by omega)
      refine ⟨_, rfl, ?_⟩
      rw [← HE.out, e]; exact HR.out.trans hq
theorem appTextZ (B : Nat) (L : List Nat) (v : Value) (s : ByteArray) (w : World) (hn : s.size ≤ 65536) (hv : Buf B w v L) (hL : L.length ≤ 900000) (hB : B ≤ w.heap.size) :
    Calls Tryz.prog 72 #[v, .string s] w (ZS B v w (L ++ tb (lst s))) := by
  have HV := hid hv
  have HB := hid hB
  clear hv hB
  go_enter Tryz.func72, Tryz.ntmps72
  go_wp2_with (first
    | (go_at_call 71; refine (appNumZ B L _ s.size w (by omega) HV.out (by omega) HB.out).mono ?_; rintro e w1 ⟨v1, rfl, hb1⟩; have hlen := nb_le (n := s.size) (by omega); obtain ⟨v2, w2, hr, hb2⟩ := hb1.buf.appSZ s (by rw [List.length_append]; omega) (by have := hb1.only.size; have := HB.out; omega); have HRUN := hid hr; clear hr)
    | (at_builtin; refine wpList_append_run _ _ 28 9 rfl rfl _ _ _ rfl rfl HRUN.out ?_))
  go_ret
  refine ⟨v2, rfl, ?_⟩
  unfold tb; rw [lst_len, ← List.append_assoc]; exact hb1.trans hb2
end Go.Proofs.YtelkijiphhoacaaGreatDoor
