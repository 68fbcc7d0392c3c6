/- Texts laid into one, cut to what is needed: the remark ahead of each part says what is proved there. -/
import Derived.Test.YtkiojnledimihaaPad
import Derived.Test.YtkiojnledimihaaPaf
import Derived.Laws.Bits64b
import Derived.Test.YtkiojnledimihaaPac
import Derived.Lib.SliceRun
/- Lists that are being filled, in a row; the document's Parts. -/
namespace Go.Proofs.Ytkiojnledimihaa
open Go Go.RowKit Go.Shelf

theorem infoTs : (Try.prog.info? 30).map (fun i => (i.zero, i.size, i.bytes)) = some (some (.slice none 0 0), 1, 24) := by kernel_rfl
theorem run_makeTs (n : Nat) (hn : n ≤ 1000) (w : World) : (Instr.makeSlice 33 (.int .i64 (n : Int)) (.int .i64 (n : Int))).run Try.prog w = .ok (.slice (some ⟨w.heap.size, 0, none⟩) n n) (w.alloc (.cells (madeCells #[.slice none 0 0] n) 30)) := by
  obtain ⟨i0, hi, hz0, hz1, hz2⟩ := info_parts infoTs
  have h := run_make (P := Try.prog) w 33 30 i0 (.slice none 0 0) Try.underlying33 hi hz0 .i64 .i64 n n (by omega) (Int.le_refl _) (by rw [hz2]; omega) (by omega)
  rw [hz1] at h
  simpa [Value.cells] using h
/-- Lists in a row at g, each in memory of its own. -/
structure PtM (W0 W : World) (g n : Nat) (vs : Nat → Value) (ps : Nat → List Nm) : Prop where
  be : Below W0.heap.size W0 W
  row : CAt W g ((List.range n).map vs).toArray 30
  ge : W0.heap.size ≤ g
  tx : ∀ j, j < n → TxtS W0.heap.size W (vs j) (ps j)
  ap : ∀ j, j < n → ∀ b, (vs j).ownBlock = some b → b ≠ g
  dj : ∀ i j, i < n → j < n → i ≠ j → ∀ b, (vs i).ownBlock = some b → (vs j).ownBlock ≠ some b
section
variable {W0 W W' : World} {g n : Nat} {vs : Nat → Value} {ps : Nat → List Nm}
theorem PtM.cell (h : PtM W0 W g n vs ps) {j : Nat} (hj : j < n) : W.cell? ⟨g, j, none⟩ = some (vs j) := by
  rw [h.row.cell j]; simp [hj]
theorem PtM.below (h : PtM W0 W g n vs ps) (hb : Below W.heap.size W W') : PtM W0 W' g n vs ps :=
  ⟨below_on _ _ h.be hb, h.row.below hb, h.ge, fun j hj => (h.tx j hj).below hb, h.ap, h.dj⟩
theorem PtM.start (W0 : World) (n : Nat) : PtM W0 (W0.alloc (.cells (madeCells #[.slice none 0 0] n) 30)) W0.heap.size n (fun _ => .slice none 0 0) (fun _ => []) where
  be := (Below.refl _ _).alloc (Nat.le_refl _) _
  row := by
    have e : madeCells #[.slice none 0 0] n = ((List.range n).map fun _ : Nat => Value.slice none 0 0).toArray := by
      apply Array.ext
      · simp [madeCells]
      · intro i h1 h2
        simp [madeCells, Nat.mod_one]
    rw [e]; exact CAt.made _ _ _
  ge := Nat.le_refl _
  tx := fun _ _ => TxtS.nil _ _
  ap := fun _ _ b e => by cases e
  dj := fun _ _ _ _ _ b e => by cases e
/-- One more text on list k: what append makes, and what the store leaves. -/
theorem PtM.add (h : PtM W0 W g n vs ps) {k : Nat} (hk : k < n) (x : Nm) (hx : x.length ≤ 512) (hl : (ps k).length ≤ 1000000) :
    ∃ v' w', (Builtin.append_ #[30, 30] 30 #[vs k, .slice (some ⟨W.heap.size, 0, none⟩) 1 1]).run Try.prog (W.alloc (.cells #[sv x] 9)) = .ok v' w' ∧
      (∃ vp vc, v' = .slice vp ((ps k).length + 1) vc) ∧ Below W0.heap.size W0 w' ∧ (∀ j, j < n → w'.cell? ⟨g, j, none⟩ = some (vs j)) ∧ w'.frozen? ⟨g, k, none⟩ = false ∧
      PtM W0 (w'.setCell ⟨g, k, none⟩ v') g n (upd vs k v') (upd ps k (ps k ++ [x])) := by
  obtain ⟨v', w', hr, ht, hg, ho⟩ := (h.tx k hk).push x hx (by omega) h.be.size
  have hba : Below W.heap.size W (W.alloc (.cells #[sv x] 9)) := (Below.refl _ _).alloc (Nat.le_refl _) _
  have hsa : (W.alloc (.cells #[sv x] 9)).heap.size = W.heap.size + 1 := by simp
  have hbw : Below W0.heap.size W0 w' := below_on_grown (below_on _ _ h.be hba) hg (fun b hb => (own_ge (h.tx k hk).t b hb).1)
  have old : ∀ b, b < W.heap.size → (vs k).ownBlock ≠ some b → w'.heap[b]? = W.heap[b]? := fun b hb hn => (hg.block b (by rw [hsa]; omega) (fun e => hn e.symm)).trans (hba.block b hb)
  have hgl : g < W.heap.size := h.row.lt
  have hrow : CAt w' g ((List.range n).map vs).toArray 30 := h.row.keep (old g hgl (fun e => h.ap k hk g e rfl))
  have hv' : ∀ b, v'.ownBlock = some b → (vs k).ownBlock = some b ∨ b = W.heap.size + 1 := fun b hb => by
    rcases ho with e | e
    · exact .inl (e ▸ hb)
    · rw [e] at hb; exact .inr (Option.some.inj hb).symm
  have hvg : ∀ b, v'.ownBlock = some b → b ≠ g := fun b hb e => by
    rcases hv' b hb with e2 | e2
    · exact h.ap k hk b e2 e
    · omega
  have oth : ∀ b, b ≠ g → (w'.setCell ⟨g, k, none⟩ v').heap[b]? = w'.heap[b]? := fun b hb => heap_setCell_ne _ ⟨g, k, none⟩ _ _ (fun e => hb e)
  obtain ⟨vp, vc, hvf⟩ := own_form ht.t
  refine ⟨v', w', hr, ⟨vp, vc, by rw [hvf]; simp⟩, hbw, fun j hj => by rw [hrow.cell j]; simp [hj], hrow.free k, ?_⟩
  refine ⟨hbw.setCell h.ge _, ?_, h.ge, fun j hj => ?_, fun j hj b hb => ?_, fun i j hi hj hij b hb => ?_⟩
  · have := hrow.set k v'
    have e : (((List.range n).map vs).toArray.setIfInBounds k v') = ((List.range n).map (upd vs k v')).toArray := by
      apply Array.ext
      · simp
      · intro i h1 h2
        simp only [List.setIfInBounds_toArray, List.getElem_toArray, List.getElem_set, List.getElem_map, List.getElem_range]
        unfold upd
        by_cases e : k = i
        · rw [if_pos e, if_pos e.symm]
        · rw [if_neg e, if_neg (fun h => e h.symm)]
    rw [e] at this; exact this
  · by_cases e : j = k
    · subst e
      rw [upd_same, upd_same]
      exact ht.keep fun b hb => oth b (hvg b hb)
    · rw [upd_ne _ _ e, upd_ne _ _ e]
      refine ((h.tx j hj).keep (w' := w') fun b hb => ?_).keep fun b hb => oth b (h.ap j hj b hb)
      exact old b (own_ge (h.tx j hj).t b hb).2 (h.dj j k hj hk e b hb)
  · by_cases e : j = k
    · subst e; rw [upd_same] at hb; exact hvg b hb
    · rw [upd_ne _ _ e] at hb; exact h.ap j hj b hb
  · by_cases ei : i = k
    · subst ei
      rw [upd_same] at hb
      rw [upd_ne _ _ (fun h => hij h.symm)]
      rcases hv' b hb with e2 | e2
      · exact h.dj i j hi hj hij b e2
      · intro e3; have := (own_ge (h.tx j hj).t b e3).2; omega
    · rw [upd_ne _ _ ei] at hb
      by_cases ej : j = k
      · subst ej
        rw [upd_same]
        intro e3
        rcases hv' b e3 with e2 | e2
        · exact h.dj i j hi hj hij b hb e2
        · have := (own_ge (h.tx i hi).t b hb).2; omega
      · rw [upd_ne _ _ ej]; exact h.dj i j hi hj hij b hb
end
/-- Those of a set. -/
def ptS (ns : List Nm) (n : Nat) (j : Nat) : List Nm := ns.filter fun s => stN s n == j
theorem ptS_step (ns : List Nm) (n i : Nat) (hi : i < ns.length) : ptS (ns.take (i + 1)) n = upd (ptS (ns.take i) n) (stN (ns.getD i []) n) (ptS (ns.take i) n (stN (ns.getD i []) n) ++ [ns.getD i []]) := by
  funext j
  have e : ns.take (i + 1) = ns.take i ++ [ns.getD i []] := by rw [List.take_add_one, List.getElem?_eq_getElem hi, getD_in _ _ _ hi]; rfl
  unfold ptS
  rw [e, List.filter_append]
  by_cases h : j = stN (ns.getD i []) n
  · subst h; rw [upd_same]; simp
  · rw [upd_ne _ _ h]
    have hf : (stN (ns.getD i []) (n : Int) == j) = false := beq_eq_false_iff_ne.2 fun e => h e.symm
    rw [List.filter_cons, hf]
    simp
def prE (ns : List Nm) (n : Int) : Nat := if 1 ≤ n ∧ n ≤ 4 then (if 10000 < ns.length then 3 else if ns.all okP = true then 0 else 2) else 2
/-- What Parts answers. -/
def PrR (w : World) (ns : List Nm) (n : Int) (e : Ending) (w' : World) : Prop :=
  (prE ns n = 0 ∧ ∃ g vs, e = .returned (.tuple #[.slice (some ⟨g, 0, none⟩) n.toNat n.toNat, .int .i64 0]) ∧ PtM w w' g n.toNat vs (ptS ns n.toNat)) ∨
  (prE ns n ≠ 0 ∧ e = .returned (.tuple #[.slice none 0 0, .int .i64 (prE ns n : Int)]) ∧ Below w.heap.size w w')
end Go.Proofs.Ytkiojnledimihaa

/- Package place: mayBe, Hash, Set. -/
namespace Go.Proofs.Ytkiojnledimihaa
open Go Go.RowKit Go.Shelf

set_option maxRecDepth 100000 in
theorem mayBe_any (n : Int) (w : World) : Calls Try.prog 26 #[.int .i64 n] w fun e w' => e = .returned (.bool (decide (1 ≤ n ∧ n ≤ 4))) ∧ w' = w := by
  by_cases h1 : 1 ≤ n
  · by_cases h2 : n ≤ 4
    · rw [decide_eq_true (show 1 ≤ n ∧ n ≤ 4 by omega)]
      go_enter Try.func26, Try.ntmps26
      go_wp2
      go_ret
      exact ⟨rfl, rfl⟩
    · rw [decide_eq_false (show ¬ (1 ≤ n ∧ n ≤ 4) by omega)]
      go_enter Try.func26, Try.ntmps26
      go_wp2
      go_ret
      exact ⟨rfl, rfl⟩
  · rw [decide_eq_false (show ¬ (1 ≤ n ∧ n ≤ 4) by omega)]
    go_enter Try.func26, Try.ntmps26
    go_wp2
    go_ret
    exact ⟨rfl, rfl⟩
set_option maxRecDepth 100000 in
theorem or_join (m z : Nat) (hz : z < 256) (hm : m * 256 + z < 18446744073709551616) : bits .or .u64 ((m : Int) * 256) (z : Int) = ((m * 256 + z : Nat) : Int) := by
  have e : ((m : Int) * 256) = ((m * 256 : Nat) : Int) := by omega
  rw [e, bits_or_u64_nat _ _ (by omega) (by omega)]
  congr 1
  have := Nat.shiftLeft_add_eq_or_of_lt (i := 8) (b := z) (by omega) m
  rw [Nat.shiftLeft_eq] at this
  exact this.symm
set_option maxHeartbeats 4000000 in
set_option maxRecDepth 100000 in
theorem phash_any (s : Nm) (hs : s.length ≤ maxLen) (w : World) : Calls Try.prog 8 #[sv s] w fun e w' => e = .returned (.tuple #[.int .u64 (hsN s : Int), .int .i64 (hsE s : Int)]) ∧ Below w.heap.size w w' := by
  unfold hsN hsE
  unfold maxLen at hs
  have hb0 := Below.refl w.heap.size w
  cases hok : okP s with
  | false =>
    rw [if_neg (by decide), if_neg (by decide)]
    have HB0 := hid hb0
    have hno : ¬ (1 ≤ s.length ∧ s.length ≤ 400) := by unfold okP at hok; simpa using hok
    by_cases h1 : (s.length : Int) < 1
    · clear hno hok
      go_enter Try.func8, Try.ntmps8
      go_wp2
      go_ret2
      exact ⟨rfl, HB0.out⟩
    · have h2 : (400 : Int) < (s.length : Int) := by omega
      clear hno hok
      go_enter Try.func8, Try.ntmps8
      go_wp2
      go_ret2
      exact ⟨rfl, HB0.out⟩
  | true =>
    rw [if_pos rfl, if_pos rfl]
    have hl : 1 ≤ s.length ∧ s.length ≤ 400 := by unfold okP at hok; simpa using hok
    obtain ⟨cc, w1, hconv, hb1, hbl, hcc⟩ := toB13 s w
    have HS : Hid (Calls Try.prog 23 #[.slice (some ⟨w.heap.size, 0, none⟩) s.length cc] w1 fun e w' => e = .returned (.agg (H.aB 32 (dgF s))) ∧ Below w1.heap.size w1 w') := hid (H.sum_any (some ⟨w.heap.size, 0, none⟩) s.length cc (byN s) w1 (by omega) hcc hbl (fun i _ => byN_lt s i))
    have HD := hid (dgF_lt s)
    have HB1 := hid hb1
    generalize dgF s = d at *
    have HSM := hid (fun k (hk : k < 8) => hsP_64 (f := d) HD.out hk)
    have h1' : ¬ (s.length : Int) < 1 := by omega
    have h2' : ¬ (400 : Int) < (s.length : Int) := by omega
    clear hbl hb1 hb0 hl hok
    go_enter Try.func8, Try.ntmps8
    go_wp2_with (first
      | (go_at_call 23; refine HS.out.mono ?_; rintro e w3 ⟨rfl, hb3⟩; have HB3 := hid (below_on _ _ HB1.out hb3); clear hb3)
      | refine wpList_store_row rfl 42 _ _ rfl _ _ rfl rfl _ _ (H.CAt.new _ _ _) (H.size32 _) (by rw [H.aB_size]; rfl) (H.aB_one _ _) ?_)
    have HC6 : Hid (∀ o, H.CAt ((w3.alloc (.cells o 42)).setRow w3.heap.size (H.aB 32 d)) w3.heap.size (H.aB 32 d) 42) := hid (fun o => (H.CAt.new _ _ _).row _)
    have HB6 : Hid (∀ o, Below w.heap.size w ((w3.alloc (.cells o 42)).setRow w3.heap.size (H.aB 32 d))) := hid (fun o => below_setRow (HB3.out.alloc HB3.out.size _) HB3.out.size _)
    generalize w3.heap.size = g at *
    clear HB3 HS hconv HB1
    go_loopg [5, 7, 21] 8 (fun gg n _ v wr => ∃ k : Nat, k ≤ 8 ∧ 8 - k ≤ gg ∧ n = .int .u64 (hsP d k : Int) ∧ v = .int .i64 (k : Int) ∧ H.CAt wr g (H.aB 32 d) 42 ∧ Below w.heap.size w wr)
    case atStart => exact ⟨0, by omega, by omega, rfl, rfl, HC6.out _, HB6.out _⟩
    case round =>
      clear HC6 HB6
      obtain ⟨k, hk, hgg, rfl, rfl, hc, hb⟩ := hrel
      have HC := hid hc
      have HB := hid hb
      clear hc hb
      by_cases hlt : k < 8
      · have hlt' : (k : Int) < 8 := by omega
        have y0 : wr.cell? ⟨g, k, none⟩ = some (.int .u8 (d k : Int)) := HC.out.cellB k (by omega)
        have hd := HD.out k
        have hs8 := HSM.out k hlt
        have HN : Hid (hsP d (k + 1) = hsP d k * 256 + d k) := hid rfl
        generalize d k = z at *
        generalize hsP d k = m at *
        have HJ := hid (or_join m z hd hs8)
        have hm1 : (m : Int) < 72057594037927936 := by omega
        go_wp2
        go_roundg (8 - (k + 1))
        case measure => omega
        case rel => exact ⟨k + 1, by omega, by omega, by rw [HN.out, ← HJ.out], by go_num, HC.out, HB.out⟩
      · have hlt' : ¬ (k : Int) < 8 := by omega
        have e : k = 8 := by omega
        subst e
        go_wp2
        go_ret2
        exact ⟨rfl, HB.out⟩
set_option maxHeartbeats 4000000 in
set_option maxRecDepth 100000 in
theorem pset_any (s : Nm) (hs : s.length ≤ maxLen) (n : Int) (hn : -9223372036854775808 ≤ n ∧ n ≤ 9223372036854775807) (w : World) : Calls Try.prog 10 #[sv s, .int .i64 n] w fun e w' => e = .returned (.tuple #[.int .i64 (stN s n : Int), .int .i64 (stE s n : Int)]) ∧ Below w.heap.size w w' := by
  have HH := hid (phash_any s hs w)
  have HMB := hid (mayBe_any n w)
  have hlt := hsN_lt s
  have HB0 := hid (Below.refl w.heap.size w)
  unfold stN stE okS hsE at *
  by_cases h14 : 1 ≤ n ∧ n ≤ 4
  · rw [decide_eq_true h14] at HMB ⊢
    cases hok : okP s with
    | false =>
      rw [hok] at HH
      simp only [Bool.false_and, Bool.false_eq_true, if_false] at *
      clear h14 hn
      go_enter Try.func10, Try.ntmps10
      go_wp2_with (first
        | (go_at_call 26; refine HMB.out.mono ?_; rintro e w2 ⟨rfl, hw⟩; have hw2 := hw.symm; subst hw2)
        | (go_at_call 8; refine HH.out.mono ?_; rintro e w2 ⟨rfl, hb⟩; have HB := hid hb; clear hb))
      go_ret2
      exact ⟨rfl, HB.out⟩
    | true =>
      rw [hok] at HH
      simp only [if_true, Bool.true_and] at *
      generalize hsN s = m at *
      obtain ⟨k, rfl⟩ : ∃ k : Nat, n = (k : Int) := ⟨n.toNat, by omega⟩
      have hmod : m % k < k := Nat.mod_lt _ (by omega)
      have e1 : ((k : Int)).toNat = k := by omega
      rw [e1]
      have hk1 : 1 ≤ (k : Int) := h14.1
      have hk4 : (k : Int) ≤ 4 := h14.2
      clear h14 hn
      have HM : Hid (((m : Int).tmod (k : Int)) = ((m % k : Nat) : Int)) := hid (by rw [Int.ofNat_tmod])
      go_enter Try.func10, Try.ntmps10
      go_wp2_with (first
        | (go_at_call 26; refine HMB.out.mono ?_; rintro e w2 ⟨rfl, hw⟩; have hw2 := hw.symm; subst hw2)
        | (go_at_call 8; refine HH.out.mono ?_; rintro e w2 ⟨rfl, hb⟩; have HB := hid hb; clear hb))
      go_ret2
      exact ⟨rfl, HB.out⟩
  · rw [decide_eq_false h14] at HMB ⊢
    simp only [Bool.and_false, Bool.false_eq_true, if_false] at *
    clear h14
    go_enter Try.func10, Try.ntmps10
    go_wp2_with (go_at_call 26; refine HMB.out.mono ?_; rintro e w2 ⟨rfl, hw⟩; have hw2 := hw.symm; subst hw2)
    go_ret2
    exact ⟨rfl, HB0.out⟩
end Go.Proofs.Ytkiojnledimihaa

/- Package place: Parts. (Written by tools/gen_Px.py.) -/
namespace Go.Proofs.Ytkiojnledimihaa
open Go Go.RowKit Go.Shelf

set_option maxRecDepth 100000 in
theorem pparts_no {w : World} (po : Option Addr) (c m : Nat) (n : Int) (h : n < 1 ∨ 4 < n) :
    Calls Try.prog 15 #[.slice po m c, .int .i64 n] w fun e w' => e = .returned (.tuple #[.slice none 0 0, .int .i64 2]) ∧ Below w.heap.size w w' := by
  have HB := hid (Below.refl w.heap.size w)
  have HMB := hid (mayBe_any n w)
  rw [decide_eq_false (show ¬ (1 ≤ n ∧ n ≤ 4) by omega)] at HMB
  clear h
  go_enter Try.func15, Try.ntmps15
  go_wp2_with (go_at_call 26; refine HMB.out.mono ?_; rintro e w2 ⟨rfl, hw⟩; have hw2 := hw.symm; subst hw2)
  go_ret2
  exact ⟨rfl, HB.out⟩
set_option maxRecDepth 100000 in
theorem pparts_long {w : World} (po : Option Addr) (c m : Nat) (n : Int) (h : ¬ n < 1) (h4 : ¬ 4 < n) (hm : (10000 : Int) < (m : Int)) :
    Calls Try.prog 15 #[.slice po m c, .int .i64 n] w fun e w' => e = .returned (.tuple #[.slice none 0 0, .int .i64 3]) ∧ Below w.heap.size w w' := by
  have HB := hid (Below.refl w.heap.size w)
  have HMB := hid (mayBe_any n w)
  rw [decide_eq_true (show 1 ≤ n ∧ n ≤ 4 by omega)] at HMB
  clear h h4
  go_enter Try.func15, Try.ntmps15
  go_wp2_with (go_at_call 26; refine HMB.out.mono ?_; rintro e w2 ⟨rfl, hw⟩; have hw2 := hw.symm; subst hw2)
  go_ret2
  exact ⟨rfl, HB.out⟩
set_option maxHeartbeats 8000000 in
set_option maxRecDepth 100000 in
theorem pparts_go {w : World} {po : Option Addr} {ns : List Nm} (h : TxO w po ns) (c : Nat) (hn : ns.length ≤ 10000) (hls : ∀ x ∈ ns, x.length ≤ maxLen) (n : Nat) (h1 : 1 ≤ n) (h4 : n ≤ 4) :
    Calls Try.prog 15 #[.slice po ns.length c, .int .i64 (n : Int)] w (PrR w ns n) := by
  have HT := hid (fun W (hb : Below w.heap.size w W) => h.below hb)
  have HLS : Hid (∀ j, j < ns.length → (ns.getD j []).length ≤ maxLen) := hid (fun j hj => hls _ (by rw [getD_in _ _ _ hj]; exact List.getElem_mem hj))
  have hmk := run_makeTs n (by omega)
  have HOK : Hid (∀ W g vs, (∀ j, j < ns.length → okP (ns.getD j []) = true) → PtM w W g n vs (ptS ns n) → PrR w ns n (.returned (.tuple #[.slice (some ⟨g, 0, none⟩) n n, .int .i64 0])) W) := hid (fun W g vs hok hp => by
    have he : prE ns n = 0 := by
      unfold prE
      rw [if_pos (by omega), if_neg (by omega), if_pos (List.all_eq_true.2 fun x hx => by obtain ⟨j, hj, rfl⟩ := List.mem_iff_getElem.1 hx; have := hok j hj; rwa [getD_in _ _ _ hj] at this)]
    exact .inl ⟨he, g, vs, by rw [Int.toNat_natCast], by rw [Int.toNat_natCast]; exact hp⟩)
  have HNO : Hid (∀ W j, j < ns.length → okP (ns.getD j []) = false → Below w.heap.size w W → PrR w ns n (.returned (.tuple #[.slice none 0 0, .int .i64 2])) W) := hid (fun W j hj hno hb => by
    have he : prE ns n = 2 := by
      unfold prE
      rw [if_pos (by omega), if_neg (by omega), if_neg (fun h => by have := List.all_eq_true.1 h (ns.getD j []) (by rw [getD_in _ _ _ hj]; exact List.getElem_mem hj); rw [hno] at this; cases this)]
    exact .inr ⟨by rw [he]; decide, by rw [he]; rfl, hb⟩)
  have H0 : Hid (PtM w (w.alloc (.cells (madeCells #[.slice none 0 0] n) 30)) w.heap.size n (fun _ => .slice none 0 0) (ptS (ns.take 0) n)) := hid (PtM.start w n)
  have HLN : Hid (∀ i j, (ptS (ns.take i) n j).length ≤ 10000) := hid (fun i j => by
    have a := List.length_filter_le (fun s => stN s (n : Int) == j) (ns.take i)
    rw [List.length_take] at a
    unfold ptS; omega)
  have HST := hid (fun i (hi : i < ns.length) => ptS_step ns n i hi)
  have HLT := hid (fun s (e : okS s n = true) => stN_lt e)
  generalize PrR w ns n = PP at *
  clear h hls
  have HMB := hid (mayBe_any (n : Int) w)
  rw [decide_eq_true (show 1 ≤ (n : Int) ∧ (n : Int) ≤ 4 by omega)] at HMB
  have h1' : 1 ≤ (n : Int) := by omega
  have h4' : (n : Int) ≤ 4 := by omega
  have hn' : ¬ (10000 : Int) < (ns.length : Int) := by omega
  go_enter Try.func15, Try.ntmps15
  go_wp2_with (first
    | (go_at_call 26; refine HMB.out.mono ?_; rintro e w2 ⟨rfl, hw⟩; have hw2 := hw.symm; subst hw2))
  clear hmk
  generalize w.alloc (.cells (madeCells #[.slice none 0 0] n) 30) = w1 at *
  go_loopg [8, 9, 10, 21] ns.length (fun gg _ _ _ v wr => ∃ (i : Nat) (vs : Nat → Value), i ≤ ns.length ∧ ns.length - i ≤ gg ∧ v = .int .i64 (i : Int) ∧ PtM w wr w.heap.size n vs (ptS (ns.take i) n) ∧ Hid (∀ j, j < i → okP (ns.getD j []) = true))
  case atStart => exact ⟨0, _, Nat.zero_le _, by omega, rfl, H0.out, hid fun j hj => absurd hj (Nat.not_lt_zero _)⟩
  case round =>
    clear H0
    obtain ⟨i, vs, hi, hgi, rfl, hp, HJ⟩ := hrel
    have HP := hid hp
    clear hp
    by_cases hlt : i < ns.length
    · have hlt' : (i : Int) < (ns.length : Int) := by omega
      obtain ⟨b, o, hpo, z1⟩ := (HT.out wr HP.out.be).cell hlt
      subst hpo
      have HSE := hid (pset_any (ns.getD i []) (HLS.out i hlt) n (by omega) wr)
      obtain ⟨b', o', e', z0⟩ := (HT.out w (Below.refl _ _)).cell hlt
      cases e'
      have HCB : Hid (∀ W, Below w.heap.size w W → W.cell? ⟨b, o + i, none⟩ = some (sv (ns.getD i []))) := hid (fun W hb => (World.cell?_of_block (a := ⟨b, o + i, none⟩) (hb.block b (cell_lt2 z0))).trans z0)
      clear z0
      have HN2 := hid (fun W (e : okP (ns.getD i []) = false) hb => HNO.out W i hlt e hb)
      have HS2 := hid (HST.out i hlt)
      have HL2 := hid (HLT.out (ns.getD i []))
      have HJ2 : Hid (okP (ns.getD i []) = true → ∀ j, j < i + 1 → okP (ns.getD j []) = true) := hid (fun e j hj => if e2 : j = i then (by rw [e2]; exact e) else HJ.out j (by omega))
      have HLN2 := hid (HLN.out i)
      clear HJ HNO HST HLT HLS HOK HLN HT
      generalize ns.getD i [] = s at *
      cases hok : okP s with
      | false =>
        have HN3 := hid (fun W => HN2.out W hok)
        have he : stE s n = 2 := by unfold stE okS; rw [hok]; simp
        rw [he] at HSE
        have HBE := hid HP.out.be
        clear HN2 HS2 HL2 HJ2 HLN2 HP he
        go_wp2_with (go_at_call 10; refine HSE.out.mono ?_; rintro e w2 ⟨rfl, hb2⟩; have HB2 := hid (below_on _ _ HBE.out hb2); clear hb2)
        exact HN3.out _ HB2.out
      | true =>
        have ho2 : okS s (n : Int) = true := by unfold okS; rw [hok]; simp; omega
        have H5 : Hid (s.length ≤ 512) := hid (by unfold okP at hok; simp at hok; omega)
        have he : stE s n = 0 := by unfold stE; rw [ho2]; rfl
        rw [he] at HSE
        have hk := HL2.out ho2
        rw [Int.toNat_natCast] at hk
        have HS3 := hid HS2.out
        have HJ3 := hid (HJ2.out hok)
        clear HN2 HS2 HL2 HJ2 he ho2
        generalize stN s n = k at *
        have HL3 := hid (HLN2.out k)
        have hk' : (k : Int) < (n : Int) := by omega
        clear HLN2
        have HAP : Hid (∀ W4, Below wr.heap.size wr W4 → ∃ vp vc vp' vc' w', W4.cell? ⟨w.heap.size, k, none⟩ = some (.slice vp (ptS (ns.take i) n k).length vc) ∧ (Builtin.append_ #[30, 30] 30 #[.slice vp (ptS (ns.take i) n k).length vc, .slice (some ⟨W4.heap.size, 0, none⟩) 1 1]).run Try.prog (W4.alloc (.cells #[sv s] 9)) = .ok (.slice vp' ((ptS (ns.take i) n k).length + 1) vc') w' ∧
            (∃ u, w'.cell? ⟨w.heap.size, k, none⟩ = some u) ∧ w'.frozen? ⟨w.heap.size, k, none⟩ = false ∧ PtM w (w'.setCell ⟨w.heap.size, k, none⟩ (.slice vp' ((ptS (ns.take i) n k).length + 1) vc')) w.heap.size n (upd vs k (.slice vp' ((ptS (ns.take i) n k).length + 1) vc')) (ptS (ns.take (i + 1)) n)) := hid (fun W4 hb4 => by
          obtain ⟨vp, vc, hvf⟩ := own_form ((HP.out.below hb4).tx k hk).t
          have hc0 := (HP.out.below hb4).cell hk
          obtain ⟨v', w', hr, ⟨vp', vc', hf⟩, hbw, hcs, hfz, hpm⟩ := (HP.out.below hb4).add hk s H5.out (by have := HL3.out; omega)
          rw [← HS3.out] at hpm
          subst hf
          rw [hvf] at hc0 hr
          exact ⟨vp, vc, vp', vc', w', hc0, hr, ⟨_, hcs k hk⟩, hfz, hpm⟩)
        go_wp2_with (first
          | (go_at_call 10; refine HSE.out.mono ?_; rintro e w2 ⟨rfl, hb2⟩; obtain ⟨vp, vc, vp', vc', w', hc0, hr, hcs, hfz, hpm⟩ := HAP.out w2 hb2; obtain ⟨u0, hcs⟩ := hcs; have HR := hid hr; have HPM := hid hpm; clear hr hpm hb2; generalize (ptS (ns.take i) n k).length = ln at *; try generalize hlz : ln + 1 = lz at *)
          | (at_builtin; refine wpList_append_run _ _ 30 rfl rfl _ _ (.slice vp' lz vc') rfl rfl HR.out ?_))
        go_roundg (ns.length - (i + 1))
        case measure => omega
        case rel => exact ⟨i + 1, _, by omega, by omega, by go_num, HPM.out, HJ3⟩
    · have hlt' : ¬ (i : Int) < (ns.length : Int) := by omega
      have e : i = ns.length := by omega
      subst e
      have HE := hid (HOK.out wr w.heap.size vs HJ.out (by have := HP.out; rw [List.take_length] at this; exact this))
      clear HOK
      go_wp2
      exact HE.out
theorem pparts_any {w : World} {po : Option Addr} {ns : List Nm} (h : TxO w po ns) (c : Nat) (hls : ∀ x ∈ ns, x.length ≤ maxLen) (n : Int) :
    Calls Try.prog 15 #[.slice po ns.length c, .int .i64 n] w (PrR w ns n) := by
  by_cases hn : n < 1 ∨ 4 < n
  · have he : prE ns n = 2 := by unfold prE; rw [if_neg (by omega)]
    refine (pparts_no po c ns.length n hn).mono ?_
    rintro e w' ⟨h1, h2⟩
    exact .inr ⟨by rw [he]; decide, by rw [he]; exact h1, h2⟩
  · by_cases hl : 10000 < ns.length
    · have he : prE ns n = 3 := by unfold prE; rw [if_pos (by omega), if_pos hl]
      refine (pparts_long po c ns.length n (by omega) (by omega) (by omega)).mono ?_
      rintro e w' ⟨h1, h2⟩
      exact .inr ⟨by rw [he]; decide, by rw [he]; exact h1, h2⟩
    · obtain ⟨k, rfl⟩ : ∃ k : Nat, n = (k : Int) := ⟨n.toNat, by omega⟩
      exact pparts_go h c (by omega) hls k (by omega) (by omega)
end Go.Proofs.Ytkiojnledimihaa

/- The mathematics of parts and merged lists. -/
namespace Go.Proofs.Ytkiojnledimihaa
open Go Go.RowKit Go.Shelf

theorem wths_eq {L M : List Nm} (h : ∀ x, x ∈ L ↔ x ∈ M) : wths [] L = wths [] M :=
  ssrt_ext (wths_srt L [] (by simp [SSrt])) (wths_srt M [] (by simp [SSrt])) fun x => by rw [wths_mem, wths_mem]; simp [h]
theorem mem_flT {l : List TV} {x : Nm} : x ∈ flT l ↔ ∃ t ∈ l, x ∈ t.ns := by unfold flT; rw [List.mem_flatMap]
end Go.Proofs.Ytkiojnledimihaa

/- slices.Compact of texts: the walk. -/
namespace Go.Proofs.Ytkiojnledimihaa
open Go Go.RowKit Go.Shelf

theorem cmpL_short {l : List Nm} (h : l.length < 2) : cmpL l = l := by
  match l, h with
  | [], _ => rfl
  | [x], _ => rfl
theorem CAt.setCells {g t : Nat} : ∀ (vs : List Value) (o : Nat) (W : World) (cur : Array Value), CAt W g cur t → ∃ cur', CAt (W.setCells g o vs) g cur' t ∧ cur'.size = cur.size ∧ ∀ i, i < o → cur'[i]? = cur[i]?
  | [], _, _, cur, h => ⟨cur, h, rfl, fun _ _ => rfl⟩
  | v :: r, o, W, cur, h => by
    obtain ⟨cur', h1, h2, h3⟩ := CAt.setCells r (o + 1) (W.setCell ⟨g, o, none⟩ v) _ (h.set o v)
    refine ⟨cur', by rw [World.setCells]; exact h1, by rw [h2]; simp, fun i hi => ?_⟩
    rw [h3 i (by omega), Array.getElem?_setIfInBounds_ne (by omega)]
theorem only_setCells (g : Nat) : ∀ (vs : List Value) (o : Nat) (W : World), Only (fun b => b = g) W (W.setCells g o vs)
  | [], _, W => Only.refl _ _
  | v :: r, o, W => by rw [World.setCells]; exact (Only.set (S := fun b => b = g) W ⟨g, o, none⟩ v rfl).then (only_setCells g r (o + 1) _) (fun _ _ h => h)
theorem zero9 (w : World) : (zeroValue 9).run Try.prog w = .ok (.string ⟨#[]⟩) w := by kernel_rfl
/-- The first loop: no two neighbours of the first k are equal. -/
structure C1I (w : World) (g sz : Nat) (cur : Array Value) (ss : List Nm) (k : Nat) (W : World) : Prop where
  c : CAt W g cur 9
  q : cmpL (ss.take k) = ss.take k
  on : Only (fun b => b = g) w W
  sz : cur.size = sz
/-- The second: what is left of the first j + 1 lies in front, what comes after j as it lay. -/
structure C2I (w : World) (g sz : Nat) (ss : List Nm) (j k : Nat) (W : World) : Prop where
  ex : ∃ cur, CAt W g cur 9 ∧ cur.size = sz ∧ (∀ i, i < k → cur[i]? = some (sv ((cmpL (ss.take (j + 1))).getD i []))) ∧ ∀ i, j ≤ i → i < ss.length → cur[i]? = some (sv (ss.getD i []))
  ln : (cmpL (ss.take (j + 1))).length = k
  kj : k ≤ j
  on : Only (fun b => b = g) w W
theorem C2I.put {w : World} {g sz : Nat} {ss : List Nm} {j k : Nat} {W W' : World} (h : C2I w g sz ss j k W) (hj : j + 1 < ss.length) (he : ss.getD (j + 1) [] ≠ ss.getD j []) (hb : Below W.heap.size W W') (hsz : ss.length ≤ sz) : C2I w g sz ss (j + 1) (k + 1) (W'.setCell ⟨g, k, none⟩ (sv (ss.getD (j + 1) []))) := by
  obtain ⟨cur, h1, h2, h3, h4⟩ := h.ex
  have e : cmpL (ss.take (j + 1 + 1)) = cmpL (ss.take (j + 1)) ++ [ss.getD (j + 1) []] := by rw [cmpL_take ss (j + 1) (by omega) hj, if_neg (by rw [Nat.add_sub_cancel]; exact he)]
  have hk := h.kj
  refine ⟨⟨_, (h1.below hb).set k (sv (ss.getD (j + 1) [])), by simp [h2], fun i hi => ?_, fun i hi hi2 => ?_⟩, by rw [e]; simp [h.ln], by omega, (h.on.then (Only.of_below (S := fun _ => False) hb) (fun _ _ h => h.elim)).then (Only.set (S := fun b => b = g) W' ⟨g, k, none⟩ _ rfl) (fun _ _ h => h)⟩
  · rw [e]
    by_cases q : i = k
    · subst q
      rw [Array.getElem?_setIfInBounds_self_of_lt (by omega)]
      simp [List.getD, ← h.ln]
    · rw [Array.getElem?_setIfInBounds_ne (by omega), h3 i (by omega)]
      have hl : i < (cmpL (ss.take (j + 1))).length := by rw [h.ln]; omega
      simp [List.getD, List.getElem?_append_left hl]
  · rw [Array.getElem?_setIfInBounds_ne (by omega)]; exact h4 i (by omega) hi2
theorem C2I.cell {w : World} {g sz : Nat} {ss : List Nm} {j k : Nat} {W : World} (h : C2I w g sz ss j k W) {i : Nat} (h1 : j ≤ i) (h2 : i < ss.length) : W.cell? ⟨g, i, none⟩ = some (sv (ss.getD i [])) := by
  obtain ⟨cur, a, b, d, e⟩ := h.ex; exact (a.cell i).trans (e i h1 h2)
end Go.Proofs.Ytkiojnledimihaa

/- slices.Compact of texts all of whose room is short texts. (Written by tools/gen_Pu.py.) -/
namespace Go.Proofs.Ytkiojnledimihaa
open Go Go.RowKit Go.Shelf

theorem mem_setQ {cur : Array Value} {k : Nat} {v : Value} {Q : Value → Prop} (hq : ∀ u ∈ cur.toList, Q u) (hv : Q v) : ∀ u ∈ (cur.setIfInBounds k v).toList, Q u := fun u hu => by
  rw [Array.toList_setIfInBounds] at hu
  rcases List.mem_or_eq_of_mem_set hu with h | h
  · exact hq u h
  · exact h ▸ hv
theorem CAt.setCellsQ {g t : Nat} {Q : Value → Prop} : ∀ (vs : List Value) (o : Nat) (W : World) (cur : Array Value), CAt W g cur t → (∀ u ∈ cur.toList, Q u) → (∀ u ∈ vs, Q u) → ∃ cur', CAt (W.setCells g o vs) g cur' t ∧ cur'.size = cur.size ∧ (∀ i, i < o → cur'[i]? = cur[i]?) ∧ ∀ u ∈ cur'.toList, Q u
  | [], _, _, cur, h, hq, _ => ⟨cur, h, rfl, fun _ _ => rfl, hq⟩
  | v :: r, o, W, cur, h, hq, hv => by
    obtain ⟨cur', h1, h2, h3, h4⟩ := CAt.setCellsQ (Q := Q) r (o + 1) (W.setCell ⟨g, o, none⟩ v) _ (h.set o v) (mem_setQ hq (hv v (List.mem_cons_self ..))) (fun u hu => hv u (List.mem_cons_of_mem _ hu))
    refine ⟨cur', by rw [World.setCells]; exact h1, by rw [h2]; simp, fun i hi => ?_, h4⟩
    rw [h3 i (by omega), Array.getElem?_setIfInBounds_ne (by omega)]
/-- The second: what is left of the first j + 1 lies in front, what comes after j as it lay. -/
structure C2Q (w : World) (g sz : Nat) (ss : List Nm) (j k : Nat) (W : World) : Prop where
  ex : ∃ cur, CAt W g cur 9 ∧ cur.size = sz ∧ (∀ i, i < k → cur[i]? = some (sv ((cmpL (ss.take (j + 1))).getD i []))) ∧ (∀ i, j ≤ i → i < ss.length → cur[i]? = some (sv (ss.getD i []))) ∧ ∀ u ∈ cur.toList, QS u
  ln : (cmpL (ss.take (j + 1))).length = k
  kj : k ≤ j
  on : Only (fun b => b = g) w W
theorem C2Q.skip {w : World} {g sz : Nat} {ss : List Nm} {j k : Nat} {W W' : World} (h : C2Q w g sz ss j k W) (hj : j + 1 < ss.length) (he : ss.getD (j + 1) [] = ss.getD j []) (hb : Below W.heap.size W W') : C2Q w g sz ss (j + 1) k W' := by
  obtain ⟨cur, h1, h2, h3, h4, h5⟩ := h.ex
  have e : cmpL (ss.take (j + 1 + 1)) = cmpL (ss.take (j + 1)) := by rw [cmpL_take ss (j + 1) (by omega) hj, if_pos (by rw [Nat.add_sub_cancel]; exact he)]
  exact ⟨⟨cur, h1.below hb, h2, fun i hi => by rw [e]; exact h3 i hi, fun i hi hi2 => h4 i (by omega) hi2, h5⟩, by rw [e]; exact h.ln, Nat.le_succ_of_le h.kj, h.on.then (Only.of_below (S := fun _ => False) hb) (fun _ _ h => h.elim)⟩
theorem C2Q.put {w : World} {g sz : Nat} {ss : List Nm} {j k : Nat} {W W' : World} (h : C2Q w g sz ss j k W) (hj : j + 1 < ss.length) (he : ss.getD (j + 1) [] ≠ ss.getD j []) (hb : Below W.heap.size W W') (hsz : ss.length ≤ sz) (hS : ∀ x ∈ ss, x.length ≤ 512) : C2Q w g sz ss (j + 1) (k + 1) (W'.setCell ⟨g, k, none⟩ (sv (ss.getD (j + 1) []))) := by
  obtain ⟨cur, h1, h2, h3, h4, h5⟩ := h.ex
  have e : cmpL (ss.take (j + 1 + 1)) = cmpL (ss.take (j + 1)) ++ [ss.getD (j + 1) []] := by rw [cmpL_take ss (j + 1) (by omega) hj, if_neg (by rw [Nat.add_sub_cancel]; exact he)]
  have hk := h.kj
  refine ⟨⟨_, (h1.below hb).set k (sv (ss.getD (j + 1) [])), by simp [h2], fun i hi => ?_, fun i hi hi2 => ?_, mem_setQ h5 ⟨_, rfl, hS _ (by rw [getD_in _ _ _ hj]; exact List.getElem_mem hj)⟩⟩, by rw [e]; simp [h.ln], by omega, (h.on.then (Only.of_below (S := fun _ => False) hb) (fun _ _ h => h.elim)).then (Only.set (S := fun b => b = g) W' ⟨g, k, none⟩ _ rfl) (fun _ _ h => h)⟩
  · rw [e]
    by_cases q : i = k
    · subst q
      rw [Array.getElem?_setIfInBounds_self_of_lt (by omega)]
      simp [List.getD, ← h.ln]
    · rw [Array.getElem?_setIfInBounds_ne (by omega), h3 i (by omega)]
      have hl : i < (cmpL (ss.take (j + 1))).length := by rw [h.ln]; omega
      simp [List.getD, List.getElem?_append_left hl]
  · rw [Array.getElem?_setIfInBounds_ne (by omega)]; exact h4 i (by omega) hi2
theorem C2Q.cell {w : World} {g sz : Nat} {ss : List Nm} {j k : Nat} {W : World} (h : C2Q w g sz ss j k W) {i : Nat} (h1 : j ≤ i) (h2 : i < ss.length) : W.cell? ⟨g, i, none⟩ = some (sv (ss.getD i [])) := by
  obtain ⟨cur, a, b, d, e, _⟩ := h.ex; exact (a.cell i).trans (e i h1 h2)
/-- At the end what is behind is cleared. -/
theorem C2Q.done {B : Nat} {w : World} {g c : Nat} {ss : List Nm} {j k : Nat} {W : World} (h : C2Q w g (c * 1) ss j k W) (hj : j + 1 = ss.length) (hS : ∀ x ∈ ss, x.length ≤ 512) (vs : List Value) (hvs : ∀ u ∈ vs, QS u) (hB : B ≤ g) (hc : ss.length ≤ c) (hm : c ≤ maxLen) : TxtS B (W.setCells g k vs) (.slice (some ⟨g, 0, none⟩) (cmpL ss).length c) (cmpL ss) ∧ (cmpL ss).length = k ∧ Only (fun b => b = g) w (W.setCells g k vs) := by
  obtain ⟨cur, h1, h2, h3, h4, h5⟩ := h.ex
  have e : cmpL (ss.take (j + 1)) = cmpL ss := by rw [hj, List.take_of_length_le (Nat.le_refl _)]
  have hl := h.ln
  rw [e] at h3 hl
  have hk := h.kj
  obtain ⟨cur', q1, q2, q3, q4⟩ := CAt.setCellsQ (Q := QS) vs k W cur h1 h5 hvs
  refine ⟨⟨⟨by simp, .inr ⟨g, c, cur', rfl, hB, q1, by omega, hm, by rw [q2, h2], ?_⟩⟩, fun g2 hg2 cur2 hc2 u hu => ?_, fun x hx => hS x ((cmpL_mem ss x).1 hx)⟩, hl, h.on.then (only_setCells g vs k W) (fun _ _ h => h)⟩
  · apply List.ext_getElem?
    intro i
    rw [List.getElem?_take]
    by_cases hi : i < k
    · rw [if_pos (by omega)]
      have := (q3 i hi).trans (h3 i hi)
      rw [getD_in _ _ _ (by omega)] at this
      simpa [hl, hi] using this
    · rw [if_neg (by omega), List.getElem?_eq_none (by simp; omega)]
  · cases hg2
    unfold CAt at q1
    rw [q1] at hc2; cases hc2; exact q4 u hu
set_option maxHeartbeats 2000000 in
set_option maxRecDepth 100000 in
theorem compactS_any {B : Nat} {w : World} {v : Value} {ss : List Nm} (hS : TxtS B w v ss) (hn : ss.length ≤ 1000000) : Calls Try.prog 29 #[v] w fun e w' => ∃ po c, e = .returned (.slice po (cmpL ss).length c) ∧ TxtS B w' (.slice po (cmpL ss).length c) (cmpL ss) ∧ Only (fun b => v.ownBlock = some b) w w' := by
  have h := hS.t
  obtain ⟨po, c, rfl⟩ := own_form h
  by_cases h2 : ss.length < 2
  · rw [cmpL_short h2]
    have H := hid hS
    have h2' : (ss.length : Int) < 2 := by omega
    clear h hS
    go_enter Try.func29, Try.ntmps29
    go_wp2
    go_ret
    exact ⟨po, c, rfl, H.out, Only.refl _ _⟩
  · rcases h.2 with ⟨e, h0⟩ | ⟨g, cap, cur, e, hB, hg, hcap, hmx, hsz, htk⟩
    · omega
    cases e
    have hc : CAt w g cur 9 := hg
    have hcur : ∀ i, i < ss.length → cur[i]? = some (sv (ss.getD i [])) := fun i hi => by
      have e1 : (cur.toList.take (ss.length * 1))[i]? = (ss.map sv)[i]? := by rw [htk]
      rw [List.getElem?_take, if_pos (by omega)] at e1
      rw [getD_in _ _ _ hi]
      simpa [hi] using e1
    have HCU := hid hcur
    have I1 : Hid (C1I w g (c * 1) cur ss 1 w) := ⟨hc, by rw [cmpL_short (by simp; omega)], Only.refl _ _, hsz⟩
    have h2' : ¬ (ss.length : Int) < 2 := by omega
    have HN := hid hn
    have HCAP := hid hcap
    have HH := hid hS
    have HQA : Hid (∀ u ∈ cur.toList, QS u) := hid (hS.q g rfl cur hg)
    have HSL := hid hS.s
    have HCW := hid hc
    clear h hS hg hsz htk hc hcur hn
    go_enter Try.func29, Try.ntmps29
    go_wp2
    go_loopw [3] (fun x wr => ∃ k : Nat, 1 ≤ k ∧ k ≤ ss.length ∧ x = .int .i64 (k : Int) ∧ C1I w g (c * 1) cur ss k wr) (fun x _ => (ss.length - intOf x).toNat)
    case atStart => exact ⟨1, by omega, by omega, rfl, I1.out⟩
    case round =>
      clear I1
      obtain ⟨k, hk1, hk, rfl, hI⟩ := hrel
      have HI := hid hI
      clear hI
      by_cases hlt : k < ss.length
      · have hlt' : (k : Int) < (ss.length : Int) := by omega
        have hk2 : (k : Int) < 1000000 := by have := HN.out; omega
        have ca : wr.cell? ⟨g, k, none⟩ = some (sv (ss.getD k [])) := (HI.out.c.cell k).trans (HCU.out k hlt)
        have cb : wr.cell? ⟨g, k - 1, none⟩ = some (sv (ss.getD (k - 1) [])) := (HI.out.c.cell (k - 1)).trans (HCU.out (k - 1) (by omega))
        have hkm : ((k : Int) - 1) = ((k - 1 : Nat) : Int) := by omega
        by_cases he : ss.getD k [] = ss.getD (k - 1) []
        · have J0 : Hid (∀ W', Below wr.heap.size wr W' → C2Q w g (c * 1) ss k k W') := hid (fun W' hb => by
            have e : cmpL (ss.take (k + 1)) = ss.take k := by rw [cmpL_take ss k (by omega) hlt, if_pos he, HI.out.q]
            refine ⟨⟨cur, HI.out.c.below hb, HI.out.sz, fun i hi => ?_, fun i _ hi => HCU.out i hi, HQA.out⟩, by rw [e, List.length_take]; omega, Nat.le_refl _, HI.out.on.then (Only.of_below (S := fun _ => False) hb) (fun _ _ h => h.elim)⟩
            rw [e, HCU.out i (by omega)]
            simp [List.getD, hi])
          rw [← he] at cb
          unfold sv at ca cb
          generalize (⟨(ss.getD k []).toArray⟩ : ByteArray) = XX at *
          have hkc : (k : Int) ≤ (c : Int) := by have := HCAP.out; omega
          go_wp2
          go_quiet (fail)
          go_wp2
          have hsub : ((ss.length - k : Nat) : Int) = (ss.length : Int) - (k : Int) := by omega
          have HSUB := hid hsub
          clear hsub ca cb
          generalize hnk : ss.length - k = nk at *
          have HNK := hid hnk
          clear hnk
          go_loopw [3, 5] (fun x y W => ∃ kk m k2 : Nat, k2 = m + 1 ∧ k + m + 1 ≤ ss.length ∧ x = .int .i64 (kk : Int) ∧ y = .int .i64 (k2 : Int) ∧ C2Q w g (c * 1) ss (k + m) kk W) (fun _ y _ => (nk - intOf y).toNat)
          case atStart => exact ⟨k, 0, 1, rfl, by omega, rfl, rfl, J0.out _ (below_drewN _ _)⟩
          case round =>
            clear J0
            obtain ⟨kk, m, k2, hkk, hm, rfl, rfl, hJ⟩ := hrel
            have HJ := hid hJ
            have HK2 := hid hkk
            clear hJ
            by_cases hl2 : k2 < nk
            · have hl2' : (k2 : Int) < (nk : Int) := by omega
              have hmb : (m : Int) < 1000000 := by have := HN.out; omega
              have hj1 : k + m + 1 < ss.length := by have := HNK.out; omega
              have ca : wr.cell? ⟨g, k + k2, none⟩ = some (sv (ss.getD (k + m + 1) [])) := by rw [hkk]; exact HJ.out.cell (by omega) hj1
              have cb : wr.cell? ⟨g, k + m, none⟩ = some (sv (ss.getD (k + m) [])) := HJ.out.cell (Nat.le_refl _) (by omega)
              have hkm2 : ((k2 : Int) - 1) = (m : Int) := by omega
              have hkkj := HJ.out.kj
              have hk2b : (k2 : Int) < 1000001 := by have := HN.out; omega
              have hmn : (m : Int) < (nk : Int) := by omega
              clear hkk
              by_cases hq : ss.getD (k + m + 1) [] = ss.getD (k + m) []
              · have HS : Hid (∀ W', Below wr.heap.size wr W' → C2Q w g (c * 1) ss (k + m + 1) kk W') := hid (fun W' hb => HJ.out.skip hj1 hq hb)
                rw [← hq] at cb
                unfold sv at ca cb
                generalize (⟨(ss.getD (k + m + 1) []).toArray⟩ : ByteArray) = X2 at *
                go_wp2
                go_quiet (fail)
                go_wp2
                go_roundw
                case rel => exact ⟨kk, m + 1, k2 + 1, by rw [HK2.out], by omega, rfl, by go_num, HS.out _ (below_drewN _ _)⟩
                case measure => simp [intOf]; omega
              · have HS : Hid (∀ W', Below wr.heap.size wr W' → C2Q w g (c * 1) ss (k + m + 1) (kk + 1) (W'.setCell ⟨g, kk, none⟩ (sv (ss.getD (k + m + 1) [])))) := hid (fun W' hb => HJ.out.put hj1 hq hb (by have := HCAP.out; omega) HSL.out)
                have hne : (⟨(ss.getD (k + m + 1) []).toArray⟩ : ByteArray) ≠ ⟨(ss.getD (k + m) []).toArray⟩ := fun e => hq ((sv_eq _ _).1 e)
                have yk : wr.frozen? ⟨g, kk, none⟩ = false := by obtain ⟨cu, h1, _⟩ := HJ.out.ex; exact h1.free kk
                have ck : ∃ v, wr.cell? ⟨g, kk, none⟩ = some v := by
                  obtain ⟨cu, h1, h2, _⟩ := HJ.out.ex
                  have := HCAP.out
                  exact ⟨_, (h1.cell kk).trans (Array.getElem?_eq_getElem (by omega))⟩
                obtain ⟨vk, ck⟩ := ck
                unfold sv at ca cb HS
                generalize (⟨(ss.getD (k + m + 1) []).toArray⟩ : ByteArray) = X2 at *
                generalize (⟨(ss.getD (k + m) []).toArray⟩ : ByteArray) = Y2 at *
                have hx2 := ba_ne hne
                have hkk2 : (kk : Int) < 1000000 := by have := HN.out; omega
                have hkk3 : (kk : Int) < (ss.length : Int) := by omega
                go_wp2
                go_quiet (fail)
                go_wp2
                go_roundw
                case rel => exact ⟨kk + 1, m + 1, k2 + 1, by rw [HK2.out], by omega, by go_num, by go_num, HS.out _ (below_drewN _ _)⟩
                case measure => simp [intOf]; omega
            · have hl2' : ¬ (k2 : Int) < (nk : Int) := by omega
              have hje : k + m + 1 = ss.length := by have := HNK.out; omega
              have hkkj := HJ.out.kj
              have hclr : ∀ ty, (Builtin.clear_ #[30] ty #[.slice (some ⟨g, kk, none⟩) (ss.length - kk) (c - kk)]).run Try.prog wr = .ok (.tuple #[]) (wr.setCells g kk (List.replicate (ss.length - kk) (.string ⟨#[]⟩))) := fun ty => by
                refine Lib.run_clear_slice wr 30 9 ty (.string ⟨#[]⟩) Try.underlying30 (fun W => ?_) rfl rfl g kk (ss.length - kk) (c - kk) (by omega) (fun x hx => ?_) (fun x hx => ?_)
                · exact zero9 W
                · obtain ⟨cu, h1, h2, _⟩ := HJ.out.ex
                  have := HCAP.out
                  rw [h1.cell, Array.getElem?_eq_getElem (by omega)]; rfl
                · obtain ⟨cu, h1, h2, _⟩ := HJ.out.ex
                  exact h1.free _
              have HDN := hid (HJ.out.done (B := B) hje HSL.out (List.replicate (ss.length - kk) (.string ⟨#[]⟩)) (fun u hu => by rw [(List.mem_replicate.1 hu).2]; exact ⟨[], rfl, by simp⟩) hB HCAP.out hmx)
              have hkc2 : (kk : Int) < (c : Int) := by have := HCAP.out; omega
              have hkc4 : ¬ kk = c := by omega
              have hkc5 : kk < c := by omega
              have hkl2 : (kk : Int) ≤ (ss.length : Int) := by omega
              generalize wr.setCells g kk (List.replicate (ss.length - kk) (.string ⟨#[]⟩)) = W9 at *
              clear hje hm hkk hkkj hlt' hk2 hkm
              go_wp2
              go_ret
              obtain ⟨d1, d2, d3⟩ := HDN.out
              refine ⟨some ⟨g, 0, none⟩, c, by simp [d2], d1, d3.mono fun b hb => by subst hb; rfl⟩
        · have HQ : Hid (cmpL (ss.take (k + 1)) = ss.take (k + 1)) := hid (by
            rw [cmpL_take ss k (by omega) hlt, if_neg he, HI.out.q, getD_in _ _ _ hlt, List.take_add_one, List.getElem?_eq_getElem hlt]; rfl)
          have hne : (⟨(ss.getD k []).toArray⟩ : ByteArray) ≠ ⟨(ss.getD (k - 1) []).toArray⟩ := fun e => he ((sv_eq _ _).1 e)
          unfold sv at ca cb
          generalize (⟨(ss.getD k []).toArray⟩ : ByteArray) = XX at *
          generalize (⟨(ss.getD (k - 1) []).toArray⟩ : ByteArray) = YY at *
          have hx2 := ba_ne hne
          clear he
          go_wp2
          go_quiet (fail)
          go_wp2
          go_roundw
          case rel => exact ⟨k + 1, by omega, by omega, by go_num, HI.out.c, HQ.out, HI.out.on.then (Only.of_below (S := fun _ => False) (below_drewN _ _)) (fun _ _ h => h.elim), HI.out.sz⟩
          case measure => simp [intOf]; omega
      · have hlt' : ¬ (k : Int) < (ss.length : Int) := by omega
        have hkn : k = ss.length := by omega
        have HE : Hid (cmpL ss = ss) := hid (by have := HI.out.q; rw [hkn, List.take_of_length_le (Nat.le_refl _)] at this; exact this)
        go_wp2
        go_ret
        rw [HE.out]
        exact ⟨_, _, rfl, HH.out.keep (fun b hb => by cases hb; exact (show _ = _ from HI.out.c).trans (show _ = _ from HCW.out).symm), HI.out.on.mono fun b hb => by subst hb; rfl⟩
end Go.Proofs.Ytkiojnledimihaa
