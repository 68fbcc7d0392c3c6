/- Texts laid into one: the remark ahead of each part says what is proved there. -/
import Derived.Test.YtcbmimjjpkkoeaaDoorGao
import Derived.Test.YtcbmimjjpkkoeaaDoorGar
import Derived.Test.YtcbmimjjpkkoeaaDoorGaj
import Derived.Lib.SlBytesConst
import Derived.Test.YtcbmimjjpkkoeaaDoorGaa
import Derived.LaidEql
import Derived.Stop.Asserts
import Derived.RowKitTokens
import Derived.Laws.Externs
import Derived.Deep.QuietTactic
import Derived.BigQuiet
/- The chapter's journal: mark, one. -/
namespace Go.Proofs.YtcbmimjjpkkoeaaDoor
open Go Go.RowKit

def nul : ByteArray := ⟨#[110, 117, 108, 108]⟩
/-- The mark null at a moment, in memory. -/
def xM (t : Int) : Rp := ⟨mkR nul t, []⟩
theorem xM_rc (t : Int) : (xM t).rc = mkN t := by
  show Rv.rc (mkR nul t) [] = mkN t
  unfold Rv.rc mkR mkN
  congr 1
theorem nul_size : nul.size = 4 := rfl
theorem xM_ok (t : Int) : (xM t).r.ok := mkR_ok (by rw [nul_size]; omega)
theorem xM_at (t : Int) (w : World) : RpOk w (xM t) := ⟨xM_ok t, PL.nil w, fun n c e => by cases e; rfl⟩
theorem built_nul (t : Int) : Tryd.prog.built 44 [(0, .string nul), (1, i64 t), (2, .bool true)] = some (mkR nul t).cs := built_mark nul t
set_option maxRecDepth 100000 in
theorem mark8_any (t : Int) (w : World) : Calls Tryd.prog 23 #[i64 t] w fun e w' => e = .returned (.agg (xM t).r.cs) ∧ Below w.heap.size w w' := by
  have HB := hid (built_nul t)
  have hok := xM_ok t
  obtain ⟨X, hX⟩ : ∃ X, (xM t).r = X := ⟨_, rfl⟩
  have hXo : X.pv.oneCell' = true := by rw [← hX]; rfl
  have HB2 : Hid (Tryd.prog.built 44 [(0, .string nul), (1, i64 t), (2, .bool true)] = some X.cs) := hid (by rw [← hX]; exact HB.out)
  rw [hX] at hok ⊢
  clear hX HB
  go_enter Tryd.func23, Tryd.ntmps23
  go_wp2_with (first
    | ((with_reducible refine wpList_allocR rfl rfl ?_); intro w1 g1 hz1 hb1 hg1; have HZ1 := hid hz1; have HB1 := hid hb1; have HG1 := hid hg1; clear hz1 hb1 hg1)
    | ((with_reducible refine wpList_build_want 44 _ rfl ?_ X.cs ?_ ?_); exact rfl; exact HB2.out)
    | ((with_reducible refine wpList_storeR rfl rfl _ _ rfl g1 ?_ (r := X) ?_ zR_ok hok hXo HZ1.out ?_); exact rfl; exact rfl; intro w2 h2 o2; have H2 := hid h2; have O2 := hid o2; clear h2 o2))
  refine ret_rowR rfl g1 rfl rfl H2.out hok ⟨rfl, ?_⟩
  exact below_tr HB1.out (O2.out.below HB1.out.size (fun i e => by have := HG1.out; omega))
/-- The examples' journal, in memory. -/
def One1 (w : World) (e : Ending) (w' : World) : Prop := ∃ g, e = .returned (.agg (jC 1 (.slice (some ⟨g, 0, none⟩) 1 1))) ∧ RL w' (.slice (some ⟨g, 0, none⟩) 1 1) [xM 5] ∧ Below w.heap.size w w'
set_option maxRecDepth 100000 in
theorem one8_any (w : World) : Calls Tryd.prog 22 #[] w (One1 w) := by
  have hok := xM_ok 5
  have hR1 := fun (w : World) (g : Nat) (hc : CAt w g (xM 5).r.cs 44) => one_rl hc (xM_at 5 w)
  have HM := hid (fun w => mark8_any 5 w)
  unfold One1
  generalize xM 5 = X at hok hR1 HM ⊢
  have HR1 := hid hR1
  clear hR1
  go_enter Tryd.func22, Tryd.ntmps22
  go_wp2_with (first
    | ((with_reducible refine wpList_allocJ rfl rfl ?_); intro w1 g1 hz1 hb1 hg1; have HZ1 := hid hz1; have HB1 := hid hb1; have HG1 := hid hg1; clear hz1 hb1 hg1)
    | (go_at_call 23; refine (HM.out _).mono ?_; rintro e w2 ⟨rfl, hb2⟩; have HB2 := hid hb2; clear hb2)
    | ((with_reducible refine wpList_buildOne rfl _ rfl hok ?_ ?_); exact rfl; intro w3 g3 hc3 hb3 hg3; have HC3 := hid hc3; have HB3 := hid (below_on HB2.out hb3); have HG3 := hid (show g1 < g3 by have := HZ1.out.lt; have := HB2.out.size; omega); clear hc3 hb3 hg3)
    | ((with_reducible refine wpList_build_want 24 _ rfl ?_ (jC 1 (.slice (some ⟨g3, 0, none⟩) 1 1)) ?_ ?_); exact rfl; exact builtJ 1 (some ⟨g3, 0, none⟩) 1 1)
    | ((with_reducible refine wpList_storeJ rfl rfl _ _ rfl g1 ?_ (s := 1) (v := .slice (some ⟨g3, 0, none⟩) 1 1) ?_ rfl (HZ1.out.below HB3.out) ?_); exact rfl; exact rfl; intro w4 h4 o4; have H4 := hid h4; have O4 := hid o4; clear h4 o4))
  refine ret_rowJ1 rfl g1 rfl rfl H4.out ⟨g3, rfl, HR1.out _ _ (HC3.out.keep (O4.out.block g3 HC3.out.lt (by have := HG3.out; omega))), ?_⟩
  have hb := below_on HB1.out HB3.out
  exact below_tr hb (O4.out.below hb.size (fun i e => by have := HG1.out; omega))
theorem rcs_one : rcs [xM 5] = [mkN 5] := by show [(xM 5).rc] = _; rw [xM_rc]
#print axioms one8_any
end Go.Proofs.YtcbmimjjpkkoeaaDoor

/- journal.Bytes. -/
namespace Go.Proofs.YtcbmimjjpkkoeaaDoor
open Go Go.RowKit

theorem under5' : Tryd.prog.underlying 5 = some (.int .u8) := by kernel_rfl
/-- append to bytes that have no room. -/
theorem grow_buf (W : World) (g : Nat) (old : List Nat) (hold : ∀ j, j < old.length → W.cell? ⟨g, j, none⟩ = some (u8 (old.getD j 0))) (po : Option Addr) (c : Nat) (L : List Nat) (hL : BL W po L) (hne : L ≠ []) (hn : old.length + L.length ≤ 2000000) :
    ∃ v w', (Builtin.append_ #[27, 27] 27 #[.slice (some ⟨g, 0, none⟩) old.length old.length, .slice po L.length c]).run Tryd.prog W = .ok v w' ∧ Buf W.heap.size w' v (old ++ L) ∧ Below W.heap.size W w' := by
  obtain ⟨i0, hi0, hz0, hz1, hz2⟩ := info_parts Tryd.info5
  have hlen : 0 < L.length := List.length_pos_iff.2 hne
  rcases hL with h | ⟨b, o, rfl, hL⟩
  · exact absurd h hne
  have hget : ∀ (M : List Nat) (j : Nat) (v : Value), (M.map u8)[j]? = some v → j < M.length ∧ v = u8 (M.getD j 0) := fun M j v hj => by
    have hjl : j < M.length := by
      rcases Nat.lt_or_ge j M.length with q | q
      · exact q
      · rw [List.getElem?_eq_none (by simpa using q)] at hj; cases hj
    simp [hjl] at hj
    exact ⟨hjl, by rw [← hj]; simp [List.getD, hjl]⟩
  have hr := run_append_grow (P := Tryd.prog) W 27 27 5 i0 (.int .u8 0) Tryd.underlying27 hi0 hz0 ⟨g, 0, none⟩ old.length old.length (old.map u8) (by rw [hz1]; simp) (fun j v hj => by
      obtain ⟨h1, rfl⟩ := hget old j v hj
      rw [add_none, Nat.zero_add]; exact hold j h1) ⟨b, o, none⟩ L.length c (L.map u8) (by rw [hz1]; simp) (fun j v hj => by
      obtain ⟨h1, rfl⟩ := hget L j v hj
      rw [add_none]; exact hL j h1) (by omega) (by omega) (by rw [hz2]; exact growslice_fits (by omega) (by omega))
  refine ⟨_, _, hr, ⟨by simp, Or.inr ⟨W.heap.size, grownCap W (old.length + L.length) old.length 5, _, by rw [List.length_append], Nat.le_refl _, heap_alloc_new W.drew _, by rw [List.length_append]; exact grownCap_ge W _ _ _, grownCap_le_maxLen W _ _ _ (by unfold maxLen; omega), ?_, ?_⟩⟩, below_on (below_drew _) (below_al _ _)⟩
  · have := grownCap_ge W (old.length + L.length) old.length 5
    simp [Builtin.zeroCells, Value.cells]
    omega
  · have e : ((old.map u8).toArray ++ (L.map u8).toArray ++ Builtin.zeroCells (Value.int .u8 0).cells (grownCap W (old.length + L.length) old.length 5 - (old.length + L.length))).toList = (old ++ L).map u8 ++ (Builtin.zeroCells (Value.int .u8 0).cells (grownCap W (old.length + L.length) old.length 5 - (old.length + L.length))).toList := by simp
    rw [e, Nat.mul_one, List.take_left' (by simp)]
theorem zeroDg : (Tryd.prog.info? 41).map (·.zero) = some (some (.agg (sumC zeroD))) := by kernel_rfl
theorem underDg : Tryd.prog.underlying 41 = some (.array 32 5) := by kernel_rfl
theorem wpList_allocD {ops : Array Oper} {rest : List Oper} {o : Oper} {a : Act} {w : World} {Q : Exit → Act → World → Prop} (hg : o.guard = none) (ho : o.op = .alloc 41)
    (h : ∀ w1 g, CAt w1 g (sumC zeroD) 41 → Below w.heap.size w w1 → w.heap.size = g → wpList Tryd.prog ops Q rest (a.put o.dst (ptr g)) w1) : wpList Tryd.prog ops Q (o :: rest) a w := by
  refine wpList_plain hg fun _ hK => ?_
  obtain ⟨i, hq, hz'⟩ := Option.map_eq_some_iff.1 zeroDg
  unfold Oper.wp execOp
  simp only [ho, Instr.alloc, zeroValue, typeInfo, Sem.run_bind, newVar, newRow]
  generalize sumC zeroD = C at h hz'
  simp [hq, hz', Value.cells]
  exact hK _ _ (h _ _ (CAt.made _ _ _) (below_al _ _) rfl)
theorem run_storeD {w : World} {g : Nat} {x y : List Nat} (hx : x.length = 32) (hy : y.length = 32) (hb : CAt w g (sumC x) 41) : (Instr.storeAt 41 (.pointer (some ⟨g, 0, none⟩)) (.agg (sumC y))).run Tryd.prog w = .ok () (w.setRow g (sumC y)) ∧ CAt (w.setRow g (sumC y)) g (sumC y) 41 := by
  have e := run_storeVar_row (P := Tryd.prog) w g 41 41 (sumC x) (sumC y) hb (by rw [sumC_size, hy]; exact sizeD) (by rw [sumC_size, sumC_size, hx, hy]) (by rw [Array.all_eq_true_iff_forall_mem]; intro v hv; unfold sumC at hv; simp only [List.mem_toArray, List.mem_map] at hv; obtain ⟨k, _, rfl⟩ := hv; rfl)
  refine ⟨?_, setRow_heap w g (sumC x) (sumC y) _ _ hb⟩
  simp only [Instr.storeAt, Instr.sureAddr, Sem.run_bind, Sem.run_pure, Result.andThen_ok, e]
theorem wpList_storeD {ops : Array Oper} {rest : List Oper} {o : Oper} {a : Act} {w : World} {Q : Exit → Act → World → Prop} (hg : o.guard = none) (hdst : o.dst = none) (x y : Operand) (ho : o.op = .store 41 x y) (g : Nat) (hx : a.eval x = ptr g) {m n : List Nat} (hy : a.eval y = .agg (sumC n)) (hm : m.length = 32) (hn : n.length = 32) (hb : CAt w g (sumC m) 41)
    (h : ∀ w1, CAt w1 g (sumC n) 41 → Only (fun b => b = g) w w1 → wpList Tryd.prog ops Q rest a w1) : wpList Tryd.prog ops Q (o :: rest) a w := by
  refine wpList_plain hg fun _ hK => ?_
  obtain ⟨e1, e2⟩ := run_storeD hm hn hb
  unfold Oper.wp execOp
  simp only [ho, hx, hy, ptr, Sem.run_bind, e1, Result.andThen_ok, Sem.run_pure]
  refine hK (a.put o.dst undef) _ ?_
  rw [hdst]
  exact h _ e2 (only_setRow _ _ _ rfl)
theorem run_dig (g : Nat) (w : World) : (Instr.sliceAt 41 (.pointer (some ⟨g, 0, none⟩)) none none none).run Tryd.prog w = .ok (.slice (some ⟨g, 0, none⟩) 32 32) w := by kernel_rfl
theorem CAt.bl {w : World} {g : Nat} {x : List Nat} {t : TypeId} (h : CAt w g (sumC x) t) : BL w (some ⟨g, 0, none⟩) x := Or.inr ⟨g, 0, rfl, fun i hi => by rw [Nat.zero_add, h.cell, sumC_get hi]⟩
abbrev c3 : Array Value := #[.int .u8 83, .int .u8 74, .int .u8 49]
theorem c3_cells (w : World) (fz : Nat × Nat) : ∀ j, j < [83, 74, 49].length → (w.alloc (.cells c3 5 fz)).cell? ⟨w.heap.size, j, none⟩ = some (u8 ([83, 74, 49].getD j 0)) := fun j hj => by
  have h := heap_alloc_new w (.cells c3 5 fz)
  simp only [World.cell?, h]
  match j, hj with
  | 0, _ | 1, _ | 2, _ => rfl
theorem rsB_take {l : List Rc} {k : Nat} {x : Rc} (h : l[k]? = some x) : rsB (l.take (k + 1)) = rsB (l.take k) ++ rcB x := by
  have hk := (List.getElem?_eq_some_iff.1 h).1
  have e := (List.getElem?_eq_some_iff.1 h).2
  rw [List.take_succ_eq_append_getElem hk, e]
  simp [rsB]
theorem rsB_len {l : List Rp} (hok : ∀ x ∈ l, x.r.ok) (h : (rcs l).all okRc = true) : ∀ k, k ≤ l.length → (rsB ((rcs l).take k)).length ≤ k * 1000
  | 0, _ => by simp [rsB]
  | k + 1, hk => by
    obtain ⟨x, hx⟩ : ∃ x, l[k]? = some x := ⟨_, List.getElem?_eq_getElem (by omega)⟩
    have hxr : (rcs l)[k]? = some x.rc := by rw [rcs_get, hx]; rfl
    rw [rsB_take hxr, List.length_append]
    have := rsB_len hok h k (by omega)
    have hm := List.mem_of_getElem? hx
    have := rcB_len x.r (hok x hm) x.ps (List.all_eq_true.1 h x.rc (List.mem_of_getElem? hxr))
    have e : (rcB x.rc).length ≤ 1000 := this
    omega
theorem rsB_byte {l : List Rp} (hok : ∀ x ∈ l, x.r.ok) : ∀ z ∈ rsB (rcs l), z < 256 := fun z hz => by
  unfold rsB rcs at hz
  rw [List.map_map] at hz
  obtain ⟨b, hb, hz⟩ := List.mem_flatten.1 hz
  obtain ⟨x, hx, rfl⟩ := List.mem_map.1 hb
  exact rcB_byte x.r (hok x hx) x.ps z hz
/-- What stands ahead of the records. -/
def hdJ (s : Int) (n : Nat) : List Nat := [83, 74, 49] ++ ib s ++ nb n
theorem jBody_hd (s : Int) (l : List Rp) : jBody ⟨s, rcs l⟩ = hdJ s l.length ++ rsB (rcs l) := by unfold jBody hdJ; simp only [rcs_len]
theorem hdJ_len {s : Int} {n : Nat} (hs : s ≤ 1099511627776) (hn : n ≤ 64) : (hdJ s n).length ≤ 15 := by
  unfold hdJ
  have h1 := ib_le (n := s) (by omega)
  have h2 := nb_le (n := n) (by omega)
  simp only [List.length_append, List.length_cons, List.length_nil]
  omega
theorem hdJ_byte (s : Int) (n : Nat) : ∀ z ∈ hdJ s n, z < 256 := fun z hz => by
  unfold hdJ ib at hz
  simp only [List.mem_append, List.mem_cons, List.not_mem_nil, or_false] at hz
  rcases hz with ((rfl | rfl | rfl) | h) | h
  · decide
  · decide
  · decide
  · exact nb_byte _ z h
  · exact nb_byte _ z h
#print axioms grow_buf
end Go.Proofs.YtcbmimjjpkkoeaaDoor

/- journal.Bytes: the walks. -/
namespace Go.Proofs.YtcbmimjjpkkoeaaDoor
open Go Go.RowKit

set_option maxRecDepth 100000 in
set_option maxHeartbeats 1000000 in
theorem jbytes_bad (s : Int) (v : Value) (l : List Rp) (w : World) (hl : RL w v l) (h : okJ ⟨s, rcs l⟩ = false) : Calls Tryd.prog 8 #[.agg (jC s v)] w fun e w' => e = .returned (.tuple #[.slice none 0 0, i64 2]) ∧ Below w.heap.size w w' := by
  have HL := hid hl
  obtain ⟨po, c, rfl, _⟩ := hl
  have HCK : Hid (∀ W, Below w.heap.size w W → Calls Tryd.prog 24 #[.agg (jC s (.slice po l.length c))] W fun e w' => e = .returned (i64 2) ∧ Below W.heap.size W w') := hid fun W hW => by have h9 := jcheck_any s _ l W (HL.out.below hW); rw [h] at h9; exact h9
  clear h
  go_enter Tryd.func8, Tryd.ntmps8
  go_wp2_with (first
    | ((with_reducible refine wpList_boxT 24 rfl _ rfl (jC s (.slice po l.length c)) ?_ ?_); exact rfl; intro w1 g1 hc1 hb1 hg1; have HC1 := hid hc1; have HB1 := hid hb1; clear hb1 hc1)
    | ((with_reducible refine wpList_load_at 24 _ rfl ?_ g1 0 ?_ (jC s (.slice po l.length c)) (.struct (Tryd.prog.fieldsOf 24)) ?_ underJrn rfl ?_ ?_); exact rfl; exact rfl; exact HC1.out.wholeJ; exact sizeJ)
    | (go_at_call 24; refine (HCK.out _ HB1.out).mono ?_; rintro e w3 ⟨rfl, hb3⟩; have HB3 := hid (below_on HB1.out hb3); clear hb3))
  go_ret2
  exact ⟨rfl, HB3.out⟩
theorem Buf.form3 {B : Nat} {w : World} {v : Value} {L : List Nat} (h : Buf B w v L) : ∃ po n cc, v = .slice po n cc := by obtain ⟨p, c, e⟩ := h.form; exact ⟨p, _, c, e⟩
/-- Behind what was made so far. -/
structure B2 (w : World) (g1 : Nat) (s : Int) (v : Value) (W : World) : Prop where
  below : Below w.heap.size w W
  cj : CAt W g1 (jC s v) 24
theorem B2.on {w W W' : World} {g1 : Nat} {s : Int} {v : Value} (h : B2 w g1 s v W) (hb : Below W.heap.size W W') : B2 w g1 s v W' := ⟨below_on h.below hb, h.cj.below hb⟩
/-- The loop: so many records have been written behind the head. -/
structure BI (w1 : World) (s : Int) (n : Nat) (rs : List Rc) (k : Nat) (v : Value) (W : World) : Prop where
  below : Below w1.heap.size w1 W
  buf : Buf w1.heap.size W v (hdJ s n ++ rsB (rs.take k))
def BytE (w : World) (L : List Nat) (e : Ending) (w' : World) : Prop := ∃ v, e = .returned (.tuple #[v, i64 0]) ∧ Buf w.heap.size w' v L ∧ Below w.heap.size w w'
theorem BI.app {w1 W W1 : World} {s : Int} {n : Nat} {rs : List Rc} {k : Nat} {v : Value} (h : BI w1 s n rs k v W) (hb : Below W.heap.size W W1) {x : Rc} (hx : rs[k]? = some x) {po : Option Addr} (hbl : BL W1 po (rcB x)) (hz : po = none → (rcB x).length = 0) (hn : (hdJ s n ++ rsB (rs.take k)).length + (rcB x).length ≤ 2000000) :
    ∃ v' W2, (Builtin.append_ #[27, 27] 27 #[v, .slice po (rcB x).length (rcB x).length]).run Tryd.prog W1 = .ok v' W2 ∧ BI w1 s n rs (k + 1) v' W2 := by
  obtain ⟨v', W2, hr, hb2, hg⟩ := (h.buf.below hb).app po (rcB x).length (rcB x) hbl hz hn (Nat.le_trans h.below.size hb.size)
  refine ⟨v', W2, hr, below_grown (below_on h.below hb) hg (Nat.le_refl _) (fun b e => (own_ge h.buf b e).1), ?_⟩
  rw [rsB_take hx, ← List.append_assoc]; exact hb2
set_option maxRecDepth 100000 in
set_option maxHeartbeats 2000000 in
theorem jbytes_ok (s : Int) (v : Value) (l : List Rp) (w : World) (hl : RL w v l) (h : okJ ⟨s, rcs l⟩ = true) : Calls Tryd.prog 8 #[.agg (jC s v)] w (BytE w (jB dig ⟨s, rcs l⟩)) := by
  have HL := hid hl
  obtain ⟨k1, k2, k3, k4, _⟩ := okJ_parts h
  simp only [rcs_len] at k1 k2 k3 k4
  have hlok := hl.ok
  have HOK := hid hlok
  have HRL := hid (rsB_len hlok k4)
  have HALL := hid k4
  obtain ⟨po, c, rfl, _⟩ := hl
  have HCK : Hid (∀ W, Below w.heap.size w W → Calls Tryd.prog 24 #[.agg (jC s (.slice po l.length c))] W fun e w' => e = .returned (i64 0) ∧ Below W.heap.size W w') := hid fun W hW => by have h9 := jcheck_any s _ l W (HL.out.below hW); rw [h] at h9; exact h9
  have hcv := fun (w : World) (C : Array Value) (n c : Nat) => Go.Lib.run_convert_bytes_const (P := Tryd.prog) w 27 5 C n c Tryd.underlying27 under5'
  have hsn : s = ((s.toNat : Nat) : Int) := (ib_toNat (by omega)).symm
  have HU1 : Hid (∀ W, Calls Tryd.prog 25 #[i64 s] W (OutE W (ib s) 0)) := hid fun W => by rw [hsn]; exact uint_ok s.toNat W (by omega)
  have HU2 : Hid (∀ W, Calls Tryd.prog 25 #[i64 (l.length : Int)] W (OutE W (nb l.length) 0)) := hid fun W => uint_ok l.length W (by omega)
  have HH := hid (hdJ_len (s := s) (n := l.length) (by omega) k3)
  have HI6 := hid (ib_le (n := s) k2)
  have HN6 := hid (nb_le (n := l.length) (by omega))
  clear h k4 hsn hlok
  have T1 : Hid True := hid trivial
  have T2 : Hid True := hid trivial
  have T3 : Hid True := hid trivial
  go_enter Tryd.func8, Tryd.ntmps8
  go_wp2_with (first
    | ((with_reducible refine wpList_boxT 24 rfl _ rfl (jC s (.slice po l.length c)) ?_ ?_); exact rfl; intro w1 g1 hc1 hb1 hg1; have HF : Hid (B2 w g1 s (.slice po l.length c) w1) := hid ⟨hb1, hc1⟩; clear hb1 hc1)
    | ((with_reducible refine wpList_load_at 24 _ rfl ?_ g1 0 ?_ (jC s (.slice po l.length c)) (.struct (Tryd.prog.fieldsOf 24)) ?_ underJrn rfl ?_ ?_); exact rfl; exact rfl; exact HF.out.cj.wholeJ; exact sizeJ)
    | (go_at_call 24; refine (HCK.out _ HF.out.below).mono ?_; rintro e w3 ⟨rfl, hb3⟩; replace HF := hid (HF.out.on hb3); have c0 := HF.out.cj.j0; have c1 := HF.out.cj.j1; clear hb3)
    | (clear T1; go_at_call 25; refine (HU1.out _).mono ?_; rintro e w4 ⟨v4, rfl, ho4, hb4⟩; replace HF := hid (HF.out.on hb4); clear c0 c1; have c1 := HF.out.cj.j1; have HO4 := hid ho4; clear ho4 hb4)
    | (clear T2; go_at_call 25; refine (HU2.out _).mono ?_; rintro e w5 ⟨v5, rfl, ho5, hb5⟩; replace HF := hid (HF.out.on hb5); clear c1; replace HO4 := hid (HO4.out.below hb5); obtain ⟨p4, hp4, hbl4, hz4⟩ := HO4.out.form; subst hp4; obtain ⟨p5, hp5, hbl5, hz5⟩ := ho5.form; subst hp5; obtain ⟨v6, w6, hr6, hbf6, hb6⟩ := grow_buf (w5.alloc (.cells c3 5 (3, 4))) w5.heap.size [83, 74, 49] (c3_cells w5 (3, 4)) p4 (ib s).length (ib s) (hbl4.below (below_al _ _)) (nb_ne _) (by have := HI6.out; simp only [List.length_cons, List.length_nil]; omega); have hb56 := below_on (below_al w5 (.cells c3 5 (3, 4))) hb6; obtain ⟨v7, w7, hr7, hbf7, hg7⟩ := hbf6.app p5 (nb l.length).length (nb l.length) (hbl5.below hb56) hz5 (by have := HI6.out; have := HN6.out; simp only [List.length_append, List.length_cons, List.length_nil]; omega) hb6.size; have HRUN6 := hid hr6; have HRUN7 := hid hr7; have HI : Hid (BI w5 s l.length (rcs l) 0 v7 w7) := hid ⟨below_grown hb56 hg7 (Nat.le_refl _) (fun b e => by have := (own_ge hbf6 b e).1; rw [size_al] at this; omega), (by have e9 : hdJ s l.length ++ rsB ((rcs l).take 0) = [83, 74, 49] ++ ib s ++ nb l.length := (by simp [hdJ, rsB]); rw [e9]; exact own_base hbf7 (by rw [size_al]; omega))⟩; have c1 := (HF.out.on HI.out.below).cj.j1; obtain ⟨q7, n7, cc7, hv7⟩ := hbf7.form3; subst hv7; clear hr6 hr7 hbf6 hbf7 hg7 hb6 hb56 ho5 hb5)
    | (clear T3; at_builtin; refine wpList_append_run _ _ 27 27 rfl rfl _ _ _ rfl rfl HRUN6.out ?_)
    | (at_builtin; refine wpList_append_run _ _ 27 27 rfl rfl _ _ _ rfl rfl HRUN7.out ?_))
  go_loopg [9, 11, 12, 13, 42] l.length (fun gg s9 _ _ _ s42 wr => ∃ (kk : Nat) (p9 : Option Addr) (n9 c9 : Nat), kk ≤ l.length ∧ l.length - kk ≤ gg ∧ s42 = i64 kk ∧ s9 = .slice p9 n9 c9 ∧ Hid (BI w5 s l.length (rcs l) kk (.slice p9 n9 c9) wr))
  case atStart => exact ⟨0, _, _, _, Nat.zero_le _, by omega, rfl, rfl, HI.out⟩
  case round =>
    obtain ⟨kk, p9, n9, c9, hkk, hg, rfl, rfl, I⟩ := hrel
    clear HI c1 HRUN6 HRUN7
    by_cases hlt : kk < l.length
    · have hltz : (kk : Int) < (l.length : Int) := by omega
      have HBW := hid (below_on HF.out.below I.out.below)
      obtain ⟨b, o, x, e1, hx, hrx, hkx, hox⟩ := HL.out.at HBW.out hlt
      subst e1
      have hok := hkx.ok
      have HR := hid hrx
      have HKX := hid hkx
      have hxr : (rcs l)[kk]? = some x.rc := by rw [rcs_get, hx]; rfl
      have HXR := hid hxr
      have HX1 := hid (show (rcB x.rc).length ≤ 1000 from rcB_len x.r hok x.ps (List.all_eq_true.1 HALL.out x.rc (List.mem_of_getElem? hxr)))
      have HBY : Hid (∀ W, Below wr.heap.size wr W → Calls Tryd.prog 26 #[.agg x.r.cs] W (OutE W (rcB x.rc) 0)) := hid fun W hW => bytes_ok x.r hok x.ps W (HKX.out.pl.below hW) (List.all_eq_true.1 HALL.out x.rc (List.mem_of_getElem? HXR.out))
      clear hrx hkx hx hxr
      have T4 : Hid True := hid trivial
      go_wp2_with (first
        | (clear T4; (with_reducible refine wpList_loadM rfl _ rfl b (o + kk * 42) ?_ x.r hok HR.out ?_); exact rfl)
        | ((with_reducible refine wpList_allocR rfl rfl ?_); intro wa ga hza hba hga; have HZA := hid hza; have HBA := hid hba; have HGA := hid hga; clear hza hba hga)
        | ((with_reducible refine wpList_storeR rfl rfl _ _ rfl ga ?_ (r := x.r) ?_ zR_ok hok hox HZA.out ?_); exact rfl; exact rfl; intro wb hb9 ob9; have HOB := hid (Own1.mk1 HBA.out HGA.out hb9 ob9); clear hb9 ob9 HZA)
        | ((with_reducible refine wpList_load_at 44 _ rfl ?_ ga 0 ?_ x.r.cs (.struct (Tryd.prog.fieldsOf 44)) ?_ underRec rfl ?_ ?_); exact rfl; exact rfl; exact HOB.out.box.whole; (rw [hok.size]; exact sizeR))
        | (go_at_call 26; refine (HBY.out _ HOB.out.below).mono ?_; rintro e wc ⟨vc, rfl, hoc, hbc⟩; obtain ⟨pc, hpc, hblc, hzc⟩ := hoc.form; subst hpc; obtain ⟨vd, wd, hrd, hId⟩ := I.out.app (below_on HOB.out.below hbc) HXR.out hblc hzc (by have h1 := HRL.out kk (by omega); have h2 := HH.out; have h3 := HX1.out; simp only [List.length_append]; omega); have HRUN := hid hrd; have HID := hid hId; obtain ⟨pd, nd, cd, hvd⟩ := hId.buf.form3; subst hvd; clear hoc hbc hblc hzc hrd hId)
        | (at_builtin; refine wpList_append_run _ _ 27 27 rfl rfl _ _ _ rfl rfl HRUN.out ?_))
      go_roundg (l.length - (kk + 1))
      case measure => omega
      case rel => exact ⟨kk + 1, _, _, _, by omega, by omega, by go_num, rfl, HID.out⟩
    · have hltz : ¬ (kk : Int) < (l.length : Int) := by omega
      have hke : kk = l.length := by omega
      obtain ⟨X, hX⟩ : ∃ X, jBody ⟨s, rcs l⟩ = X := ⟨_, rfl⟩
      have hbuf : Buf w5.heap.size wr (.slice p9 n9 c9) X := by
        have := I.out.buf
        rw [List.take_of_length_le (by rw [rcs_len]; omega), ← jBody_hd, hX] at this
        exact this
      have hXl : X.length ≤ 100000 := by
        have h1 := HRL.out l.length (Nat.le_refl _)
        have h2 := HH.out
        rw [List.take_of_length_le (by rw [rcs_len]; omega)] at h1
        rw [← hX, jBody_hd, List.length_append]; omega
      have hX8 : ∀ z ∈ X, z < 256 := fun z hz => by
        rw [← hX, jBody_hd] at hz
        rcases List.mem_append.1 hz with hz | hz
        · exact hdJ_byte _ _ z hz
        · exact rsB_byte HOK.out z hz
      obtain ⟨hn9, hc9⟩ := hbuf.cap
      have HSUM : Hid (∀ W, Below wr.heap.size wr W → Calls Tryd.prog 27 #[.slice p9 n9 c9] W fun e w' => e = .returned (.agg (sumC (dig X))) ∧ Below W.heap.size W w') := hid fun W hW => by rw [hn9]; exact dsum_any p9 c9 X W (by omega) (by omega) (hbuf.bl.below hW) hX8
      have HBF := hid hbuf
      have HXL := hid hXl
      have hdl := dig_len X
      generalize hD : dig X = D at HSUM hdl
      have HD := hid hD
      have HX := hid hX
      clear hbuf hXl hX8 hn9 hc9 hD hX hke
      have hsl := run_dig
      go_wp2_with (first
        | (go_at_call 27; refine (HSUM.out _ (Below.refl _ _)).mono ?_; rintro e wd ⟨rfl, hbd⟩; have HBD := hid hbd; clear hbd)
        | ((with_reducible refine wpList_allocD rfl rfl ?_); intro wa ga hza hba hga; have HZA := hid hza; have HBA := hid (below_on HBD.out hba); have HGA := hid (show wr.heap.size ≤ ga by have := HBD.out.size; omega); clear hza hba hga)
        | ((with_reducible refine wpList_storeD rfl rfl _ _ rfl ga ?_ (m := zeroD) (n := D) ?_ ?_ hdl HZA.out ?_); exact rfl; exact rfl; exact rfl; intro wb hb9 ob9; have HBB := hid (below_tr HBA.out (ob9.below HBA.out.size (fun i e => by have := HGA.out; omega))); have hblD := hb9.bl; obtain ⟨ve, we, hre, hbe, hge⟩ := (HBF.out.below HBB.out).app (some ⟨ga, 0, none⟩) 32 D hblD (fun e => by cases e) (by have := HXL.out; omega) (by have := I.out.below.size; have := HBB.out.size; omega); rw [hdl] at hre; have HRUN := hid hre; have HBE := hid hbe; have HGE := hid hge; clear hb9 ob9 HZA hblD hre hbe hge)
        | (at_builtin; refine wpList_append_run _ _ 27 27 rfl rfl _ _ _ rfl rfl HRUN.out ?_))
      go_ret2
      have hjb : jB dig ⟨s, rcs l⟩ = X ++ D := by unfold jB; rw [HX.out, HD.out]
      have hbw : Below w5.heap.size wr we := below_grown (below_less HBB.out (by have := I.out.below.size; omega)) HGE.out (by have := I.out.below.size; omega) (fun b e => (own_ge HBF.out b e).1)
      refine ⟨_, rfl, ?_, below_tr (below_on HF.out.below I.out.below) (below_less hbw (by have := HF.out.below.size; omega))⟩
      rw [hjb]
      exact own_base HBE.out (by have := HF.out.below.size; omega)
#print axioms jbytes_ok
end Go.Proofs.YtcbmimjjpkkoeaaDoor

/- errors.Is of two errors of errors.New; told. -/
namespace Go.Proofs.YtcbmimjjpkkoeaaDoor
open Go Go.RowKit Go.Extern.Stop Go.Stop Go.Extern

abbrev eV (a : Addr) : Value := .iface 144 (.pointer (some a))
theorem callTypeOf (v : Value) (w : World) : (callFunc 73 #[.iface 144 v]).run Tryd.prog w = .ok (.value (.iface 122 (.agg #[.pointer (some ⟨2, 144, none⟩)]))) w := by
  rw [run_callFunc_extern (e := Extern.ReflectliteType.typeOf) Tryd.func73 (by kernel_rfl) (by kernel_rfl) (by kernel_rfl) (by kernel_rfl)]
  have h : (Extern.ReflectliteType.typeOf #[.iface 144 v]).run Tryd.prog w = .ok (.iface 122 (.agg #[.pointer (some ⟨2, 144, none⟩)])) w := by kernel_rfl
  rw [h]; rfl
theorem callComparable (w : World) : (callFunc 113 #[.agg #[.pointer (some ⟨2, 144, none⟩)]]).run Tryd.prog w = .ok (.value (.bool true)) w := by
  rw [run_callFunc_extern (e := Extern.ReflectliteType.method fun t => do Rtype.noPackHeld "Comparable" t; pure (.bool (← typeInfo t).comparable)) Tryd.func113 (by kernel_rfl) (by kernel_rfl) (by kernel_rfl) (by kernel_rfl)]
  have h : ((Extern.ReflectliteType.method fun t => do Rtype.noPackHeld "Comparable" t; pure (.bool (← typeInfo t).comparable)) #[.agg #[.pointer (some ⟨2, 144, none⟩)]]).run Tryd.prog w = .ok (.bool true) w := by kernel_rfl
  rw [h]; rfl
theorem isComp : (Tryd.prog.info? 144).map (·.comparable) = some true := by kernel_rfl
theorem isSize : (Tryd.prog.info? 167).map (·.size) = some 1 := by kernel_rfl
theorem noIs (v : Value) (xT : TypeId) (w : World) : (Instr.typeAssert (.iface 144 v) xT 124 true).run Tryd.prog w = .ok (.tuple #[.nilIface, .bool false]) w := run_typeAssert_lacksB Tryd.underlying124 (by kernel_rfl) (by kernel_rfl) v xT w
theorem noUnwrap (v : Value) (xT : TypeId) (w : World) : (Instr.typeAssert (.iface 144 v) xT 127 true).run Tryd.prog w = .ok (.tuple #[.nilIface, .bool false]) w := run_typeAssert_lacksB Tryd.underlying127 (by kernel_rfl) (by kernel_rfl) v xT w
theorem noUnwraps (v : Value) (xT : TypeId) (w : World) : (Instr.typeAssert (.iface 144 v) xT 129 true).run Tryd.prog w = .ok (.tuple #[.nilIface, .bool false]) w := run_typeAssert_lacksB Tryd.underlying129 (by kernel_rfl) (by kernel_rfl) v xT w
theorem isMethod (v : Value) (w : World) : (Go.method 279 122 v "Comparable").run Tryd.prog w = .ok (113, v) w := by kernel_rfl
set_option maxRecDepth 100000 in
set_option maxHeartbeats 1000000 in
theorem is_same (a : Addr) (w : World) : Calls Tryd.prog 54 #[eV a, eV a] w fun e w' => e = .returned (.bool true) ∧ w' = w := by
  obtain ⟨i, hi, hcmp⟩ := Option.map_eq_some_iff.1 isComp
  obtain ⟨j, hj, hjs⟩ := Option.map_eq_some_iff.1 isSize
  have tT := callTypeOf
  have cT := callComparable
  have mR := isMethod
  have heq := run_eql_iface_ptr_same (P := Tryd.prog) w a Tryd.underlying66 Tryd.underlying144 hi hcmp hj
  go_enter Tryd.func54, Tryd.ntmps54
  go_wp2
  refine wp_loop_rounds 1 ?_
  rw [rounds_succ]
  go_wp2
  go_ret
  exact ⟨rfl, rfl⟩
set_option maxRecDepth 100000 in
set_option maxHeartbeats 1000000 in
theorem is_other (a b : Addr) (ca cb : Array Value) (ta tb : TypeId) (w : World) (hne : a ≠ b) (ha : w.heap[a.block]? = some (.cells ca ta (0, 0))) (hb : w.heap[b.block]? = some (.cells cb tb (0, 0))) : Calls Tryd.prog 54 #[eV a, eV b] w fun e w' => e = .returned (.bool false) ∧ w' = w := by
  obtain ⟨i, hi, hcmp⟩ := Option.map_eq_some_iff.1 isComp
  obtain ⟨j, hj, hjs⟩ := Option.map_eq_some_iff.1 isSize
  have tT := callTypeOf
  have cT := callComparable
  have mR := isMethod
  have nE := noIs
  have uE := noUnwrap
  have vE := noUnwraps
  have heq := run_eql_iface_ptr_other (P := Tryd.prog) w Tryd.underlying66 Tryd.underlying144 hi hcmp hj (by rw [hjs]; decide) hne ha hb
  go_enter Tryd.func54, Tryd.ntmps54
  go_wp2
  refine wp_loop_rounds 1 ?_
  rw [rounds_succ]
  go_wp2
  go_ret
  exact ⟨rfl, rfl⟩
/-- The two errors of package journal, as start-up code lays them. -/
structure Ers (w : World) (a0 a1 : Addr) : Prop where
  c0 : w.cell? ⟨0, 0, none⟩ = some (eV a0)
  c1 : w.cell? ⟨1, 0, none⟩ = some (eV a1)
  ne : a1 ≠ a0
  r0 : ∃ ca ta, w.heap[a0.block]? = some (.cells ca ta (0, 0))
  r1 : ∃ ca ta, w.heap[a1.block]? = some (.cells ca ta (0, 0))
theorem Ers.below {w W : World} {a0 a1 : Addr} (h : Ers w a0 a1) (hb : Below w.heap.size w W) : Ers W a0 a1 where
  c0 := (World.cell?_of_block (hb.block _ (cell_lt' (by rw [h.c0]; simp)))).trans h.c0
  c1 := (World.cell?_of_block (hb.block _ (cell_lt' (by rw [h.c1]; simp)))).trans h.c1
  ne := h.ne
  r0 := by obtain ⟨ca, ta, e⟩ := h.r0; exact ⟨ca, ta, (hb.block _ (Array.getElem?_eq_some_iff.1 e).1).trans e⟩
  r1 := by obtain ⟨ca, ta, e⟩ := h.r1; exact ⟨ca, ta, (hb.block _ (Array.getElem?_eq_some_iff.1 e).1).trans e⟩
set_option maxRecDepth 100000 in
theorem told_turned (a0 a1 : Addr) (w : World) (h : Ers w a0 a1) : Calls Tryd.prog 29 #[eV a0] w fun e w' => e = .returned (i64 14) ∧ w' = w := by
  have c0 := h.c0
  clear h
  go_enter Tryd.func29, Tryd.ntmps29
  go_wp2_with (go_at_call 54; refine (is_same a0 _).mono ?_; rintro e w1 ⟨rfl, hw1⟩; have hw2 := hw1.symm; subst hw2)
  go_ret
  exact ⟨rfl, rfl⟩
set_option maxRecDepth 100000 in
theorem told_form (a0 a1 : Addr) (w : World) (h : Ers w a0 a1) : Calls Tryd.prog 29 #[eV a1] w fun e w' => e = .returned (i64 4) ∧ w' = w := by
  have c0 := h.c0
  have HE := hid h
  clear h
  go_enter Tryd.func29, Tryd.ntmps29
  go_wp2_with (go_at_call 54; obtain ⟨ca, ta, e0⟩ := HE.out.r0; obtain ⟨cb, tb, e1⟩ := HE.out.r1; refine (is_other a1 a0 cb ca tb ta _ HE.out.ne e1 e0).mono ?_; rintro e w1 ⟨rfl, hw1⟩; have hw2 := hw1.symm; subst hw2)
  go_ret
  exact ⟨rfl, rfl⟩
#print axioms told_form
end Go.Proofs.YtcbmimjjpkkoeaaDoor

/- bytes.Equal, HasPrefix; what looks at a journal's sign and digest. -/
namespace Go.Proofs.YtcbmimjjpkkoeaaDoor
open Go Go.RowKit

theorem lst_eq_ba {A B : List Nat} (hA : ∀ z ∈ A, z < 256) (hB : ∀ z ∈ B, z < 256) : ((ba A).toList == (ba B).toList) = decide (A = B) := by
  rw [lst_beq, lst_ba hA, lst_ba hB]
theorem equalB_any (po qo : Option Addr) (c d : Nat) (A B : List Nat) (w : World) (hA : BL w po A) (hB : BL w qo B) (a8 : ∀ z ∈ A, z < 256) (b8 : ∀ z ∈ B, z < 256) : Calls Tryd.prog 70 #[.slice po A.length c, .slice qo B.length d] w fun e w' => e = .returned (.bool (decide (A = B))) ∧ w' = w := by
  have h1 := hA.conv c
  have h2 := hB.conv d
  have HE := hid (lst_eq_ba a8 b8)
  generalize ba A = SA at h1 HE
  generalize ba B = SB at h2 HE
  clear hA hB a8 b8
  go_enter Tryd.func70, Tryd.ntmps70
  go_wp2
  go_ret
  exact ⟨by rw [← HE.out]; rfl, rfl⟩
theorem run_head8n (po : Option Addr) (n c h : Nat) (hh : h ≤ c) (w : World) : (Instr.slice 27 (.slice po n c) none (some (.int .i64 (h : Int))) none).run Tryd.prog w = .ok (.slice po h c) w := by
  rw [run_slice_h (P := Tryd.prog) w 27 po n c underE8 .i64 (h : Int) (by omega) (by omega), elem8]
  cases po with
  | none => simp [Result.andThen, sliced]
  | some a =>
    by_cases h0 : c = 0
    · simp [Result.andThen, sliced, h0]
    · simp [Result.andThen, sliced, h0, add_zero']
theorem len_take {L : List Nat} {k : Nat} (h : k ≤ L.length) : (L.take k).length = k := by rw [List.length_take]; omega
theorem prefix_any (po qo : Option Addr) (c d : Nat) (A B : List Nat) (w : World) (hA : BL w po A) (hB : BL w qo B) (a8 : ∀ z ∈ A, z < 256) (b8 : ∀ z ∈ B, z < 256) (hl : B.length ≤ A.length) (hc : A.length ≤ c) : Calls Tryd.prog 69 #[.slice po A.length c, .slice qo B.length d] w fun e w' => e = .returned (.bool (decide (A.take B.length = B))) ∧ w' = w := by
  have hs := run_head8n po A.length c B.length (by omega)
  have hE := equalB_any po qo c d (A.take B.length) B w (hA.take B.length) hB (fun z hz => a8 z (List.mem_of_mem_take hz)) b8
  rw [len_take hl] at hE
  generalize decide (A.take B.length = B) = Q at hE
  have HE := hid hE
  have hl' : (B.length : Int) ≤ (A.length : Int) := by omega
  clear hE hA hB a8 b8
  go_enter Tryd.func69, Tryd.ntmps69
  go_wp2_with (go_at_call 70; refine HE.out.mono ?_; rintro e w1 ⟨rfl, hw1⟩; have hw2 := hw1.symm; subst hw2)
  go_ret
  exact ⟨rfl, rfl⟩
/-- What is left of bytes, and what was read of them so far: its cells. -/
def rC (l : Value) (n s : Int) (r : Value) : Array Value := #[l, i64 n, i64 s, r]
structure RdC (w : World) (p : Nat) (po : Option Addr) (L : List Nat) (c : Nat) (n s : Int) (r : Value) : Prop where
  at_ : CAt w p (rC (.slice po L.length c) n s r) 61
  bl : BL w po L
  ap : L ≠ [] → ∀ a, po = some a → a.block ≠ p
  le : L.length ≤ c
  lt : L.length ≤ 100000
  b8 : ∀ z ∈ L, z < 256
section
variable {w : World} {p : Nat} {po : Option Addr} {L : List Nat} {c : Nat} {n s : Int} {r : Value} (h : RdC w p po L c n s r)
include h
theorem RdC.below {w' : World} (hb : Below w.heap.size w w') : RdC w' p po L c n s r := ⟨h.at_.below hb, h.bl.below hb, h.ap, h.le, h.lt, h.b8⟩
theorem RdC.c0 : w.cell? ⟨p, 0, none⟩ = some (.slice po L.length c) := by rw [h.at_.cell]; rfl
theorem RdC.c1 : w.cell? ⟨p, 1, none⟩ = some (i64 n) := by rw [h.at_.cell]; rfl
theorem RdC.c2 : w.cell? ⟨p, 2, none⟩ = some (i64 s) := by rw [h.at_.cell]; rfl
theorem RdC.c3 : w.cell? ⟨p, 3, none⟩ = some r := by rw [h.at_.cell]; rfl
end
theorem sign_bl (w : World) (fz : Nat × Nat) : BL (w.alloc (.cells c3 5 fz)) (some ⟨w.heap.size, 0, none⟩) [83, 74, 49] := Or.inr ⟨_, _, rfl, fun i hi => by rw [Nat.zero_add]; exact c3_cells w fz i hi⟩
set_option maxRecDepth 100000 in
set_option maxHeartbeats 1000000 in
theorem sign_any (p : Nat) (po : Option Addr) (L : List Nat) (c : Nat) (n s : Int) (r : Value) (w : World) (a0 a1 : Addr) (h : RdC w p po L c n s r) (he : Ers w a0 a1) : Calls Tryd.prog 48 #[ptr p] w fun e w' => e = .returned (if L.length < 35 ∨ L.take 3 ≠ [83, 74, 49] then eV a1 else .nilIface) ∧ Below w.heap.size w w' := by
  obtain ⟨R, hR⟩ : ∃ R : Value, (if L.length < 35 ∨ L.take 3 ≠ [83, 74, 49] then eV a1 else .nilIface) = R := ⟨_, rfl⟩
  rw [hR]
  have HRR := hid hR
  clear hR
  have c0 := h.c0
  have HH := hid h
  have HER := hid he
  clear h he
  by_cases hl : L.length < 35
  · have hl' : (L.length : Int) < 35 := by omega
    have e1 := HER.out.c1
    go_enter Tryd.func48, Tryd.ntmps48
    go_wp2
    go_ret
    exact ⟨by rw [← HRR.out, if_pos (Or.inl hl)]; rfl, Below.refl _ _⟩
  · have hl' : ¬ (L.length : Int) < 35 := by omega
    have hcv := fun (w : World) (C : Array Value) (n c : Nat) => Go.Lib.run_convert_bytes_const (P := Tryd.prog) w 27 5 C n c Tryd.underlying27 under5'
    have hP := prefix_any po (some ⟨w.heap.size, 0, none⟩) c 3 L [83, 74, 49] (w.alloc (.cells c3 5 (3, 4))) (HH.out.bl.below (below_al _ _)) (sign_bl w (3, 4)) HH.out.b8 (by decide) (by simp only [List.length_cons, List.length_nil]; omega) HH.out.le
    have HP : Hid (Calls Tryd.prog 69 #[.slice po L.length c, .slice (some ⟨w.heap.size, 0, none⟩) 3 3] (w.alloc (.cells c3 5 (3, 4))) fun e w' => e = .returned (.bool (decide (L.take 3 = [83, 74, 49]))) ∧ w' = w.alloc (.cells c3 5 (3, 4))) := hid hP
    clear hP
    have HBW := hid (below_al w (.cells c3 5 (3, 4)))
    by_cases hq : L.take 3 = [83, 74, 49]
    · rw [decide_eq_true hq] at HP
      go_enter Tryd.func48, Tryd.ntmps48
      go_wp2_with (go_at_call 69; refine HP.out.mono ?_; rintro e w1 ⟨rfl, hw1⟩; have hw2 := hw1.symm; subst hw2)
      go_ret
      exact ⟨by rw [← HRR.out, if_neg (by rintro (k | k); exact hl k; exact k hq)]; rfl, HBW.out⟩
    · rw [decide_eq_false hq] at HP
      have e1 := (HER.out.below HBW.out).c1
      go_enter Tryd.func48, Tryd.ntmps48
      go_wp2_with (go_at_call 69; refine HP.out.mono ?_; rintro e w1 ⟨rfl, hw1⟩; have hw2 := hw1.symm; subst hw2)
      go_ret
      exact ⟨by rw [← HRR.out, if_pos (Or.inr hq)]; rfl, HBW.out⟩
#print axioms sign_any
end Go.Proofs.YtcbmimjjpkkoeaaDoor
