/- Texts laid into one: the remark ahead of each part says what is proved there. -/
import Derived.Test.YtcbmimjjpkkoeaaDoorQat
import Derived.Test.YtcbmimjjpkkoeaaDoorQad
import Derived.Test.YtcbmimjjpkkoeaaDoorQas
import Derived.Test.YtcbmimjjpkkoeaaDoorQak
import Derived.Test.YtcbmimjjpkkoeaaDoorQap
/- Pick; sealed; the bytes of a journal. -/
namespace Go.Proofs.YtcbmimjjpkkoeaaDoor
open Go Go.RowKit

def pkN (x : Int) (n : Nat) : Nat := if x.tmod n < 0 then (x.tmod n + n).toNat else (x.tmod n).toNat
theorem tmod_lo (x : Int) (n : Nat) (h : 1 ≤ n) : -(n : Int) < x.tmod n := by
  have := Int.tmod_lt_of_pos (-x) (b := (n : Int)) (by omega)
  rw [Int.neg_tmod] at this; omega
theorem pkN_lt (x : Int) (n : Nat) (h : 1 ≤ n) : pkN x n < n := by
  have b1 := Int.tmod_lt_of_pos x (b := (n : Int)) (by omega)
  have b2 := tmod_lo x n h
  unfold pkN; split <;> omega
theorem pick_any (x : Int) (n : Nat) (w : World) (h1 : 1 ≤ n) (hn : n ≤ 1000000) :
    Calls Tryd.prog 12 #[.int .i64 x, .int .i64 (n : Int)] w fun e w' => e = .returned (.int .i64 (pkN x n : Int)) ∧ w' = w := by
  have b1 := Int.tmod_lt_of_pos x (b := (n : Int)) (by omega)
  have b2 := tmod_lo x n h1
  have hn1 : ¬ (n : Int) < 1 := by omega
  have hn0 : ¬ (n : Int) = 0 := by omega
  by_cases hneg : x.tmod n < 0
  · have e : ((pkN x n : Nat) : Int) = x.tmod n + n := by unfold pkN; rw [if_pos hneg]; omega
    have HE := hid e
    clear e
    go_enter Tryd.func12, Tryd.ntmps12
    go_wp2
    go_ret
    exact ⟨by rw [HE.out]; rfl, rfl⟩
  · have e : ((pkN x n : Nat) : Int) = x.tmod n := by unfold pkN; rw [if_neg hneg]; omega
    have HE := hid e
    clear e
    go_enter Tryd.func12, Tryd.ntmps12
    go_wp2
    go_ret
    exact ⟨by rw [HE.out]; rfl, rfl⟩
/-- Are the last 32 bytes the digest of those ahead? -/
def sealB (L : List Nat) : Bool := decide (32 ≤ L.length) && decide (dig (L.take (L.length - 32)) = L.drop (L.length - 32))
theorem seal_rd {L : List Nat} (h : (rdJ dig L).1 = 0) : sealB L = true := by
  unfold rdJ at h
  by_cases h1 : L.length < 35 ∨ L.take 3 ≠ [83, 74, 49]
  · rw [if_pos h1] at h; cases h
  · rw [if_neg h1] at h
    by_cases h2 : dig (L.take (L.length - 32)) = L.drop (L.length - 32)
    · unfold sealB
      rw [decide_eq_true h2, decide_eq_true (show 32 ≤ L.length by omega)]; rfl
    · simp [h2] at h
set_option maxRecDepth 100000 in
set_option maxHeartbeats 2000000 in
theorem sealed_any (po : Option Addr) (c : Nat) (L : List Nat) (w : World) (h : BL w po L) (hc : L.length ≤ c) (hn : L.length ≤ 100000) (h8 : ∀ z ∈ L, z < 256) : Calls Tryd.prog 13 #[.slice po L.length c] w fun e w' => e = .returned (.bool (sealB L)) ∧ Below w.heap.size w w' := by
  by_cases h32 : L.length < 32
  · have e : sealB L = false := by unfold sealB; rw [decide_eq_false (by omega)]; rfl
    rw [e]
    obtain ⟨n, hn'⟩ : ∃ n, L.length = n := ⟨_, rfl⟩
    rw [hn'] at h32 ⊢
    have hz : (n : Int) - 32 < 0 := by omega
    clear h e h8
    go_enter Tryd.func13, Tryd.ntmps13
    go_wp2
    go_ret
    exact ⟨rfl, Below.refl _ _⟩
  · obtain ⟨E, hE⟩ : ∃ E, L.length = E + 32 := ⟨L.length - 32, by omega⟩
    obtain ⟨b, o, rfl, hcells⟩ : ∃ b o, po = some ⟨b, o, none⟩ ∧ True := by
      rcases h with h | ⟨b, o, h, _⟩
      · rw [h] at hE; simp at hE
      · exact ⟨b, o, h, trivial⟩
    have e : sealB L = decide (dig (L.take E) = L.drop E) := by unfold sealB; rw [decide_eq_true (show 32 ≤ L.length by omega), show L.length - 32 = E by omega]; rfl
    rw [e, hE]
    have hs1 := run_head8n (some ⟨b, o, none⟩) (E + 32) c E (by omega)
    have hs2 : ∀ w, (Instr.slice 27 (.slice (some ⟨b, o, none⟩) (E + 32) c) (some (.int .i64 (E : Int))) none none).run Tryd.prog w = .ok (.slice (some ⟨b, o + E, none⟩) 32 (c - E)) w := fun w => by have := run_from8s b o (E + 32) c E (by omega) (by omega) w; rwa [show E + 32 - E = 32 by omega] at this
    obtain ⟨D, hD⟩ : ∃ D, dig (L.take E) = D := ⟨_, rfl⟩
    have hDl : D.length = 32 := by rw [← hD]; exact dig_len _
    have hD8 : ∀ z ∈ D, z < 256 := by rw [← hD]; exact dig_lt _
    have hE32 : (L.drop E).length = 32 := by rw [List.length_drop]; omega
    have HSUM : Hid (Calls Tryd.prog 27 #[.slice (some ⟨b, o, none⟩) E c] w fun e w' => e = .returned (.agg (sumC D)) ∧ Below w.heap.size w w') := hid (by
      have := dsum_any (some ⟨b, o, none⟩) c (L.take E) w (by rw [len_take (by omega)]; omega) (by rw [len_take (by omega)]; omega) (h.take E) (fun z hz => h8 z (List.mem_of_mem_take hz))
      rw [len_take (by omega), hD] at this
      exact this)
    rw [hD]
    obtain ⟨R, hR⟩ : ∃ R : Bool, decide (D = L.drop E) = R := ⟨_, rfl⟩
    rw [hR]
    have HEQ : Hid (∀ W g, Below w.heap.size w W → CAt W g (sumC D) 41 → Calls Tryd.prog 14 #[.slice (some ⟨g, 0, none⟩) 32 32, .slice (some ⟨b, o + E, none⟩) 32 (c - E)] W fun e w' => e = .returned (.bool R) ∧ w' = W) := hid (fun W g hW hg => by
      have := sameB_any (w := W) (u := .slice (some ⟨g, 0, none⟩) 32 32) (v := .slice (some ⟨b, o + E, none⟩) 32 (c - E)) (x := D) (y := L.drop E) ⟨_, _, by rw [hDl], hg.bl, by omega⟩ ⟨_, _, by rw [hE32], (h.below hW).drop E, by omega⟩ hD8 (fun z hz => h8 z (List.mem_of_mem_drop hz))
      rw [hR] at this
      exact this)
    have hEi : (E : Int) ≤ 100000 := by omega
    have hw0 : (((E + 32 : Nat) : Int)) - 32 = (E : Int) := by omega
    have hE0 : ¬ (E : Int) < 0 := by omega
    clear h hcells hD hD8 hE32 hE e h8 hR h32 hn
    have hsd := run_dig
    go_enter Tryd.func13, Tryd.ntmps13
    go_upto_region 5 with (first
      | (go_at_call 27; refine HSUM.out.mono ?_; rintro e w1 ⟨rfl, hb1⟩; have HB1 := hid hb1; clear hb1)
      | ((with_reducible refine wpList_allocD rfl rfl ?_); intro w2 g2 hz2 hb2 hg2; have HZ2 := hid hz2; have HB2 := hid (below_on HB1.out hb2); have HG2 := hid (show w.heap.size ≤ g2 by have := HB1.out.size; omega); clear hz2 hb2 hg2)
      | ((with_reducible refine wpList_storeD rfl rfl _ _ rfl g2 ?_ (m := zeroD) (n := D) ?_ ?_ hDl HZ2.out ?_); exact rfl; exact rfl; exact rfl; intro w3 h3 o3; have HB3 := hid (below_tr HB2.out (o3.below HB2.out.size (fun i e => by have := HG2.out; omega))); have HC3 := hid h3; clear h3 o3 HZ2))
    simp only [Act.put, List.setIfInBounds_toArray, List.set_cons_zero, List.set_cons_succ]
    have HEQ2 := hid (fun k => HEQ.out (w3.drewN k) g2 (below_on HB3.out (below_drewN w3 k)) HC3.out)
    go_quiet ((go_at_call 14; refine Calls.quiet_of_same (HEQ2.out _)))
    go_wp2
    go_ret
    exact ⟨rfl, below_on HB3.out (below_drewN _ _)⟩
theorem jB_len8 {w : World} {v : Value} {s : Int} {l : List Rp} (hl : RL w v l) (h : okJ ⟨s, rcs l⟩ = true) : 35 ≤ (jB dig ⟨s, rcs l⟩).length ∧ (jB dig ⟨s, rcs l⟩).length ≤ 100000 ∧ ∀ z ∈ jB dig ⟨s, rcs l⟩, z < 256 := by
  obtain ⟨k1, k2, k3, k4, _⟩ := okJ_parts h
  simp only [rcs_len] at k1 k2 k3 k4
  have h1 := rsB_len hl.ok k4 l.length (Nat.le_refl _)
  rw [List.take_of_length_le (by rw [rcs_len]; exact Nat.le_refl _)] at h1
  have h2 := hdJ_len (s := s) (n := l.length) (by omega) k3
  have h3 : (jB dig ⟨s, rcs l⟩).length = (hdJ s l.length).length + (rsB (rcs l)).length + 32 := by
    unfold jB; rw [List.length_append, dig_len, jBody_hd, List.length_append]
  have h4 : 3 ≤ (hdJ s l.length).length := by unfold hdJ; simp only [List.length_append, List.length_cons, List.length_nil]; omega
  refine ⟨by omega, by omega, fun z hz => ?_⟩
  unfold jB at hz
  rcases List.mem_append.1 hz with hz | hz
  · rw [jBody_hd] at hz
    rcases List.mem_append.1 hz with hz | hz
    · exact hdJ_byte _ _ z hz
    · exact rsB_byte hl.ok z hz
  · exact dig_lt _ z hz
#print axioms sealed_any
end Go.Proofs.YtcbmimjjpkkoeaaDoor

/- The chapter's journal, reckoned. -/
namespace Go.Proofs.YtcbmimjjpkkoeaaDoor
open Go

/-- The mark null at a moment. -/
def mkN (t : Int) : Rc := ⟨[110, 117, 108, 108], t, true, 0, [], 0, 0, [], zeroD, [], []⟩
def oneJ : Jr := ⟨1, [mkN 5]⟩
theorem one_ok : okJ oneJ = true := by decide +kernel
theorem one_body : jBody oneJ = [83, 74, 49, 1, 1, 4, 110, 117, 108, 108, 5, 1] := by decide +kernel
theorem one_len : (jB dig oneJ).length = 44 := by
  unfold jB
  rw [List.length_append, dig_len, one_body]
  rfl
theorem one_back : rdJ dig (jB dig oneJ) = (0, some oneJ) := rdJ_jB dig_len one_ok
theorem one_43 : rdJ dig ((jB dig oneJ).take 43) = (14, none) := by decide +kernel
theorem one_turned : rdJ dig ((jB dig oneJ).set 9 109) = (14, none) := by decide +kernel
theorem none_34 : rdJ dig (List.replicate 34 0) = (4, none) := by decide +kernel
theorem none_35 : rdJ dig (List.replicate 35 0) = (4, none) := by decide +kernel
theorem one_add : addJ oneJ (mkN 9) = (0, some ⟨2, [mkN 9]⟩) := by decide +kernel
theorem one_rem : remJ oneJ [110, 117, 108, 108] = (0, some ⟨2, []⟩) := by decide +kernel
theorem one_remx : remJ oneJ [120] = (6, none) := by decide +kernel
theorem one_new : newJ ⟨2, []⟩ = (6, none) := by decide +kernel
theorem zero_add : addJ ⟨0, []⟩ (mkN 1) = (0, some ⟨1, [mkN 1]⟩) := by decide +kernel
#print axioms one_43
#print axioms one_turned
end Go.Proofs.YtcbmimjjpkkoeaaDoor

/- The chapter's journal: mark, one. -/
namespace Go.Proofs.YtcbmimjjpkkoeaaDoor
open Go Go.RowKit

def nul : ByteArray := ⟨#[110, 117, 108, 108]⟩
/-- The mark null at a moment, in memory. -/
def xM (t : Int) : Rp := ⟨mkR nul t, []⟩
theorem xM_rc (t : Int) : (xM t).rc = mkN t := by
  show Rv.rc (mkR nul t) [] = mkN t
  unfold Rv.rc mkR mkN
  congr 1
theorem nul_size : nul.size = 4 := rfl
theorem xM_ok (t : Int) : (xM t).r.ok := mkR_ok (by rw [nul_size]; omega)
theorem xM_at (t : Int) (w : World) : RpOk w (xM t) := ⟨xM_ok t, PL.nil w, fun n c e => by cases e; rfl⟩
theorem built_nul (t : Int) : Tryd.prog.built 44 [(0, .string nul), (1, i64 t), (2, .bool true)] = some (mkR nul t).cs := built_mark nul t
set_option maxRecDepth 100000 in
theorem mark8_any (t : Int) (w : World) : Calls Tryd.prog 23 #[i64 t] w fun e w' => e = .returned (.agg (xM t).r.cs) ∧ Below w.heap.size w w' := by
  have HB := hid (built_nul t)
  have hok := xM_ok t
  obtain ⟨X, hX⟩ : ∃ X, (xM t).r = X := ⟨_, rfl⟩
  have hXo : X.pv.oneCell' = true := by rw [← hX]; rfl
  have HB2 : Hid (Tryd.prog.built 44 [(0, .string nul), (1, i64 t), (2, .bool true)] = some X.cs) := hid (by rw [← hX]; exact HB.out)
  rw [hX] at hok ⊢
  clear hX HB
  go_enter Tryd.func23, Tryd.ntmps23
  go_wp2_with (first
    | ((with_reducible refine wpList_allocR rfl rfl ?_); intro w1 g1 hz1 hb1 hg1; have HZ1 := hid hz1; have HB1 := hid hb1; have HG1 := hid hg1; clear hz1 hb1 hg1)
    | ((with_reducible refine wpList_build_want 44 _ rfl ?_ X.cs ?_ ?_); exact rfl; exact HB2.out)
    | ((with_reducible refine wpList_storeR rfl rfl _ _ rfl g1 ?_ (r := X) ?_ zR_ok hok hXo HZ1.out ?_); exact rfl; exact rfl; intro w2 h2 o2; have H2 := hid h2; have O2 := hid o2; clear h2 o2))
  refine ret_rowR rfl g1 rfl rfl H2.out hok ⟨rfl, ?_⟩
  exact below_tr HB1.out (O2.out.below HB1.out.size (fun i e => by have := HG1.out; omega))
/-- The examples' journal, in memory. -/
def One1 (w : World) (e : Ending) (w' : World) : Prop := ∃ g, e = .returned (.agg (jC 1 (.slice (some ⟨g, 0, none⟩) 1 1))) ∧ RL w' (.slice (some ⟨g, 0, none⟩) 1 1) [xM 5] ∧ Below w.heap.size w w'
set_option maxRecDepth 100000 in
theorem one8_any (w : World) : Calls Tryd.prog 22 #[] w (One1 w) := by
  have hok := xM_ok 5
  have hR1 := fun (w : World) (g : Nat) (hc : CAt w g (xM 5).r.cs 44) => one_rl hc (xM_at 5 w)
  have HM := hid (fun w => mark8_any 5 w)
  unfold One1
  generalize xM 5 = X at hok hR1 HM ⊢
  have HR1 := hid hR1
  clear hR1
  go_enter Tryd.func22, Tryd.ntmps22
  go_wp2_with (first
    | ((with_reducible refine wpList_allocJ rfl rfl ?_); intro w1 g1 hz1 hb1 hg1; have HZ1 := hid hz1; have HB1 := hid hb1; have HG1 := hid hg1; clear hz1 hb1 hg1)
    | (go_at_call 23; refine (HM.out _).mono ?_; rintro e w2 ⟨rfl, hb2⟩; have HB2 := hid hb2; clear hb2)
    | ((with_reducible refine wpList_buildOne rfl _ rfl hok ?_ ?_); exact rfl; intro w3 g3 hc3 hb3 hg3; have HC3 := hid hc3; have HB3 := hid (below_on HB2.out hb3); have HG3 := hid (show g1 < g3 by have := HZ1.out.lt; have := HB2.out.size; omega); clear hc3 hb3 hg3)
    | ((with_reducible refine wpList_build_want 24 _ rfl ?_ (jC 1 (.slice (some ⟨g3, 0, none⟩) 1 1)) ?_ ?_); exact rfl; exact builtJ 1 (some ⟨g3, 0, none⟩) 1 1)
    | ((with_reducible refine wpList_storeJ rfl rfl _ _ rfl g1 ?_ (s := 1) (v := .slice (some ⟨g3, 0, none⟩) 1 1) ?_ rfl (HZ1.out.below HB3.out) ?_); exact rfl; exact rfl; intro w4 h4 o4; have H4 := hid h4; have O4 := hid o4; clear h4 o4))
  refine ret_rowJ1 rfl g1 rfl rfl H4.out ⟨g3, rfl, HR1.out _ _ (HC3.out.keep (O4.out.block g3 HC3.out.lt (by have := HG3.out; omega))), ?_⟩
  have hb := below_on HB1.out HB3.out
  exact below_tr hb (O4.out.below hb.size (fun i e => by have := HG1.out; omega))
theorem rcs_one : rcs [xM 5] = [mkN 5] := by show [(xM 5).rc] = _; rw [xM_rc]
#print axioms one8_any
end Go.Proofs.YtcbmimjjpkkoeaaDoor

/- journal.Bytes: the walks. -/
namespace Go.Proofs.YtcbmimjjpkkoeaaDoor
open Go Go.RowKit

set_option maxRecDepth 100000 in
set_option maxHeartbeats 1000000 in
theorem jbytes_bad (s : Int) (v : Value) (l : List Rp) (w : World) (hl : RL w v l) (h : okJ ⟨s, rcs l⟩ = false) : Calls Tryd.prog 8 #[.agg (jC s v)] w fun e w' => e = .returned (.tuple #[.slice none 0 0, i64 2]) ∧ Below w.heap.size w w' := by
  have HL := hid hl
  obtain ⟨po, c, rfl, _⟩ := hl
  have HCK : Hid (∀ W, Below w.heap.size w W → Calls Tryd.prog 24 #[.agg (jC s (.slice po l.length c))] W fun e w' => e = .returned (i64 2) ∧ Below W.heap.size W w') := hid fun W hW => by have h9 := jcheck_any s _ l W (HL.out.below hW); rw [h] at h9; exact h9
  clear h
  go_enter Tryd.func8, Tryd.ntmps8
  go_wp2_with (first
    | ((with_reducible refine wpList_boxT 24 rfl _ rfl (jC s (.slice po l.length c)) ?_ ?_); exact rfl; intro w1 g1 hc1 hb1 hg1; have HC1 := hid hc1; have HB1 := hid hb1; clear hb1 hc1)
    | ((with_reducible refine wpList_load_at 24 _ rfl ?_ g1 0 ?_ (jC s (.slice po l.length c)) (.struct (Tryd.prog.fieldsOf 24)) ?_ underJrn rfl ?_ ?_); exact rfl; exact rfl; exact HC1.out.wholeJ; exact sizeJ)
    | (go_at_call 24; refine (HCK.out _ HB1.out).mono ?_; rintro e w3 ⟨rfl, hb3⟩; have HB3 := hid (below_on HB1.out hb3); clear hb3))
  go_ret2
  exact ⟨rfl, HB3.out⟩
theorem Buf.form3 {B : Nat} {w : World} {v : Value} {L : List Nat} (h : Buf B w v L) : ∃ po n cc, v = .slice po n cc := by obtain ⟨p, c, e⟩ := h.form; exact ⟨p, _, c, e⟩
/-- Behind what was made so far. -/
structure B2 (w : World) (g1 : Nat) (s : Int) (v : Value) (W : World) : Prop where
  below : Below w.heap.size w W
  cj : CAt W g1 (jC s v) 24
theorem B2.on {w W W' : World} {g1 : Nat} {s : Int} {v : Value} (h : B2 w g1 s v W) (hb : Below W.heap.size W W') : B2 w g1 s v W' := ⟨below_on h.below hb, h.cj.below hb⟩
/-- The loop: so many records have been written behind the head. -/
structure BI (w1 : World) (s : Int) (n : Nat) (rs : List Rc) (k : Nat) (v : Value) (W : World) : Prop where
  below : Below w1.heap.size w1 W
  buf : Buf w1.heap.size W v (hdJ s n ++ rsB (rs.take k))
def BytE (w : World) (L : List Nat) (e : Ending) (w' : World) : Prop := ∃ v, e = .returned (.tuple #[v, i64 0]) ∧ Buf w.heap.size w' v L ∧ Below w.heap.size w w'
theorem BI.app {w1 W W1 : World} {s : Int} {n : Nat} {rs : List Rc} {k : Nat} {v : Value} (h : BI w1 s n rs k v W) (hb : Below W.heap.size W W1) {x : Rc} (hx : rs[k]? = some x) {po : Option Addr} (hbl : BL W1 po (rcB x)) (hz : po = none → (rcB x).length = 0) (hn : (hdJ s n ++ rsB (rs.take k)).length + (rcB x).length ≤ 2000000) :
    ∃ v' W2, (Builtin.append_ #[27, 27] 27 #[v, .slice po (rcB x).length (rcB x).length]).run Tryd.prog W1 = .ok v' W2 ∧ BI w1 s n rs (k + 1) v' W2 := by
  obtain ⟨v', W2, hr, hb2, hg⟩ := (h.buf.below hb).app po (rcB x).length (rcB x) hbl hz hn (Nat.le_trans h.below.size hb.size)
  refine ⟨v', W2, hr, below_grown (below_on h.below hb) hg (Nat.le_refl _) (fun b e => (own_ge h.buf b e).1), ?_⟩
  rw [rsB_take hx, ← List.append_assoc]; exact hb2
set_option maxRecDepth 100000 in
set_option maxHeartbeats 2000000 in
theorem jbytes_ok (s : Int) (v : Value) (l : List Rp) (w : World) (hl : RL w v l) (h : okJ ⟨s, rcs l⟩ = true) : Calls Tryd.prog 8 #[.agg (jC s v)] w (BytE w (jB dig ⟨s, rcs l⟩)) := by
  have HL := hid hl
  obtain ⟨k1, k2, k3, k4, _⟩ := okJ_parts h
  simp only [rcs_len] at k1 k2 k3 k4
  have hlok := hl.ok
  have HOK := hid hlok
  have HRL := hid (rsB_len hlok k4)
  have HALL := hid k4
  obtain ⟨po, c, rfl, _⟩ := hl
  have HCK : Hid (∀ W, Below w.heap.size w W → Calls Tryd.prog 24 #[.agg (jC s (.slice po l.length c))] W fun e w' => e = .returned (i64 0) ∧ Below W.heap.size W w') := hid fun W hW => by have h9 := jcheck_any s _ l W (HL.out.below hW); rw [h] at h9; exact h9
  have hcv := fun (w : World) (C : Array Value) (n c : Nat) => Go.Lib.run_convert_bytes_const (P := Tryd.prog) w 27 5 C n c Tryd.underlying27 under5'
  have hsn : s = ((s.toNat : Nat) : Int) := (ib_toNat (by omega)).symm
  have HU1 : Hid (∀ W, Calls Tryd.prog 25 #[i64 s] W (OutE W (ib s) 0)) := hid fun W => by rw [hsn]; exact uint_ok s.toNat W (by omega)
  have HU2 : Hid (∀ W, Calls Tryd.prog 25 #[i64 (l.length : Int)] W (OutE W (nb l.length) 0)) := hid fun W => uint_ok l.length W (by omega)
  have HH := hid (hdJ_len (s := s) (n := l.length) (by omega) k3)
  have HI6 := hid (ib_le (n := s) k2)
  have HN6 := hid (nb_le (n := l.length) (by omega))
  clear h k4 hsn hlok
  have T1 : Hid True := hid trivial
  have T2 : Hid True := hid trivial
  have T3 : Hid True := hid trivial
  go_enter Tryd.func8, Tryd.ntmps8
  go_wp2_with (first
    | ((with_reducible refine wpList_boxT 24 rfl _ rfl (jC s (.slice po l.length c)) ?_ ?_); exact rfl; intro w1 g1 hc1 hb1 hg1; have HF : Hid (B2 w g1 s (.slice po l.length c) w1) := hid ⟨hb1, hc1⟩; clear hb1 hc1)
    | ((with_reducible refine wpList_load_at 24 _ rfl ?_ g1 0 ?_ (jC s (.slice po l.length c)) (.struct (Tryd.prog.fieldsOf 24)) ?_ underJrn rfl ?_ ?_); exact rfl; exact rfl; exact HF.out.cj.wholeJ; exact sizeJ)
    | (go_at_call 24; refine (HCK.out _ HF.out.below).mono ?_; rintro e w3 ⟨rfl, hb3⟩; replace HF := hid (HF.out.on hb3); have c0 := HF.out.cj.j0; have c1 := HF.out.cj.j1; clear hb3)
    | (clear T1; go_at_call 25; refine (HU1.out _).mono ?_; rintro e w4 ⟨v4, rfl, ho4, hb4⟩; replace HF := hid (HF.out.on hb4); clear c0 c1; have c1 := HF.out.cj.j1; have HO4 := hid ho4; clear ho4 hb4)
    | (clear T2; go_at_call 25; refine (HU2.out _).mono ?_; rintro e w5 ⟨v5, rfl, ho5, hb5⟩; replace HF := hid (HF.out.on hb5); clear c1; replace HO4 := hid (HO4.out.below hb5); obtain ⟨p4, hp4, hbl4, hz4⟩ := HO4.out.form; subst hp4; obtain ⟨p5, hp5, hbl5, hz5⟩ := ho5.form; subst hp5; obtain ⟨v6, w6, hr6, hbf6, hb6⟩ := grow_buf (w5.alloc (.cells c3 5 (3, 4))) w5.heap.size [83, 74, 49] (c3_cells w5 (3, 4)) p4 (ib s).length (ib s) (hbl4.below (below_al _ _)) (nb_ne _) (by have := HI6.out; simp only [List.length_cons, List.length_nil]; omega); have hb56 := below_on (below_al w5 (.cells c3 5 (3, 4))) hb6; obtain ⟨v7, w7, hr7, hbf7, hg7⟩ := hbf6.app p5 (nb l.length).length (nb l.length) (hbl5.below hb56) hz5 (by have := HI6.out; have := HN6.out; simp only [List.length_append, List.length_cons, List.length_nil]; omega) hb6.size; have HRUN6 := hid hr6; have HRUN7 := hid hr7; have HI : Hid (BI w5 s l.length (rcs l) 0 v7 w7) := hid ⟨below_grown hb56 hg7 (Nat.le_refl _) (fun b e => by have := (own_ge hbf6 b e).1; rw [size_al] at this; omega), (by have e9 : hdJ s l.length ++ rsB ((rcs l).take 0) = [83, 74, 49] ++ ib s ++ nb l.length := (by simp [hdJ, rsB]); rw [e9]; exact own_base hbf7 (by rw [size_al]; omega))⟩; have c1 := (HF.out.on HI.out.below).cj.j1; obtain ⟨q7, n7, cc7, hv7⟩ := hbf7.form3; subst hv7; clear hr6 hr7 hbf6 hbf7 hg7 hb6 hb56 ho5 hb5)
    | (clear T3; at_builtin; refine wpList_append_run _ _ 27 27 rfl rfl _ _ _ rfl rfl HRUN6.out ?_)
    | (at_builtin; refine wpList_append_run _ _ 27 27 rfl rfl _ _ _ rfl rfl HRUN7.out ?_))
  go_loopg [9, 11, 12, 13, 42] l.length (fun gg s9 _ _ _ s42 wr => ∃ (kk : Nat) (p9 : Option Addr) (n9 c9 : Nat), kk ≤ l.length ∧ l.length - kk ≤ gg ∧ s42 = i64 kk ∧ s9 = .slice p9 n9 c9 ∧ Hid (BI w5 s l.length (rcs l) kk (.slice p9 n9 c9) wr))
  case atStart => exact ⟨0, _, _, _, Nat.zero_le _, by omega, rfl, rfl, HI.out⟩
  case round =>
    obtain ⟨kk, p9, n9, c9, hkk, hg, rfl, rfl, I⟩ := hrel
    clear HI c1 HRUN6 HRUN7
    by_cases hlt : kk < l.length
    · have hltz : (kk : Int) < (l.length : Int) := by omega
      have HBW := hid (below_on HF.out.below I.out.below)
      obtain ⟨b, o, x, e1, hx, hrx, hkx, hox⟩ := HL.out.at HBW.out hlt
      subst e1
      have hok := hkx.ok
      have HR := hid hrx
      have HKX := hid hkx
      have hxr : (rcs l)[kk]? = some x.rc := by rw [rcs_get, hx]; rfl
      have HXR := hid hxr
      have HX1 := hid (show (rcB x.rc).length ≤ 1000 from rcB_len x.r hok x.ps (List.all_eq_true.1 HALL.out x.rc (List.mem_of_getElem? hxr)))
      have HBY : Hid (∀ W, Below wr.heap.size wr W → Calls Tryd.prog 26 #[.agg x.r.cs] W (OutE W (rcB x.rc) 0)) := hid fun W hW => bytes_ok x.r hok x.ps W (HKX.out.pl.below hW) (List.all_eq_true.1 HALL.out x.rc (List.mem_of_getElem? HXR.out))
      clear hrx hkx hx hxr
      have T4 : Hid True := hid trivial
      go_wp2_with (first
        | (clear T4; (with_reducible refine wpList_loadM rfl _ rfl b (o + kk * 42) ?_ x.r hok HR.out ?_); exact rfl)
        | ((with_reducible refine wpList_allocR rfl rfl ?_); intro wa ga hza hba hga; have HZA := hid hza; have HBA := hid hba; have HGA := hid hga; clear hza hba hga)
        | ((with_reducible refine wpList_storeR rfl rfl _ _ rfl ga ?_ (r := x.r) ?_ zR_ok hok hox HZA.out ?_); exact rfl; exact rfl; intro wb hb9 ob9; have HOB := hid (Own1.mk1 HBA.out HGA.out hb9 ob9); clear hb9 ob9 HZA)
        | ((with_reducible refine wpList_load_at 44 _ rfl ?_ ga 0 ?_ x.r.cs (.struct (Tryd.prog.fieldsOf 44)) ?_ underRec rfl ?_ ?_); exact rfl; exact rfl; exact HOB.out.box.whole; (rw [hok.size]; exact sizeR))
        | (go_at_call 26; refine (HBY.out _ HOB.out.below).mono ?_; rintro e wc ⟨vc, rfl, hoc, hbc⟩; obtain ⟨pc, hpc, hblc, hzc⟩ := hoc.form; subst hpc; obtain ⟨vd, wd, hrd, hId⟩ := I.out.app (below_on HOB.out.below hbc) HXR.out hblc hzc (by have h1 := HRL.out kk (by omega); have h2 := HH.out; have h3 := HX1.out; simp only [List.length_append]; omega); have HRUN := hid hrd; have HID := hid hId; obtain ⟨pd, nd, cd, hvd⟩ := hId.buf.form3; subst hvd; clear hoc hbc hblc hzc hrd hId)
        | (at_builtin; refine wpList_append_run _ _ 27 27 rfl rfl _ _ _ rfl rfl HRUN.out ?_))
      go_roundg (l.length - (kk + 1))
      case measure => omega
      case rel => exact ⟨kk + 1, _, _, _, by omega, by omega, by go_num, rfl, HID.out⟩
    · have hltz : ¬ (kk : Int) < (l.length : Int) := by omega
      have hke : kk = l.length := by omega
      obtain ⟨X, hX⟩ : ∃ X, jBody ⟨s, rcs l⟩ = X := ⟨_, rfl⟩
      have hbuf : Buf w5.heap.size wr (.slice p9 n9 c9) X := by
        have := I.out.buf
        rw [List.take_of_length_le (by rw [rcs_len]; omega), ← jBody_hd, hX] at this
        exact this
      have hXl : X.length ≤ 100000 := by
        have h1 := HRL.out l.length (Nat.le_refl _)
        have h2 := HH.out
        rw [List.take_of_length_le (by rw [rcs_len]; omega)] at h1
        rw [← hX, jBody_hd, List.length_append]; omega
      have hX8 : ∀ z ∈ X, z < 256 := fun z hz => by
        rw [← hX, jBody_hd] at hz
        rcases List.mem_append.1 hz with hz | hz
        · exact hdJ_byte _ _ z hz
        · exact rsB_byte HOK.out z hz
      obtain ⟨hn9, hc9⟩ := hbuf.cap
      have HSUM : Hid (∀ W, Below wr.heap.size wr W → Calls Tryd.prog 27 #[.slice p9 n9 c9] W fun e w' => e = .returned (.agg (sumC (dig X))) ∧ Below W.heap.size W w') := hid fun W hW => by rw [hn9]; exact dsum_any p9 c9 X W (by omega) (by omega) (hbuf.bl.below hW) hX8
      have HBF := hid hbuf
      have HXL := hid hXl
      have hdl := dig_len X
      generalize hD : dig X = D at HSUM hdl
      have HD := hid hD
      have HX := hid hX
      clear hbuf hXl hX8 hn9 hc9 hD hX hke
      have hsl := run_dig
      go_wp2_with (first
        | (go_at_call 27; refine (HSUM.out _ (Below.refl _ _)).mono ?_; rintro e wd ⟨rfl, hbd⟩; have HBD := hid hbd; clear hbd)
        | ((with_reducible refine wpList_allocD rfl rfl ?_); intro wa ga hza hba hga; have HZA := hid hza; have HBA := hid (below_on HBD.out hba); have HGA := hid (show wr.heap.size ≤ ga by have := HBD.out.size; omega); clear hza hba hga)
        | ((with_reducible refine wpList_storeD rfl rfl _ _ rfl ga ?_ (m := zeroD) (n := D) ?_ ?_ hdl HZA.out ?_); exact rfl; exact rfl; exact rfl; intro wb hb9 ob9; have HBB := hid (below_tr HBA.out (ob9.below HBA.out.size (fun i e => by have := HGA.out; omega))); have hblD := hb9.bl; obtain ⟨ve, we, hre, hbe, hge⟩ := (HBF.out.below HBB.out).app (some ⟨ga, 0, none⟩) 32 D hblD (fun e => by cases e) (by have := HXL.out; omega) (by have := I.out.below.size; have := HBB.out.size; omega); rw [hdl] at hre; have HRUN := hid hre; have HBE := hid hbe; have HGE := hid hge; clear hb9 ob9 HZA hblD hre hbe hge)
        | (at_builtin; refine wpList_append_run _ _ 27 27 rfl rfl _ _ _ rfl rfl HRUN.out ?_))
      go_ret2
      have hjb : jB dig ⟨s, rcs l⟩ = X ++ D := by unfold jB; rw [HX.out, HD.out]
      have hbw : Below w5.heap.size wr we := below_grown (below_less HBB.out (by have := I.out.below.size; omega)) HGE.out (by have := I.out.below.size; omega) (fun b e => (own_ge HBF.out b e).1)
      refine ⟨_, rfl, ?_, below_tr (below_on HF.out.below I.out.below) (below_less hbw (by have := HF.out.below.size; omega))⟩
      rw [hjb]
      exact own_base HBE.out (by have := HF.out.below.size; omega)
#print axioms jbytes_ok
end Go.Proofs.YtcbmimjjpkkoeaaDoor
