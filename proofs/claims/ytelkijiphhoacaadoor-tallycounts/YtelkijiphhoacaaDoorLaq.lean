/- Texts laid into one, cut to what is needed: the remark ahead of each part says what is proved there. -/
import Derived.Test.YtelkijiphhoacaaDoorLap
import Derived.Test.YtelkijiphhoacaaDoorLai
import Derived.BigQuiet
import Derived.Great.BuildSlice
/- tally: which drives answer, and how many; SameBools. -/
namespace Go.Proofs.YtelkijiphhoacaaDoor
open Go Go.RowKit

/-- A copy's cells. -/
def cC (e : Int) (v : Value) : Array Value := #[i64 e, v]
theorem zeroCp : (Tryd.prog.info? 36).map (·.zero) = some (some (.agg (cC 0 (.slice none 0 0)))) := by kernel_rfl
theorem sizeCp : (Tryd.prog.info? 36).map (·.size) = some 2 := by kernel_rfl
theorem underCp : Tryd.prog.underlying 36 = some (.struct (Tryd.prog.fieldsOf 36)) := by kernel_rfl
theorem CAt.c0 {w : World} {g : Nat} {e : Int} {v : Value} (h : CAt w g (cC e v) 36) : w.cell? ⟨g, 0, none⟩ = some (i64 e) := h.cell 0
theorem CAt.c1 {w : World} {g : Nat} {e : Int} {v : Value} (h : CAt w g (cC e v) 36) : w.cell? ⟨g, 1, none⟩ = some v := h.cell 1
theorem cC_one (e : Int) (po : Option Addr) (n c : Nat) : (cC e (.slice po n c)).all (·.oneCell') = true := by simp [cC, show ∀ q : Int, (i64 q).oneCell' = true from fun _ => rfl, show ∀ (a : Option Addr) (n c : Nat), (Value.slice a n c).oneCell' = true from fun _ _ _ => rfl]
theorem CL.load {w w' : World} {b o n c : Nat} {l : List Cv} (h : CL w (.slice (some ⟨b, o, none⟩) n c) l) (hb : Below w.heap.size w w') {i : Nat} {x : Cv} (hx : l[i]? = some x) :
    ∃ po m cc, x.v = .slice po m cc ∧ m = x.bs.length ∧ (∀ j v, (cC x.err (.slice po m cc))[j]? = some v → w'.cell? ⟨b, o + i * 2 + j, none⟩ = some v) ∧ BL w' po x.bs ∧ m ≤ cc ∧ (po = none → cc = 0) ∧ m ≤ 100000 ∧ ∀ z ∈ x.bs, z < 256 := by
  obtain ⟨h1, h2, ⟨⟨po, cc, hv, hbl, hle, hn⟩, h4, h5⟩⟩ := h.at hb hx
  rw [hv] at h2
  refine ⟨po, _, cc, hv, rfl, fun j v hj => ?_, hbl, hle, hn, h4, h5⟩
  match j, hj with
  | 0, hj => cases hj; exact h1
  | 1, hj => cases hj; exact h2
  | j + 2, hj => simp [cC] at hj
/-- A box of its own is written. -/
theorem ownX {w w1 w2 : World} {g : Nat} (hb : Below w.heap.size w w1) (hg : w.heap.size = g) (ho : Only (fun b => b = g) w1 w2) : Below w.heap.size w w2 := below_tr hb (ho.below hb.size (fun i e => by omega))
set_option maxRecDepth 100000 in
set_option maxHeartbeats 1000000 in
theorem answers_any (e : Int) (v : Value) (w : World) : Calls Tryd.prog 31 #[.agg (cC e v)] w fun r w' => r = .returned (.bool (decide (e = 0) || decide (e = 6))) ∧ Below w.heap.size w w' := by
  by_cases h0 : e = 0
  · subst h0
    go_enter Tryd.func31, Tryd.ntmps31
    go_wp2_with ((with_reducible refine wpList_boxT 36 rfl _ rfl (cC 0 v) ?_ ?_); exact rfl; intro w1 g1 hc1 hb1 hg1; have HB := hid hb1; have c0 := hc1.c0; clear hb1 hc1)
    go_ret
    exact ⟨rfl, HB.out⟩
  · have hq : (e == 0) = false := by simpa using h0
    by_cases h6 : e = 6
    · subst h6
      go_enter Tryd.func31, Tryd.ntmps31
      go_wp2_with ((with_reducible refine wpList_boxT 36 rfl _ rfl (cC 6 v) ?_ ?_); exact rfl; intro w1 g1 hc1 hb1 hg1; have HB := hid hb1; have c0 := hc1.c0; clear hb1 hc1)
      go_ret
      exact ⟨rfl, HB.out⟩
    · have hq6 : (e == 6) = false := by simpa using h6
      go_enter Tryd.func31, Tryd.ntmps31
      go_wp2_with ((with_reducible refine wpList_boxT 36 rfl _ rfl (cC e v) ?_ ?_); exact rfl; intro w1 g1 hc1 hb1 hg1; have HB := hid hb1; have c0 := hc1.c0; clear hb1 hc1)
      go_ret
      refine ⟨?_, HB.out⟩
      rw [decide_eq_false h0, decide_eq_false h6]; rfl
theorem ansC_eq (x : Cv) : ansC x.cp = (decide (x.err = 0) || decide (x.err = 6)) := rfl
set_option maxRecDepth 100000 in
set_option maxHeartbeats 2000000 in
theorem answering_any (v : Value) (l : List Cv) (w : World) (hl : CL w v l) : Calls Tryd.prog 25 #[v] w fun e w' => e = .returned (i64 (ansN (cps l))) ∧ Below w.heap.size w w' := by
  have HL := hid hl
  obtain ⟨po, c, rfl, hc1, hn, -⟩ := hl
  obtain ⟨n, hN⟩ : ∃ n, l.length = n := ⟨_, rfl⟩
  have HN := hid hN
  rw [hN] at hn ⊢
  clear hN hc1
  go_enter Tryd.func25, Tryd.ntmps25
  go_wp2
  go_loopg [3, 8] n (fun gg s3 s8 wr => ∃ kk q : Nat, kk ≤ n ∧ n - kk ≤ gg ∧ q ≤ kk ∧ s3 = i64 q ∧ s8 = i64 kk ∧ Hid (ansN (cps (l.take kk)) = q) ∧ Hid (Below w.heap.size w wr))
  case atStart => exact ⟨0, 0, Nat.zero_le _, by omega, Nat.zero_le _, rfl, rfl, rfl, Below.refl _ _⟩
  case round =>
    obtain ⟨kk, q, hkk, hg, hqk, rfl, rfl, HQ, BW⟩ := hrel
    by_cases hlt : kk < n
    · have hltz : (kk : Int) < (n : Int) := by omega
      obtain ⟨x, hx⟩ : ∃ x, l[kk]? = some x := ⟨_, List.getElem?_eq_getElem (by have := HN.out; omega)⟩
      obtain ⟨b, o, c', e, -⟩ := HL.out.where hx
      rw [HN.out] at e
      cases e
      have hld := HL.out
      rw [HN.out] at hld
      obtain ⟨p1, m1, c1, -, -, hcl, -⟩ := hld.load BW.out hx
      have HCL := hid hcl
      have HXN : Hid (ansN (cps (l.take (kk + 1))) = q + if ansC x.cp then 1 else 0) := hid (by rw [cps_next hx, ans_snoc, HQ.out])
      have HAN := hid (answers_any x.err (.slice p1 m1 c1))
      rw [← ansC_eq] at HAN
      clear hcl hx hld
      generalize x.err = E at HCL HAN
      cases ha : ansC x.cp with
      | true =>
        rw [ha] at HAN HXN
        have T1 : Hid True := hid trivial
        go_wp2_with (first
          | (clear T1; (with_reducible refine wpList_load_at 36 _ rfl ?_ b (o + kk * 2) ?_ (cC E (.slice p1 m1 c1)) _ ?_ underCp rfl ?_ ?_); exact rfl; exact rfl; exact HCL.out; exact sizeCp)
          | ((with_reducible refine wpList_allocX 36 _ zeroCp rfl rfl ?_); intro w2 g2 hz2 hb2 hg2; have HZ2 := hid hz2; have HB2 := hid hb2; have HG2 := hid hg2; clear hz2 hb2 hg2)
          | ((with_reducible refine wpList_storeX 36 2 sizeCp rfl rfl _ _ rfl g2 ?_ (D := cC E (.slice p1 m1 c1)) ?_ ?_ ?_ ?_ HZ2.out ?_); exact rfl; exact rfl; exact rfl; exact rfl; exact cC_one _ _ _ _; intro w3 h3 o3; have HC3 := hid h3; have HB3 := hid (below_on BW.out (ownX HB2.out HG2.out o3)); clear h3 o3 HZ2 HB2 HG2)
          | ((with_reducible refine wpList_load_at 36 _ rfl ?_ g2 0 ?_ (cC E (.slice p1 m1 c1)) _ ?_ underCp rfl ?_ ?_); exact rfl; exact rfl; exact HC3.out.whole; exact sizeCp)
          | (go_at_call 31; refine (HAN.out _).mono ?_; rintro e w4 ⟨rfl, hb4⟩; have HB4 := hid (below_on HB3.out hb4); clear hb4))
        go_roundg (n - (kk + 1))
        case measure => omega
        case rel => exact ⟨kk + 1, q + 1, by omega, by omega, by omega, by go_num, by go_num, HXN.out, HB4.out⟩
      | false =>
        rw [ha] at HAN HXN
        have T1 : Hid True := hid trivial
        go_wp2_with (first
          | (clear T1; (with_reducible refine wpList_load_at 36 _ rfl ?_ b (o + kk * 2) ?_ (cC E (.slice p1 m1 c1)) _ ?_ underCp rfl ?_ ?_); exact rfl; exact rfl; exact HCL.out; exact sizeCp)
          | ((with_reducible refine wpList_allocX 36 _ zeroCp rfl rfl ?_); intro w2 g2 hz2 hb2 hg2; have HZ2 := hid hz2; have HB2 := hid hb2; have HG2 := hid hg2; clear hz2 hb2 hg2)
          | ((with_reducible refine wpList_storeX 36 2 sizeCp rfl rfl _ _ rfl g2 ?_ (D := cC E (.slice p1 m1 c1)) ?_ ?_ ?_ ?_ HZ2.out ?_); exact rfl; exact rfl; exact rfl; exact rfl; exact cC_one _ _ _ _; intro w3 h3 o3; have HC3 := hid h3; have HB3 := hid (below_on BW.out (ownX HB2.out HG2.out o3)); clear h3 o3 HZ2 HB2 HG2)
          | ((with_reducible refine wpList_load_at 36 _ rfl ?_ g2 0 ?_ (cC E (.slice p1 m1 c1)) _ ?_ underCp rfl ?_ ?_); exact rfl; exact rfl; exact HC3.out.whole; exact sizeCp)
          | (go_at_call 31; refine (HAN.out _).mono ?_; rintro e w4 ⟨rfl, hb4⟩; have HB4 := hid (below_on HB3.out hb4); clear hb4))
        go_roundg (n - (kk + 1))
        case measure => omega
        case rel => exact ⟨kk + 1, q, by omega, by omega, by omega, rfl, by go_num, HXN.out, HB4.out⟩
    · have hltz : ¬ (kk : Int) < (n : Int) := by omega
      go_wp2
      go_ret
      refine ⟨?_, BW.out⟩
      rw [← HQ.out, List.take_of_length_le (by have := HN.out; omega)]
      rfl
set_option maxRecDepth 100000 in
set_option maxHeartbeats 2000000 in
theorem sameT_any (u v : Value) (x y : List Bool) (w : World) (hn : x.length ≤ 2000) (hu : BoL w u x) (hv : BoL w v y) : Calls Tryd.prog 19 #[u, v] w fun e w' => e = .returned (.bool (decide (x = y))) ∧ Below w.heap.size w w' := by
  have HU := hid hu
  have HV := hid hv
  obtain ⟨po, c, rfl, -, -⟩ := hu
  obtain ⟨qo, d, rfl, -, -⟩ := hv
  by_cases hne : x.length = y.length
  · have HE := hid hne
    obtain ⟨n, hN⟩ : ∃ n, x.length = n := ⟨_, rfl⟩
    have HN := hid hN
    rw [← hne, hN]
    rw [hN] at hn
    have hnn : ((n : Int) != (n : Int)) = false := by simp
    clear hN hne
    go_enter Tryd.func19, Tryd.ntmps19
    go_wp2
    go_loopg [5] n (fun gg s5 wr => ∃ kk : Nat, kk ≤ n ∧ n - kk ≤ gg ∧ s5 = i64 kk ∧ Hid (x.take kk = y.take kk) ∧ Hid (Below w.heap.size w wr))
    case atStart => exact ⟨0, Nat.zero_le _, by omega, rfl, (show Hid _ from by simp [Hid]), Below.refl _ _⟩
    case round =>
      obtain ⟨kk, hkk, hg, rfl, HQ, BW⟩ := hrel
      by_cases hlt : kk < n
      · have hltz : (kk : Int) < (n : Int) := by omega
        obtain ⟨p, hp⟩ : ∃ p, x[kk]? = some p := ⟨_, List.getElem?_eq_getElem (by have := HN.out; omega)⟩
        obtain ⟨q, hq⟩ : ∃ q, y[kk]? = some q := ⟨_, List.getElem?_eq_getElem (by have := HN.out; have := HE.out; omega)⟩
        obtain ⟨b1, o1, cz1, e1⟩ := HU.out.some (by have := HN.out; omega)
        obtain ⟨b2, o2, cz2, e2⟩ := HV.out.some (by have := HN.out; have := HE.out; omega)
        cases e1
        cases e2
        have i1 := HU.out.at BW.out hp
        have i2 := HV.out.at BW.out hq
        have HP := hid hp
        have HQQ := hid hq
        clear hp hq
        cases p <;> cases q
        · go_wp2_with fail
          go_quiet (fail)
          go_wp2
          go_roundg (n - (kk + 1))
          case measure => omega
          case rel => exact ⟨kk + 1, by omega, by omega, by go_num, (show Hid _ from by show _ = _; rw [take_next HP.out, take_next HQQ.out, HQ.out]), below_on BW.out (below_drewN _ _)⟩
        · go_wp2_with fail
          go_quiet (fail)
          go_wp2
          go_ret
          refine ⟨?_, below_on BW.out (below_drewN _ _)⟩
          rw [decide_eq_false (fun e => by have h1 := HP.out; rw [e, HQQ.out] at h1; cases h1)]
          rfl
        · go_wp2_with fail
          go_quiet (fail)
          go_wp2
          go_ret
          refine ⟨?_, below_on BW.out (below_drewN _ _)⟩
          rw [decide_eq_false (fun e => by have h1 := HP.out; rw [e, HQQ.out] at h1; cases h1)]
          rfl
        · go_wp2_with fail
          go_quiet (fail)
          go_wp2
          go_roundg (n - (kk + 1))
          case measure => omega
          case rel => exact ⟨kk + 1, by omega, by omega, by go_num, (show Hid _ from by show _ = _; rw [take_next HP.out, take_next HQQ.out, HQ.out]), below_on BW.out (below_drewN _ _)⟩
      · have hltz : ¬ (kk : Int) < (n : Int) := by omega
        go_wp2
        go_ret
        refine ⟨?_, BW.out⟩
        have h := HQ.out
        rw [List.take_of_length_le (by have := HN.out; omega), List.take_of_length_le (by have := HN.out; have := HE.out; omega)] at h
        rw [h, decide_eq_true rfl]
        rfl
  · have hnn : ((x.length : Int) != (y.length : Int)) = true := by simp; omega
    have HB : Hid (decide (x = y) = false) := hid (decide_eq_false (fun e => hne (by rw [e])))
    generalize x.length = n at *
    generalize y.length = m at *
    go_enter Tryd.func19, Tryd.ntmps19
    go_wp2
    go_ret
    refine ⟨?_, Below.refl _ _⟩
    rw [HB.out]
    rfl
end Go.Proofs.YtelkijiphhoacaaDoor

/- Rows of small structs in memory of one's own: what is appended to them; literals of one struct. -/
namespace Go.Proofs.YtelkijiphhoacaaDoor
open Go Go.RowKit

/-- Rows of k cells each, in a row of one's own. -/
def XB (t : TypeId) (k B : Nat) (w : World) (v : Value) (R : List (List Value)) : Prop := w.ownsRow B t k v R.length R.flatten
theorem XB.nil (t : TypeId) (k B : Nat) (w : World) : XB t k B w (.slice none 0 0) [] := World.ownsRow_nil w B t k
theorem XB.form {t : TypeId} {k B : Nat} {w : World} {v : Value} {R : List (List Value)} (h : XB t k B w v R) : ∃ po c, v = .slice po R.length c ∧ R.length ≤ c ∧ (po = none → c = 0) := by
  rcases h.2 with ⟨rfl, h0⟩ | ⟨g, cap, cur, rfl, _, _, h1, _⟩
  · exact ⟨none, 0, by rw [h0], by omega, fun _ => rfl⟩
  · exact ⟨_, cap, rfl, h1, fun e => by cases e⟩
theorem XB.keep {t : TypeId} {k B : Nat} {w w' : World} {v : Value} {R : List (List Value)} (h : XB t k B w v R) (hk : ∀ b, v.ownBlock = some b → w'.heap[b]? = w.heap[b]?) : XB t k B w' v R := ownsRow_keep h hk
theorem XB.below {t : TypeId} {k B : Nat} {w w' : World} {v : Value} {R : List (List Value)} (h : XB t k B w v R) (hb : Below w.heap.size w w') : XB t k B w' v R := h.keep fun b hv => hb.block b (own_ge h b hv).2
theorem flat_get {k : Nat} : ∀ {R : List (List Value)}, (∀ r ∈ R, r.length = k) → ∀ {i : Nat} {r : List Value}, R[i]? = some r → ∀ {j : Nat}, j < k → R.flatten[i * k + j]? = r[j]?
  | [], _, i, r, e, j, _ => by simp at e
  | y :: l, h, 0, r, e, j, hj => by
    simp at e
    subst e
    rw [List.flatten_cons, Nat.zero_mul, Nat.zero_add, List.getElem?_append_left (by rw [h y (by simp)]; exact hj)]
  | y :: l, h, i + 1, r, e, j, hj => by
    rw [List.flatten_cons, List.getElem?_append_right (by rw [h y (by simp), Nat.add_mul]; omega), h y (by simp), show (i + 1) * k + j - k = i * k + j by rw [Nat.add_mul]; omega]
    exact flat_get (R := l) (fun z hz => h z (by simp [hz])) (by simpa using e) hj
theorem flat_len {k : Nat} : ∀ {R : List (List Value)}, (∀ r ∈ R, r.length = k) → R.flatten.length = R.length * k
  | [], _ => by simp
  | y :: l, h => by
    rw [List.flatten_cons, List.length_append, h y (by simp), flat_len (R := l) (fun z hz => h z (by simp [hz])), List.length_cons, Nat.add_mul]; omega
theorem XB.cells {t : TypeId} {k B : Nat} {w : World} {v : Value} {R : List (List Value)} (h : XB t k B w v R) (hR : ∀ r ∈ R, r.length = k) (hne : 0 < R.length) :
    ∃ g c, v = .slice (some ⟨g, 0, none⟩) R.length c ∧ R.length ≤ c ∧ B ≤ g ∧ g < w.heap.size ∧ ∀ i r, R[i]? = some r → ∀ j u, r[j]? = some u → w.cell? ⟨g, 0 + i * k + j, none⟩ = some u := by
  rcases h.2 with ⟨rfl, h0⟩ | ⟨g, cap, cur, rfl, hB, hg, h1, _, h3, h4⟩
  · omega
  have hc : CAt w g cur t := hg
  refine ⟨g, cap, rfl, h1, hB, hc.lt, fun i r hr j u hu => ?_⟩
  have hj : j < k := by
    rcases Nat.lt_or_ge j k with q | q
    · exact q
    · rw [List.getElem?_eq_none (by rw [hR r (List.mem_of_getElem? hr)]; exact q)] at hu; cases hu
  have e := flat_get hR hr hj
  rw [← h4, hu] at e
  rw [Nat.zero_add, hc.cell]
  have hi : i * k + j < R.length * k := by
    have h5 : i < R.length := (List.getElem?_eq_some_iff.1 hr).1
    calc i * k + j < i * k + k := by omega
      _ = (i + 1) * k := by rw [Nat.add_mul]; omega
      _ ≤ R.length * k := Nat.mul_le_mul_right k h5
  rw [List.getElem?_take, if_pos hi] at e
  simpa using e
theorem flat_one {R : List (List Value)} (h : ∀ r ∈ R, ∀ u ∈ r, u.oneCell' = true) : ∀ u ∈ R.flatten, u.oneCell' = true := fun u hu => by
  obtain ⟨r, hr, hu⟩ := List.mem_flatten.1 hu
  exact h r hr u hu
/-- append(v, s...), the rows anywhere. -/
theorem XB.app {t T ty : TypeId} {k B bytes : Nat} {z : Value} {w : World} {v : Value} {R : List (List Value)} (hv : XB t k B w v R) (hT : Tryd.prog.underlying T = some (.slice t)) (hi : (Tryd.prog.info? t).map (fun i => (i.zero, i.size, i.bytes)) = some (some z, k, bytes)) (hz : z.cells.size = k) (hk : 0 < k)
    (b o c : Nat) (S : List (List Value)) (hS : ∀ r ∈ S, r.length = k) (h1 : ∀ r ∈ S, ∀ u ∈ r, u.oneCell' = true) (hc : ∀ i r, S[i]? = some r → ∀ j u, r[j]? = some u → w.cell? ⟨b, o + i * k + j, none⟩ = some u) (hn : R.length + S.length ≤ 100000) (hby : bytes ≤ 1000) (hB : B ≤ w.heap.size) :
    ∃ v' w', (Builtin.append_ #[T, T] ty #[v, .slice (some ⟨b, o, none⟩) S.length c]).run Tryd.prog w = .ok v' w' ∧ XB t k B w' v' (R ++ S) ∧ w.grownBy w' v.ownBlock ∧ (v'.ownBlock = v.ownBlock ∨ v'.ownBlock = some w.heap.size) := by
  obtain ⟨i0, hi0, hz0, hz1, hz2⟩ := info_parts hi
  obtain ⟨v', w', hr, h3, h4, _, h5⟩ := run_append_own_at (P := Tryd.prog) w B T ty t i0 z k bytes hT hi0 hz0 hz1 hz2 hz hk v R.length R.flatten hv ⟨b, o, none⟩ S.length c S.flatten (flat_len hS) (fun j u hj => by
      rw [add_none]
      have hlt : j < S.length * k := by
        rcases Nat.lt_or_ge j (S.length * k) with q | q
        · exact q
        · rw [List.getElem?_eq_none (by rw [flat_len hS]; exact q)] at hj; cases hj
      have hik : j / k < S.length := (Nat.div_lt_iff_lt_mul hk).2 hlt
      have hjk : j % k < k := Nat.mod_lt _ hk
      have e := flat_get hS (List.getElem?_eq_getElem hik) hjk
      rw [show j / k * k + j % k = j by rw [Nat.mul_comm]; exact Nat.div_add_mod j k] at e
      rw [hj] at e
      have := hc (j / k) S[j / k] (List.getElem?_eq_getElem hik) (j % k) u e.symm
      rwa [show o + j / k * k + j % k = o + j by rw [Nat.add_assoc, show j / k * k + j % k = j by rw [Nat.mul_comm]; exact Nat.div_add_mod j k]] at this) (flat_one h1) (by unfold maxLen; omega)
      (Nat.le_trans (Nat.mul_le_mul hn hby) (by decide)) hB
  refine ⟨v', w', hr, ?_, h4, h5⟩
  unfold XB
  rw [List.length_append, List.flatten_append]
  exact h3
/-- A slice literal of one struct. -/
theorem fill_oneX (k : Nat) (C V : Array Value) (hC : C.size = k) (hV : V.size = k) : Instr.fill (fun i => some (i * k, k)) C [(0, .agg V)] = some V := by
  have h2 : ¬ (0 * k + V.size > C.size) := by omega
  simp only [Instr.fill, Value.cells, hV, ne_eq, not_true_eq_false, decide_false, Bool.false_or, decide_eq_true_eq]
  rw [if_neg (by omega)]
  congr 1
  apply Array.toList_inj.1
  rw [← Array.foldl_toList, Array.toList_zipIdx]
  have e := fold_zip V.toList 0 C
  simp only [Nat.zero_mul, Nat.zero_add]
  refine Eq.trans ?_ (e.trans ?_)
  · rfl
  · rw [setAll_splice (by simp [hC, hV]), List.take_zero, List.nil_append, Nat.zero_add, List.drop_of_length_le (by simp [hC, hV]), List.append_nil]
theorem run_buildX {t T : TypeId} {k bytes : Nat} {z : Value} (hT : Tryd.prog.underlying T = some (.slice t)) (hi : (Tryd.prog.info? t).map (fun i => (i.zero, i.size, i.bytes)) = some (some z, k, bytes)) (hk : 0 < k) (hk2 : k ≤ 1000) (w : World) (cs : Array Value) (hs : cs.size = k) : (Instr.buildSlice T 1 #[(0, .agg cs)]).run Tryd.prog w = .ok (.slice (some ⟨w.heap.size, 0, none⟩) 1 1) (w.alloc (.cells cs t)) := by
  obtain ⟨i0, hi0, hz0, hz1, hz2⟩ := info_parts hi
  refine run_buildSlice w T t 1 _ cs i0 z hT hi0 hz0 (by rw [hz1]; omega) (by rw [hz1]; omega) ?_
  rw [hz1]
  exact fill_oneX k _ _ (by simp) hs
theorem wpList_buildX {t T : TypeId} {k bytes : Nat} {z : Value} (hT : Tryd.prog.underlying T = some (.slice t)) (hi : (Tryd.prog.info? t).map (fun i => (i.zero, i.size, i.bytes)) = some (some z, k, bytes)) (hk : 0 < k) (hk2 : k ≤ 1000) {ops : Array Oper} {rest : List Oper} {o : Oper} {a : Act} {w : World} {Q : Exit → Act → World → Prop} (hg : o.guard = none) (x : Operand) (ho : o.op = .buildSlice T 1 #[(0, x)]) (cs : Array Value) (hs : cs.size = k) (hx : a.eval x = .agg cs)
    (h : ∀ w1 g, CAt w1 g cs t → Below w.heap.size w w1 → w.heap.size = g → wpList Tryd.prog ops Q rest (a.put o.dst (.slice (some ⟨g, 0, none⟩) 1 1)) w1) : wpList Tryd.prog ops Q (o :: rest) a w := by
  refine wpList_plain hg fun _ hK => ?_
  unfold Oper.wp execOp
  have := run_buildX hT hi hk hk2 w cs hs
  simp only [ho, List.map_toArray, List.map_cons, List.map_nil, hx, Sem.run_bind, this, Result.andThen_ok, Sem.run_pure]
  exact hK _ _ (h _ _ (CAt.made _ _ _) (below_al _ _) rfl)
theorem XB.mono {t : TypeId} {k B : Nat} {w w' : World} {v : Value} (hb : B ≤ w.heap.size) (hg : w.grownBy w' v.ownBlock) {R : List (List Value)} (h : XB t k B w v R) : Below B w w' := below_grown (Below.refl _ _) hg hb fun b hb => (own_ge h b hb).1
end Go.Proofs.YtelkijiphhoacaaDoor

/- tally: the journals that drives have. -/
namespace Go.Proofs.YtelkijiphhoacaaDoor
open Go Go.RowKit

theorem rdJ_err {D : List Nat → List Nat} {b : List Nat} (h : (rdJ D b).2 = none) : (rdJ D b).1 = 4 ∨ (rdJ D b).1 = 14 := by
  unfold rdJ at h ⊢
  split at h
  · exact Or.inl (by rw [if_pos ‹_›])
  · rw [if_neg ‹_›]
    split at h
    · exact Or.inr (by rw [if_pos ‹_›])
    · rw [if_neg ‹_›]
      split at h
      · split at h
        · cases h
        · rw [if_neg ‹_›]
          exact Or.inl rfl
      · exact Or.inl rfl
theorem rdJ_fst {D : List Nat → List Nat} {b : List Nat} {j : Jr} (h : (rdJ D b).2 = some j) : rdJ D b = (0, some j) := by
  unfold rdJ at h ⊢
  split at h
  · cases h
  · rw [if_neg ‹_›]
    split at h
    · cases h
    · rw [if_neg ‹_›]
      split at h
      · split at h
        · cases h
          rw [if_pos ‹_›]
        · cases h
      · cases h
/-- A journal that a drive has, as a value, and its text. -/
structure Hv where
  s : Int
  v : Value
  m : List Rp
  t : ByteArray
def hC (s : Int) (v : Value) (t : ByteArray) : Array Value := #[i64 s, v, .string t]
def Hv.row (x : Hv) : List Value := [i64 x.s, x.v, .string x.t]
def Hv.jb (x : Hv) : Jr × List Nat := (⟨x.s, rcs x.m⟩, lst x.t)
structure HvOk (B : Nat) (w : World) (x : Hv) : Prop where
  rs : Rs B w x.v x.m
  small : x.m.length ≤ 100000
  txt : x.t.size ≤ 100000
theorem HvOk.below {B : Nat} {w w' : World} {x : Hv} (h : HvOk B w x) (hb : Below w.heap.size w w') : HvOk B w' x := ⟨h.rs.below hb, h.small, h.txt⟩
theorem Rs.one {B : Nat} {w : World} {v : Value} {l : List Rp} (h : Rs B w v l) : v.oneCell' = true := by obtain ⟨a, c, e, _⟩ := h.buf.form; rw [e]; rfl
theorem HvOk.one {B : Nat} {w : World} {x : Hv} (h : HvOk B w x) : ∀ u ∈ x.row, u.oneCell' = true := by
  intro u hu
  simp only [Hv.row, List.mem_cons, List.not_mem_nil, or_false] at hu
  rcases hu with rfl | rfl | rfl
  · rfl
  · exact h.rs.one
  · rfl
/-- Journals that drives have, in memory of their own. -/
structure Hs (B : Nat) (w : World) (v : Value) (L : List Hv) : Prop where
  buf : XB 70 3 B w v (L.map Hv.row)
  each : ∀ x ∈ L, HvOk B w x
theorem Hs.nil (B : Nat) (w : World) : Hs B w (.slice none 0 0) [] := ⟨XB.nil _ _ B w, fun x hx => by cases hx⟩
theorem Hs.below {B : Nat} {w w' : World} {v : Value} {L : List Hv} (h : Hs B w v L) (hb : Below w.heap.size w w') : Hs B w' v L := ⟨h.buf.below hb, fun x hx => (h.each x hx).below hb⟩
theorem row_len (L : List Hv) : ∀ r ∈ L.map Hv.row, r.length = 3 := fun r hr => by obtain ⟨x, _, rfl⟩ := List.mem_map.1 hr; rfl
theorem Hs.form {B : Nat} {w : World} {v : Value} {L : List Hv} (h : Hs B w v L) : ∃ po c, v = .slice po L.length c ∧ L.length ≤ c := by
  obtain ⟨po, c, e, h1, _⟩ := h.buf.form
  rw [List.length_map] at e h1
  exact ⟨po, c, e, h1⟩
theorem Hs.load {B : Nat} {w : World} {v : Value} {L : List Hv} (h : Hs B w v L) {i : Nat} {x : Hv} (hx : L[i]? = some x) : ∃ g c, v = .slice (some ⟨g, 0, none⟩) L.length c ∧ L.length ≤ c ∧ ∀ j u, (hC x.s x.v x.t)[j]? = some u → w.cell? ⟨g, i * 3 + j, none⟩ = some u := by
  obtain ⟨g, c, e, h1, _, _, h2⟩ := h.buf.cells (row_len L) (by rw [List.length_map]; exact Nat.lt_of_le_of_lt (Nat.zero_le _) (List.getElem?_eq_some_iff.1 hx).1)
  rw [List.length_map] at e h1
  refine ⟨g, c, e, h1, fun j u hu => ?_⟩
  have := h2 i x.row (by rw [List.getElem?_map, hx]; rfl) j u (by simpa [hC, Hv.row] using hu)
  rwa [Nat.zero_add] at this
theorem Tryd.infoHeld : (Tryd.prog.info? 70).map (fun i => (i.zero, i.size, i.bytes)) = some (some (.agg (hC 0 (.slice none 0 0) ⟨#[]⟩)), 3, 48) := by kernel_rfl
theorem zeroHd : (Tryd.prog.info? 70).map (·.zero) = some (some (.agg (hC 0 (.slice none 0 0) ⟨#[]⟩))) := by kernel_rfl
theorem sizeHd : (Tryd.prog.info? 70).map (·.size) = some 3 := by kernel_rfl
theorem underHd : Tryd.prog.underlying 70 = some (.struct (Tryd.prog.fieldsOf 70)) := by kernel_rfl
theorem builtHd (s : Int) (po : Option Addr) (n c : Nat) (t : ByteArray) : Tryd.prog.built 70 [(0, .agg (jC s (.slice po n c))), (1, .string t)] = some (hC s (.slice po n c) t) := by kernel_rfl
theorem hC_one (s : Int) (v : Value) (t : ByteArray) (hv : v.oneCell' = true) : (hC s v t).all (·.oneCell') = true := by simp [hC, hv, show ∀ q : Int, (i64 q).oneCell' = true from fun _ => rfl, show ∀ q : ByteArray, (Value.string q).oneCell' = true from fun _ => rfl]
theorem Rs.otherT {B : Nat} {w w' : World} {v : Value} {l : List Rp} {g : Nat} {C : Array Value} {t : TypeId} (h1 : t ≠ 105) (h2 : t ≠ 60) (h : Rs B w v l) (hc : CAt w g C t) (ho : Only (fun b => b = g) w w') : Rs B w' v l := by
  refine ⟨h.buf.keep fun b hv => ?_, fun x hx => ⟨(h.each x hx).ok, (h.each x hx).pl.other h1 hc ho⟩⟩
  rcases h.buf.2 with ⟨e, _⟩ | ⟨g', cap, cur, e, _, hg', _⟩
  · rw [e] at hv; cases hv
  · rw [e] at hv
    cases hv
    have h3 : CAt w g' cur 60 := hg'
    exact ho.block g' h3.lt (fun k => hc.apart h3 h2 k.symm)
theorem Rs.otherH {B C k : Nat} {w w' : World} {v u : Value} {l : List Rp} {R : List (List Value)} {t : TypeId} (h1 : t ≠ 105) (h2 : t ≠ 60) (h : Rs B w v l) (hx : XB t k C w u R) (hO : Only (fun b => u.ownBlock = some b) w w') : Rs B w' v l := by
  rcases hx.2 with ⟨e, _⟩ | ⟨g, cap, cur, e, _, hg, _⟩
  · rw [e] at hO
    exact h.only hO (fun i k => by cases k)
  · rw [e] at hO
    exact h.otherT h1 h2 (show CAt w g cur t from hg) (hO.mono fun i e => by cases e; rfl)
/-- One more. -/
theorem Hs.push {B : Nat} {w w1 : World} {v : Value} {L : List Hv} (h : Hs B w1 v L) (hB : B ≤ w.heap.size) (hb : Below w.heap.size w w1) {x : Hv} (hx : HvOk B w1 x) {g : Nat} (hc : CAt w1 g (hC x.s x.v x.t) 70) (hn : L.length ≤ 1000) (ty : TypeId) :
    ∃ v' w', (Builtin.append_ #[65, 65] ty #[v, .slice (some ⟨g, 0, none⟩) 1 1]).run Tryd.prog w1 = .ok v' w' ∧ Hs B w' v' (L ++ [x]) ∧ Below B w w' := by
  have hB1 : B ≤ w1.heap.size := Nat.le_trans hB hb.size
  obtain ⟨v', w', hr, h1, h2, _⟩ := h.buf.app (ty := ty) (T := 65) Tryd.underlying65 Tryd.infoHeld rfl (by decide) g 0 1 [x.row] (fun r hr => by rcases List.mem_singleton.1 hr with rfl; rfl) (fun r hr => by rcases List.mem_singleton.1 hr with rfl; exact hx.one) (fun i r hr j u hu => by
    rcases i with _ | i
    · simp at hr
      subst hr
      rw [Nat.zero_mul, Nat.zero_add, hc.cell]
      simpa [hC, Hv.row] using hu
    · simp at hr) (by rw [List.length_map]; simp; omega) (by decide) hB1
  have hg := XB.mono hB1 h2 h.buf
  refine ⟨v', w', hr, ⟨by rw [List.map_append]; exact h1, fun y hy => ?_⟩, below_tr (below_less hb hB) hg⟩
  have hO : Only (fun b => v.ownBlock = some b) w1 w' := Only.of_grown h2 fun b e _ => e
  have hk : ∀ y : Hv, HvOk B w1 y → HvOk B w' y := fun y hy => by
    refine ⟨?_, hy.small, hy.txt⟩
    exact hy.rs.otherH (by decide) (by decide) h.buf hO
  rcases List.mem_append.1 hy with hy | hy
  · exact hk y (h.each y hy)
  · rcases List.mem_singleton.1 hy with rfl; exact hk _ hx
/-- What journals tells. -/
def JlS (w : World) (l : List Cp) (e : Ending) (w' : World) : Prop := ∃ v L, e = .returned v ∧ Hs w.heap.size w' v L ∧ L.map Hv.jb = allC dig l ∧ L.length ≤ l.length ∧ Below w.heap.size w w'
set_option maxRecDepth 100000 in
set_option maxHeartbeats 4000000 in
theorem journals_any (v : Value) (l : List Cv) (w : World) (a0 a1 : Addr) (hl : CL w v l) (he : Ers w a0 a1) : Calls Tryd.prog 26 #[v] w (JlS w (cps l)) := by
  have HL := hid hl
  have HER := hid (fun W (hW : Below w.heap.size w W) => he.below hW)
  obtain ⟨po, c, rfl, hc1, hn, -⟩ := hl
  obtain ⟨n, hN⟩ : ∃ n, l.length = n := ⟨_, rfl⟩
  have HN := hid hN
  rw [hN] at hn ⊢
  clear hN hc1 he
  go_enter Tryd.func26, Tryd.ntmps26
  go_wp2
  go_loopg [3, 10] n (fun gg s3 s10 wr => ∃ (kk : Nat) (L : List Hv), kk ≤ n ∧ n - kk ≤ gg ∧ s10 = i64 kk ∧ Hid (Hs w.heap.size wr s3 L) ∧ Hid (L.map Hv.jb = allC dig (cps (l.take kk))) ∧ Hid (L.length ≤ kk) ∧ Hid (Below w.heap.size w wr))
  case atStart => exact ⟨0, [], Nat.zero_le _, by omega, rfl, hid (Hs.nil _ _), hid rfl, hid (Nat.le_refl _), hid (Below.refl _ _)⟩
  case round =>
    obtain ⟨kk, L, hkk, hg, rfl, HH, HA, HK, BW⟩ := hrel
    by_cases hlt : kk < n
    · have hltz : (kk : Int) < (n : Int) := by omega
      obtain ⟨x, hx⟩ : ∃ x, l[kk]? = some x := ⟨_, List.getElem?_eq_getElem (by have := HN.out; omega)⟩
      obtain ⟨b, o, c', e, -⟩ := HL.out.where hx
      rw [HN.out] at e
      cases e
      have hld := HL.out
      rw [HN.out] at hld
      obtain ⟨p1, m1, c1, -, hm1, hcl, hbl, hmc, hnil, hm5, h8⟩ := hld.load BW.out hx
      have HCL := hid hcl
      have HXN : Hid (allC dig (cps (l.take (kk + 1))) = allC dig (cps (l.take kk)) ++ ((hasJ dig x.cp).map fun j => (j, x.bs)).toList) := hid (by rw [cps_next hx, all_snoc]; rfl)
      clear hcl hx hld
      by_cases hE : x.err = 0
      · rw [hE] at HCL
        have HHJ : Hid (hasJ dig x.cp = (rdJ dig x.bs).2) := hid (by unfold hasJ; rw [if_pos (show x.cp.err = 0 from hE)]; rfl)
        have HCV : Hid (∀ W, Below wr.heap.size wr W → (convert 29 9 (.slice p1 m1 c1)).run Tryd.prog W = .ok (.string (ba x.bs)) W) := hid (fun W hW => by have := (hbl.below hW).conv c1; rw [← hm1] at this; exact this)
        have HRD := hid (fun W (hW : Below wr.heap.size wr W) => jread_any p1 c1 x.bs W a0 a1 (hbl.below hW) (by omega) (by omega) h8 (HER.out _ (below_on BW.out hW)))
        rw [← hm1] at HRD
        have H8 : Hid ((∀ z ∈ x.bs, z < 256) ∧ x.bs.length ≤ 100000) := hid ⟨h8, by omega⟩
        clear hbl hnil h8 hE hm1
        cases hj : (rdJ dig x.bs).2 with
        | none =>
          obtain ⟨er, her⟩ : ∃ er, (rdJ dig x.bs).1 = er := ⟨_, rfl⟩
          have her2 := rdJ_err hj
          rw [her] at her2
          unfold AddS at HRD
          rw [hj, her] at HRD
          rw [HHJ.out, hj] at HXN
          have hz : ((er : Int) == 0) = false := by rcases her2 with rfl | rfl <;> rfl
          clear her her2 hj
          have T1 : Hid True := hid trivial
          go_wp2_with (first
            | (clear T1; (with_reducible refine wpList_load_at 36 _ rfl ?_ b (o + kk * 2) ?_ (cC 0 (.slice p1 m1 c1)) _ ?_ underCp rfl ?_ ?_); exact rfl; exact rfl; exact HCL.out; exact sizeCp)
            | ((with_reducible refine wpList_allocX 36 _ zeroCp rfl rfl ?_); intro w2 g2 hz2 hb2 hg2; have HZ2 := hid hz2; have HB2 := hid hb2; have HG2 := hid hg2; clear hz2 hb2 hg2)
            | ((with_reducible refine wpList_storeX 36 2 sizeCp rfl rfl _ _ rfl g2 ?_ (D := cC 0 (.slice p1 m1 c1)) ?_ ?_ ?_ ?_ HZ2.out ?_); exact rfl; exact rfl; exact rfl; exact rfl; exact cC_one _ _ _ _; intro w3 h3 o3; have k0 := h3.c0; have k1 := h3.c1; have HB3 := hid (ownX HB2.out HG2.out o3); clear h3 o3 HZ2 HB2 HG2)
            | (go_at_call 17; refine (HRD.out _ HB3.out).mono ?_; rintro e w4 ⟨rfl, hb4⟩; have HB4 := hid (below_on HB3.out hb4); clear hb4 k0 k1)
            | ((with_reducible refine wpList_allocJ rfl rfl ?_); intro w5 g5 hz5 hb5 hg5; have HZ5 := hid hz5; have HB5 := hid hb5; have HG5 := hid hg5; clear hz5 hb5 hg5)
            | ((with_reducible refine wpList_storeJ rfl rfl _ _ rfl g5 ?_ (s := 0) (v := .slice none 0 0) ?_ rfl HZ5.out ?_); exact rfl; exact rfl; intro w6 h6 o6; have HB6 := hid (below_on HB4.out (ownX HB5.out HG5.out o6)); clear h6 o6 HZ5 HB5 HG5))
          go_roundg (n - (kk + 1))
          case measure => omega
          case rel => exact ⟨kk + 1, L, by omega, by omega, by go_num, hid (HH.out.below HB6.out), hid (by rw [HXN.out, HA.out]; simp), hid (by have := HK.out; omega), hid (below_on BW.out HB6.out)⟩
        | some j =>
          unfold AddS at HRD
          rw [hj] at HRD
          rw [HHJ.out, hj] at HXN
          have HJS : Hid (j.recs.length ≤ 64) := hid (okJ_parts (rdJ_some H8.out.1 (rdJ_fst hj)).2.1).2.2.1
          clear hj
          have T1 : Hid True := hid trivial
          go_wp2_with (first
            | (clear T1; (with_reducible refine wpList_load_at 36 _ rfl ?_ b (o + kk * 2) ?_ (cC 0 (.slice p1 m1 c1)) _ ?_ underCp rfl ?_ ?_); exact rfl; exact rfl; exact HCL.out; exact sizeCp)
            | ((with_reducible refine wpList_allocX 36 _ zeroCp rfl rfl ?_); intro w2 g2 hz2 hb2 hg2; have HZ2 := hid hz2; have HB2 := hid hb2; have HG2 := hid hg2; clear hz2 hb2 hg2)
            | ((with_reducible refine wpList_storeX 36 2 sizeCp rfl rfl _ _ rfl g2 ?_ (D := cC 0 (.slice p1 m1 c1)) ?_ ?_ ?_ ?_ HZ2.out ?_); exact rfl; exact rfl; exact rfl; exact rfl; exact cC_one _ _ _ _; intro w3 h3 o3; have k0 := h3.c0; have k1 := h3.c1; have HC3 := hid h3; have HB3 := hid (ownX HB2.out HG2.out o3); clear h3 o3 HZ2 HB2 HG2)
            | (go_at_call 17; refine (HRD.out _ HB3.out).mono ?_; rintro e w4 ⟨v4, m4, rfl, hr4, he4, hb4⟩; have HSZ3 := hid HB3.out.size; have HB4 := hid (below_on HB3.out hb4); replace HC3 := hid (HC3.out.below hb4); have HR4 := hid hr4; have HE4 := hid he4; have hv4 := hr4.one; obtain ⟨p4, n4, c4, hf4⟩ : ∃ p n c, v4 = .slice p n c := (by obtain ⟨a, c, e, _⟩ := hr4.buf.form; exact ⟨a, _, c, e⟩); subst hf4; clear hb4 k0 k1 hr4 he4)
            | ((with_reducible refine wpList_allocJ rfl rfl ?_); intro w5 g5 hz5 hb5 hg5; have HZ5 := hid hz5; have HB5 := hid hb5; have HG5 := hid hg5; clear hz5 hb5 hg5)
            | ((with_reducible refine wpList_storeJ rfl rfl _ _ rfl g5 ?_ (s := j.seq) (v := .slice p4 n4 c4) ?_ hv4 HZ5.out ?_); exact rfl; exact rfl; intro w6 h6 o6; have hb6 := ownX HB5.out HG5.out o6; replace HR4 := hid (HR4.out.below hb6); replace HC3 := hid (HC3.out.below hb6); have HB6 := hid (below_on HB4.out hb6); have HC6 := hid h6; have hcv := HCV.out _ HB6.out; have k1 := HC3.out.c1; clear h6 o6 HZ5 HB5 HG5 hb6)
            | ((with_reducible refine wpList_load_at 24 _ rfl ?_ g5 0 ?_ (jC j.seq (.slice p4 n4 c4)) _ ?_ underJrn rfl ?_ ?_); exact rfl; exact rfl; exact HC6.out.wholeJ; exact sizeJ)
            | ((with_reducible refine wpList_build_want 70 _ rfl ?_ (hC j.seq (.slice p4 n4 c4) (ba x.bs)) ?_ ?_); exact rfl; exact builtHd _ _ _ _ _)
            | ((with_reducible refine wpList_buildX (t := 70) Tryd.underlying65 Tryd.infoHeld (by decide) (by decide) rfl _ rfl (hC j.seq (.slice p4 n4 c4) (ba x.bs)) rfl ?_ ?_); exact rfl; intro w7 g7 hc7 hb7 hg7; obtain ⟨v8, w8, hr8, hs8, hb8⟩ := (HH.out.below (below_on HB6.out hb7)).push (w := wr) (x := ⟨j.seq, .slice p4 n4 c4, m4, ba x.bs⟩) BW.out.size (below_on HB6.out hb7) ⟨(HR4.out.below hb7).base (by have := HSZ3.out; have := BW.out.size; omega), by have h := congrArg List.length HE4.out; rw [rcs_len] at h; exact Nat.le_trans (Nat.le_of_eq h) (by have := HJS.out; omega), by rw [← lst_len, lst_ba H8.out.1]; exact H8.out.2⟩ hc7 (by have := HK.out; omega) 65; have HRUN := hid hr8; have HS8 := hid hs8; have HB8 := hid hb8; clear hr8 hs8 hb8 hc7 hb7 hg7 hcv k1)
            | (at_builtin; refine wpList_append_run _ _ 65 65 rfl rfl _ _ _ rfl rfl HRUN.out ?_))
          go_roundg (n - (kk + 1))
          case measure => omega
          case rel => exact ⟨kk + 1, L ++ [⟨j.seq, .slice p4 n4 c4, m4, ba x.bs⟩], by omega, by omega, by go_num, hid HS8.out, hid (by rw [List.map_append, HXN.out, HA.out]; simp [Hv.jb, HE4.out, lst_ba H8.out.1]), hid (by have := HK.out; simp; omega), hid (below_tr BW.out HB8.out)⟩
      · have hz : (x.err != 0) = true := by simpa using hE
        have HHJ : Hid (hasJ dig x.cp = none) := hid (by unfold hasJ; rw [if_neg (show ¬ x.cp.err = 0 from hE)])
        rw [HHJ.out] at HXN
        generalize x.err = E at HCL hz hE
        clear hbl hnil h8 hE hm1
        have T1 : Hid True := hid trivial
        go_wp2_with (first
          | (clear T1; (with_reducible refine wpList_load_at 36 _ rfl ?_ b (o + kk * 2) ?_ (cC E (.slice p1 m1 c1)) _ ?_ underCp rfl ?_ ?_); exact rfl; exact rfl; exact HCL.out; exact sizeCp)
          | ((with_reducible refine wpList_allocX 36 _ zeroCp rfl rfl ?_); intro w2 g2 hz2 hb2 hg2; have HZ2 := hid hz2; have HB2 := hid hb2; have HG2 := hid hg2; clear hz2 hb2 hg2)
          | ((with_reducible refine wpList_storeX 36 2 sizeCp rfl rfl _ _ rfl g2 ?_ (D := cC E (.slice p1 m1 c1)) ?_ ?_ ?_ ?_ HZ2.out ?_); exact rfl; exact rfl; exact rfl; exact rfl; exact cC_one _ _ _ _; intro w3 h3 o3; have k0 := h3.c0; have HB3 := hid (ownX HB2.out HG2.out o3); clear h3 o3 HZ2 HB2 HG2))
        go_roundg (n - (kk + 1))
        case measure => omega
        case rel => exact ⟨kk + 1, L, by omega, by omega, by go_num, hid (HH.out.below HB3.out), hid (by rw [HXN.out, HA.out]; simp), hid (by have := HK.out; omega), hid (below_on BW.out HB3.out)⟩
    · have hltz : ¬ (kk : Int) < (n : Int) := by omega
      go_wp2
      go_ret
      have e : l.take kk = l := List.take_of_length_le (by have := HN.out; omega)
      refine ⟨_, L, rfl, HH.out, by rw [HA.out, e], by have := HK.out; rw [cps_len, HN.out]; omega, BW.out⟩
end Go.Proofs.YtelkijiphhoacaaDoor
