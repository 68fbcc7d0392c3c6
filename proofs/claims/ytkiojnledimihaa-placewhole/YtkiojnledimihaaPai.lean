/- Texts laid into one, cut to what is needed: the remark ahead of each part says what is proved there. -/
import Derived.Test.YtkiojnledimihaaPah
import Derived.WalkLawsBesides
import Derived.BigQuiet
import Derived.Test.YtkiojnledimihaaPad
import Derived.Lib.AppendZeros
import Derived.Test.YtkiojnledimihaaPaf
import Derived.Sort.KeysCollected
import Derived.Test.YtkiojnledimihaaPac
import Derived.Test.YtkiojnledimihaaPab
import Derived.Lib.SlBytesConst
/- Package place: merged, which yields of two rising lists the next text. -/
namespace Go.Proofs.Ytkiojnledimihaa
open Go Go.RowKit Go.Shelf

theorem merged_any (pa : Option Addr) (na ca : Nat) (pb : Option Addr) (nb cb : Nat) (w : World) : Calls Try.prog 28 #[.slice pa na ca, .slice pb nb cb] w fun e w' => e = .returned (.func (.func 41) #[] #[ptr w.heap.size, ptr (w.heap.size + 1)]) ∧ w' = (w.alloc (.cells #[.slice pa na ca] 30)).alloc (.cells #[.slice pb nb cb] 30) := by
  go_enter Try.func28, Try.ntmps28
  have hmf : ∀ (fn : Fn) (first cap : Array Value) (w : World), (Instr.makeFunc fn first cap).run Try.prog w = .ok (.func fn first cap) w := fun _ _ _ _ => rfl
  go_wp2
  go_ret
  exact ⟨rfl, rfl⟩
abbrev mEnc (A B : List Nm) (i : Nat) : Array Value := tEnc (mrg A B) i
theorem le_less {x y : Nm} (h : x ≤ y) : Op.bytesLess x y = true ∨ (Op.bytesLess x y = false ∧ x = y) := by
  rw [less_before]
  by_cases e : x = y
  · right; subst e; exact ⟨bb_irrefl x, rfl⟩
  · left; rw [bb_lt]; exact Std.lt_of_le_of_ne h e
theorem not_le_less {x y : Nm} (h : ¬ x ≤ y) : Op.bytesLess x y = false ∧ x ≠ y := by
  rw [less_before]
  refine ⟨?_, fun e => h (by subst e; exact Std.le_refl _)⟩
  cases hb : bytesBefore x y with
  | false => rfl
  | true => exact absurd (Std.le_of_lt ((bb_lt x y).1 hb)) h
set_option maxHeartbeats 8000000 in
set_option maxRecDepth 100000 in
theorem merged_itM (B0 BA BB : Nat) (pa : Option Addr) (ca : Nat) (la : List Nm) (pb : Option Addr) (cb : Nat) (lb : List Nm) (I : Nat → World → Prop) (hk : la.length + lb.length ≤ 1000000)
    (hm : ∀ i W, I i W → (CAt W BA #[.slice pa la.length ca] 30 ∧ TxO W pa la) ∧ CAt W BB #[.slice pb lb.length cb] 30 ∧ TxO W pb lb) :
    ItM Try.prog 41 #[ptr BA, ptr BB] (la.length + lb.length) (mEnc la lb) (fun _ _ => True) I B0 := by
  intro l W1 J Jx _ hJ hJx hJI hJJ hY h0
  have HK := hid hk
  have HCA : Hid (∀ k W, J k W → W.cell? ⟨BA, 0, none⟩ = some (.slice pa la.length ca) ∧ W.cell? ⟨BB, 0, none⟩ = some (.slice pb lb.length cb)) := hid (fun k W hj => by
    obtain ⟨⟨m1, _⟩, m2, _⟩ := hm k W (hJI k W hj)
    exact ⟨m1.cell 0, m2.cell 0⟩)
  have HRA : Hid (∀ k W i, J k W → i < la.length → ∃ b o, pa = some ⟨b, o, none⟩ ∧ W.cell? ⟨b, o + i, none⟩ = some (sv (la.getD i []))) := hid (fun k W i hj hi => (hm k W (hJI k W hj)).1.2.cell hi)
  have HRB : Hid (∀ k W i, J k W → i < lb.length → ∃ b o, pb = some ⟨b, o, none⟩ ∧ W.cell? ⟨b, o + i, none⟩ = some (sv (lb.getD i []))) := hid (fun k W i hj hi => (hm k W (hJI k W hj)).2.2.cell hi)
  have HJD : Hid (∀ k W n, J k W → J k (W.drewN n)) := hid (fun k W n hj => hJ k W _ hj ⟨none, grown_of_below (below_drewN _ _), fun _ e => by cases e⟩)
  have HYY : Hid (∀ k W, k < la.length + lb.length → J k W → YlM Try.prog l #[sv (atT (mrg la lb) k)] W1.heap.size W (J (k + 1)) Jx) := hid (fun k W hk hj => hY k W hk hj trivial)
  have hz0 := HCA.out 0 W1 h0
  obtain ⟨z1, z2⟩ := hz0
  clear hm hJI hJJ hY hJ hJx hk
  refine (callsIn_wide (n := 1)).1 ?_
  refine callsIn_of_wp Try.func41 rfl trivial ?_ rfl
  simp only [Try.ntmps41, List.size_toArray, List.length_cons, List.length_nil, Nat.reduceAdd, Nat.reduceSub, Array.replicate_succ, Array.replicate_zero, List.push_toArray, List.append_toArray, List.nil_append, List.cons_append]
  gi_wp2
  clear z1 z2
  gi_loopw [4, 5, 6] (fun q r _ wr => ∃ i j : Nat, MrP la lb i j ∧ q = .int .i64 (i : Int) ∧ r = .int .i64 (j : Int) ∧ J (i + j) wr) (fun q r _ _ => ((1000000 : Int) - intOf q - intOf r).toNat)
  case atStart => exact ⟨0, 0, MrP.start _ _, rfl, rfl, h0⟩
  case round =>
    clear h0
    obtain ⟨i, j, hp, rfl, rfl, hj⟩ := hrel
    have HP := hid hp
    obtain ⟨z1, z2⟩ := HCA.out _ _ hj
    have hia := hp.ia
    have hjb := hp.jb
    clear hp
    have hia' : (i : Int) ≤ (la.length : Int) := by omega
    have hjb' : (j : Int) ≤ (lb.length : Int) := by omega
    by_cases hend : i = la.length ∧ j = lb.length
    · obtain ⟨rfl, rfl⟩ := hend
      have HE := hid hj
      clear hj hia hjb hia' hjb'
      gi_wp2
      go_end0
      exact ⟨⟨_, rfl⟩, .inl HE.out⟩
    · have hk1 : i + j < la.length + lb.length := by omega
      have HY := hid (fun W hj => HYY.out (i + j) W hk1 hj)
      have HJ := hid hj
      have HD := hid (fun n => HJD.out _ _ n hj)
      clear HYY HJD hj hk1
      by_cases hjl : j = lb.length
      · have hil : i < la.length := by omega
        have hil' : (i : Int) < (la.length : Int) := by omega
        have hi6 : (i : Int) < 1000000 := by have := HK.out; omega
        obtain ⟨hnx, hat⟩ := HP.out.left hil (.inl hjl)
        obtain ⟨b, o, hp, hc⟩ := HRA.out _ _ i HJ.out hil
        subst hp
        subst hjl
        rw [show (mrg la lb).getD (i + lb.length) [] = atT (mrg la lb) (i + lb.length) from rfl] at hat
        rw [hat] at HY
        have HNX := hid hnx
        have HQ : Hid (∀ n, J (i + lb.length) (wr.drewN n) ∧ (wr.drewN n).cell? ⟨BA, 0, none⟩ = some (.slice (some ⟨b, o, none⟩) la.length ca) ∧ (wr.drewN n).cell? ⟨b, o + i, none⟩ = some (sv (la.getD i []))) := hid (fun n => ⟨HD.out n, (HCA.out _ _ (HD.out n)).1, by
          obtain ⟨b', o', e', h'⟩ := HRA.out _ _ i (HD.out n) hil
          cases e'; exact h'⟩)
        have HJJ : Hid (∀ W, J (i + lb.length + 1) W → J (i + 1 + lb.length) W) := hid (fun W h => by rw [show i + 1 + lb.length = i + lb.length + 1 by omega]; exact h)
        clear hend hia hjb hil hat hnx HD HJ HCA HRA HRB
        generalize la.getD i [] = x at *
        gi_wp2_with fail
        refine wpIn_wide.2 ?_
        go_quiet (fail)
        obtain ⟨hq, y1, y2⟩ := HQ.out nq
        obtain ⟨fn, tmps, assign, body, hy, hR⟩ := HY.out _ hq
        clear hq HQ
        generalize wr.drewN nq = W2 at *
        clear z1 z2 hc
        gi_wp2
        refine hR.mono ?_
        rintro e W3 ⟨_, (⟨rfl, hJ3⟩ | ⟨rfl, hJx3⟩)⟩
        · gi_wp2
          go_roundw
          case rel => exact ⟨i + 1, lb.length, HNX.out, by first | rfl | go_num, by first | rfl | go_num, HJJ.out _ hJ3⟩
          case measure => have := HK.out; simp only [intOf]; omega
        · gi_wp2
          refine bodyPost_ret (results_none rfl _ _ _) rfl ?_
          exact ⟨⟨_, rfl⟩, .inr hJx3⟩
      · have hjt : j < lb.length := by omega
        have hjt' : (j : Int) < (lb.length : Int) := by omega
        have hj6 : (j : Int) < 1000000 := by have := HK.out; omega
        have hjn : ((j : Int) == (lb.length : Int)) = false := beq_eq_false_iff_ne.2 (by omega)
        by_cases hil : i = la.length
        · obtain ⟨hnx, hat⟩ := HP.out.right hjt (.inl hil)
          obtain ⟨b, o, hp, hc⟩ := HRB.out _ _ j HJ.out hjt
          subst hp
          have hin : ¬ (i : Int) < (la.length : Int) := by omega
          have hin2 : decide (i < la.length) = false := decide_eq_false (by omega)
          rw [show (mrg la lb).getD (i + j) [] = atT (mrg la lb) (i + j) from rfl] at hat
          rw [hat] at HY
          have HNX := hid hnx
          have HQ : Hid (∀ n, J (i + j) (wr.drewN n) ∧ (wr.drewN n).cell? ⟨BB, 0, none⟩ = some (.slice (some ⟨b, o, none⟩) lb.length cb) ∧ (wr.drewN n).cell? ⟨b, o + j, none⟩ = some (sv (lb.getD j []))) := hid (fun n => ⟨HD.out n, (HCA.out _ _ (HD.out n)).2, by
            obtain ⟨b', o', e', h'⟩ := HRB.out _ _ j (HD.out n) hjt
            cases e'; exact h'⟩)
          clear hend hia hjb hjl hil hjt hat hnx HD HJ HCA HRA HRB
          generalize lb.getD j [] = y at *
          gi_wp2_with fail
          refine wpIn_wide.2 ?_
          go_quiet (fail)
          obtain ⟨hq, y1, y2⟩ := HQ.out nq
          obtain ⟨fn, tmps, assign, body, hy, hR⟩ := HY.out _ hq
          clear hq HQ
          generalize wr.drewN nq = W2 at *
          clear z1 z2 hc
          gi_wp2
          refine hR.mono ?_
          rintro e W3 ⟨_, (⟨rfl, hJ3⟩ | ⟨rfl, hJx3⟩)⟩
          · gi_wp2
            go_roundw
            case rel => exact ⟨i, j + 1, HNX.out, by first | rfl | go_num, by first | rfl | go_num, hJ3⟩
            case measure => have := HK.out; simp only [intOf]; omega
          · gi_wp2
            refine bodyPost_ret (results_none rfl _ _ _) rfl ?_
            exact ⟨⟨_, rfl⟩, .inr hJx3⟩
        · have hit : i < la.length := by omega
          have hit' : (i : Int) < (la.length : Int) := by omega
          have hi6 : (i : Int) < 1000000 := by have := HK.out; omega
          obtain ⟨b, o, hp, hc⟩ := HRA.out _ _ i HJ.out hit
          obtain ⟨b2, o2, hp2, hd⟩ := HRB.out _ _ j HJ.out hjt
          subst hp
          subst hp2
          by_cases hle : la.getD i [] ≤ lb.getD j []
          · obtain ⟨hnx, hat⟩ := HP.out.left hit (.inr hle)
            rw [show (mrg la lb).getD (i + j) [] = atT (mrg la lb) (i + j) from rfl] at hat
            rw [hat] at HY
            have HNX := hid hnx
            have hbl := le_less hle
            have HQ : Hid (∀ n, J (i + j) (wr.drewN n) ∧ (wr.drewN n).cell? ⟨BA, 0, none⟩ = some (.slice (some ⟨b, o, none⟩) la.length ca) ∧ (wr.drewN n).cell? ⟨b, o + i, none⟩ = some (sv (la.getD i []))) := hid (fun n => ⟨HD.out n, (HCA.out _ _ (HD.out n)).1, by
              obtain ⟨b', o', e', h'⟩ := HRA.out _ _ i (HD.out n) hit
              cases e'; exact h'⟩)
            have HJJ : Hid (∀ W, J (i + j + 1) W → J (i + 1 + j) W) := hid (fun W h => by rw [show i + 1 + j = i + j + 1 by omega]; exact h)
            clear hend hia hjb hjl hil hjt hit hat hnx hle HD HJ HCA HRA HRB
            generalize la.getD i [] = x at *
            generalize lb.getD j [] = y at *
            rcases hbl with hbl | ⟨hbl, rfl⟩
            · gi_wp2_with fail
              refine wpIn_wide.2 ?_
              go_quiet (fail)
              obtain ⟨hq, y1, y2⟩ := HQ.out nq
              obtain ⟨fn, tmps, assign, body, hy, hR⟩ := HY.out _ hq
              clear hq HQ
              generalize wr.drewN nq = W2 at *
              clear z1 z2 hc hd hbl
              gi_wp2
              refine hR.mono ?_
              rintro e W3 ⟨_, (⟨rfl, hJ3⟩ | ⟨rfl, hJx3⟩)⟩
              · gi_wp2
                go_roundw
                case rel => exact ⟨i + 1, j, HNX.out, by first | rfl | go_num, by first | rfl | go_num, HJJ.out _ hJ3⟩
                case measure => have := HK.out; simp only [intOf]; omega
              · gi_wp2
                refine bodyPost_ret (results_none rfl _ _ _) rfl ?_
                exact ⟨⟨_, rfl⟩, .inr hJx3⟩
            · gi_wp2_with fail
              refine wpIn_wide.2 ?_
              go_quiet (fail)
              obtain ⟨hq, y1, y2⟩ := HQ.out nq
              obtain ⟨fn, tmps, assign, body, hy, hR⟩ := HY.out _ hq
              clear hq HQ
              generalize wr.drewN nq = W2 at *
              clear z1 z2 hc hd hbl
              gi_wp2
              refine hR.mono ?_
              rintro e W3 ⟨_, (⟨rfl, hJ3⟩ | ⟨rfl, hJx3⟩)⟩
              · gi_wp2
                go_roundw
                case rel => exact ⟨i + 1, j, HNX.out, by first | rfl | go_num, by first | rfl | go_num, HJJ.out _ hJ3⟩
                case measure => have := HK.out; simp only [intOf]; omega
              · gi_wp2
                refine bodyPost_ret (results_none rfl _ _ _) rfl ?_
                exact ⟨⟨_, rfl⟩, .inr hJx3⟩
          · obtain ⟨hnx, hat⟩ := HP.out.right hjt (.inr hle)
            rw [show (mrg la lb).getD (i + j) [] = atT (mrg la lb) (i + j) from rfl] at hat
            rw [hat] at HY
            have HNX := hid hnx
            obtain ⟨hbl, hne⟩ := not_le_less hle
            have HQ : Hid (∀ n, J (i + j) (wr.drewN n) ∧ (wr.drewN n).cell? ⟨BB, 0, none⟩ = some (.slice (some ⟨b2, o2, none⟩) lb.length cb) ∧ (wr.drewN n).cell? ⟨b2, o2 + j, none⟩ = some (sv (lb.getD j []))) := hid (fun n => ⟨HD.out n, (HCA.out _ _ (HD.out n)).2, by
              obtain ⟨b', o', e', h'⟩ := HRB.out _ _ j (HD.out n) hjt
              cases e'; exact h'⟩)
            clear hend hia hjb hjl hil hjt hit hat hnx hle HD HJ HCA HRA HRB
            generalize la.getD i [] = x at *
            generalize lb.getD j [] = y at *
            have hne2 : (x == y) = false := beq_eq_false_iff_ne.2 hne
            gi_wp2_with fail
            refine wpIn_wide.2 ?_
            go_quiet (fail)
            obtain ⟨hq, y1, y2⟩ := HQ.out nq
            obtain ⟨fn, tmps, assign, body, hy, hR⟩ := HY.out _ hq
            clear hq HQ
            generalize wr.drewN nq = W2 at *
            clear z1 z2 hc hd hbl hne hne2
            gi_wp2
            refine hR.mono ?_
            rintro e W3 ⟨_, (⟨rfl, hJ3⟩ | ⟨rfl, hJx3⟩)⟩
            · gi_wp2
              go_roundw
              case rel => exact ⟨i, j + 1, HNX.out, by first | rfl | go_num, by first | rfl | go_num, hJ3⟩
              case measure => have := HK.out; simp only [intOf]; omega
            · gi_wp2
              refine bodyPost_ret (results_none rfl _ _ _) rfl ?_
              exact ⟨⟨_, rfl⟩, .inr hJx3⟩
end Go.Proofs.Ytkiojnledimihaa

/- Lent lists of texts; contracts of LentTexts, SameTexts and KeptTexts of the statements' kit. (Written by tools/gen_Pe.py.) -/
namespace Go.Proofs.Ytkiojnledimihaa.K
open Go Go.RowKit Go.Shelf
theorem madeCells_get (z : Value) (n i : Nat) (h : i < n) : (madeCells #[z] n)[i]? = some z := by
  simp [madeCells, h, Nat.mod_one]
theorem size_setCells (b : Nat) : ∀ (vs : List Value) (o : Nat) (w : World), (w.setCells b o vs).heap.size = w.heap.size
  | [], _, _ => rfl
  | v :: r, o, w => by rw [World.setCells, size_setCells b r, World.size_setCell]
theorem below_setCells (b B : Nat) (hB : B ≤ b) : ∀ (vs : List Value) (o : Nat) (w0 w : World), Below B w0 w → Below B w0 (w.setCells b o vs)
  | [], _, _, _, h => h
  | v :: r, o, w0, w, h => by rw [World.setCells]; exact below_setCells b B hB r (o + 1) w0 _ (h.setCell hB _)
theorem add_plain' (b o l : Nat) : (⟨b, o, none⟩ : Addr).add l = ⟨b, o + l, none⟩ := by unfold Addr.add; split <;> simp_all
theorem cell_lt {w : World} {a : Addr} {v : Value} (h : w.cell? a = some v) : a.block < w.heap.size := by
  rcases Nat.lt_or_ge a.block w.heap.size with h1 | h1
  · exact h1
  · simp [World.cell?, Array.getElem?_eq_none h1] at h
def TxtAt (w : World) (p : Option Addr) (n : Nat) (S : Nat → ByteArray) : Prop := n = 0 ∨ ∃ b o, p = some ⟨b, o, none⟩ ∧ ∀ i, i < n → w.cell? ⟨b, o + i, none⟩ = some (.string (S i))
theorem TxtAt.below {w w' : World} {p : Option Addr} {n : Nat} {S : Nat → ByteArray} (h : TxtAt w p n S) (hb : Below w.heap.size w w') : TxtAt w' p n S := by
  rcases Nat.eq_zero_or_pos n with h0 | h0
  · exact .inl h0
  · rcases h with h | ⟨b, o, rfl, hr⟩
    · omega
    · exact .inr ⟨b, o, rfl, fun i hi => (hb.cell (p := ⟨b, o + i, none⟩) (show b < w.heap.size from cell_lt (hr 0 h0))).trans (hr i hi)⟩
theorem str_new {w : World} {p : Option Addr} {n : Nat} {S : Nat → ByteArray} (h : TxtAt w p n S) (k : Nat) (hk : k < n) : ∃ b o, p = some ⟨b, o, none⟩ ∧ w.cell? ⟨b, o + k, none⟩ = some (.string (S k)) := by
  rcases h with h | ⟨b, o, rfl, hr⟩
  · omega
  · exact ⟨b, o, rfl, hr k hk⟩
theorem infoS : (Try.prog.info? 9).map (fun i => (i.zero, i.size, i.bytes)) = some (some (.string ⟨#[]⟩), 1, 16) := by kernel_rfl
structure NewTxt (w0 w : World) (n : Nat) (S : Nat → ByteArray) : Prop where
  size : w.heap.size = w0.heap.size + 1
  below : Below w0.heap.size w0 w
  cells : ∀ i, i < n → w.cell? ⟨w0.heap.size, i, none⟩ = some (.string (S i))
  free : ∀ i, w.frozen? ⟨w0.heap.size, i, none⟩ = false
theorem run_make_str (n : Nat) (hn : n ≤ 70003) (w : World) :
    (Instr.makeSlice 30 (.int .i64 (n : Int)) (.int .i64 (n : Int))).run Try.prog w = .ok (.slice (some ⟨w.heap.size, 0, none⟩) n n) (w.alloc (.cells (madeCells #[.string ⟨#[]⟩] n) 9)) := by
  obtain ⟨i0, hi, hz0, hz1, hz2⟩ := info_parts infoS
  have h := run_make (P := Try.prog) w 30 9 i0 (.string ⟨#[]⟩) Try.underlying30 hi hz0 .i64 .i64 n n (by omega) (Int.le_refl _) (by rw [hz2]; omega) (by omega)
  rw [hz1] at h
  simpa [Value.cells] using h
theorem NewTxt.made (w : World) (n : Nat) : NewTxt w (w.alloc (.cells (madeCells #[.string ⟨#[]⟩] n) 9)) n (fun _ => ⟨#[]⟩) where
  size := by simp
  below := (Below.refl _ _).alloc (Nat.le_refl _) _
  cells := fun i h => by rw [World.cell?_alloc_new, madeCells_get _ _ _ h]
  free := fun i => World.frozen?_alloc_new _ _ _ _
theorem NewTxt.set {w0 w : World} {n : Nat} {S : Nat → ByteArray} (h : NewTxt w0 w n S) (k : Nat) (v : ByteArray) (hk : k < n) :
    NewTxt w0 (w.setCell ⟨w0.heap.size, k, none⟩ (.string v)) n (fun i => if i = k then v else S i) where
  size := by simp [h.size]
  below := h.below.setCell (Nat.le_refl _) _
  cells := fun i hi => by
    by_cases e : i = k
    · subst e
      rw [World.cell?_setCell_same _ _ _ (h.cells i hi)]; simp
    · rw [World.cell?_setCell_other _ _ _ _ (by intro h2; cases h2; exact e rfl), h.cells i hi]; simp [e]
  free := fun i => by rw [World.frozen?_setCell]; exact h.free i
theorem NewTxt.congr {w0 w : World} {n : Nat} {S T : Nat → ByteArray} (h : NewTxt w0 w n S) (e : ∀ i, i < n → S i = T i) : NewTxt w0 w n T where
  size := h.size
  below := h.below
  cells := fun i hi => by rw [h.cells i hi, e i hi]
  free := h.free
theorem NewTxt.at {w0 w : World} {n : Nat} {S : Nat → ByteArray} (h : NewTxt w0 w n S) : TxtAt w (some ⟨w0.heap.size, 0, none⟩) n S := .inr ⟨_, _, rfl, fun i hi => by rw [Nat.zero_add]; exact h.cells i hi⟩
def valS (n : Nat) (S : Nat → ByteArray) : List Value := (List.range n).map fun i => .string (S i)
theorem valS_len (n : Nat) (S : Nat → ByteArray) : (valS n S).length = n := by simp [valS]
theorem valS_get (n : Nat) (S : Nat → ByteArray) (i : Nat) (h : i < n) : (valS n S)[i]? = some (.string (S i)) := by simp [valS, h]
theorem NewTxt.copied {w0 w : World} {n : Nat} {S : Nat → ByteArray} (h : NewTxt w0 w n S) (m : Nat) (T : Nat → ByteArray) (hm : m ≤ n) :
    NewTxt w0 (w.setCells w0.heap.size 0 (valS m T)) n (fun i => if i < m then T i else S i) where
  size := by rw [size_setCells, h.size]
  below := below_setCells _ _ (Nat.le_refl _) _ _ _ _ h.below
  cells := fun i hi => by
    by_cases e : i < m
    · have hin := World.cell?_setCells_in w0.heap.size (valS m T) 0 w (fun j hj => by
        rw [valS_len] at hj
        rw [Nat.zero_add, h.cells j (by omega)]; rfl) i (by rw [valS_len]; exact e)
      rw [Nat.zero_add] at hin
      rw [hin, if_pos e]
      have g := valS_get m T i e
      rw [List.getElem?_eq_getElem (by rw [valS_len]; exact e)] at g
      exact g
    · rw [World.cell?_setCells_out _ _ _ _ _ (fun _ _ => by rw [valS_len]; right; simp; omega), if_neg e, h.cells i hi]
  free := fun i => by rw [World.frozen?_setCells]; exact h.free i
theorem run_copy_str (w : World) (b o n c g dl dc : Nat) (S T : Nat → ByteArray) (w0 : World) (hg : g = w0.heap.size) (h : NewTxt w0 w dl T) (hx : ∀ i, i < n → w.cell? ⟨b, o + i, none⟩ = some (.string (S i))) (hn : n ≤ dl) (ty : TypeId) :
    (Builtin.copy_ #[30, 30] ty #[.slice (some ⟨g, 0, none⟩) dl dc, .slice (some ⟨b, o, none⟩) n c]).run Try.prog w = .ok (goInt n) (w.setCells g 0 (valS n S)) := by
  subst hg
  have := run_copy_cells (P := Try.prog) w 30 30 ty 9 w0.heap.size 0 dl dc ⟨b, o, none⟩ n c (valS n S) Try.underlying30 (by kernel_rfl) (by rw [valS_len]; exact (Nat.min_eq_left hn).symm)
    (fun j v hj => by
      have hjn : j < n := by
        rcases Nat.lt_or_ge j n with q | q
        · exact q
        · rw [List.getElem?_eq_none (by rw [valS_len]; exact q)] at hj; cases hj
      rw [valS_get n S j hjn] at hj
      cases hj
      rw [add_plain']; exact hx j hjn)
    (fun j hj => by rw [valS_len] at hj; rw [Nat.zero_add, h.cells j (by omega)]; rfl)
    (fun j _ => by rw [Nat.zero_add]; exact h.free j)
    (fun v hv => by unfold valS at hv; obtain ⟨i, _, rfl⟩ := List.mem_map.1 hv; rfl)
  rw [valS_len] at this
  exact this
def markS : ByteArray := ⟨#[108, 101, 110, 116]⟩
def lentS (n : Nat) (S : Nat → ByteArray) (i : Nat) : ByteArray := if i < n then S i else markS
theorem uptoS_step (f : Nat → ByteArray) (z : ByteArray) (k i : Nat) : (if i = k then f k else if i < k then f i else z) = if i < k + 1 then f i else z := by
  by_cases e : i = k
  · subst e; rw [if_pos rfl, if_pos (by omega)]
  · rw [if_neg e]
    by_cases h : i < k
    · rw [if_pos h, if_pos (by omega)]
    · rw [if_neg h, if_neg (by omega)]
theorem sizeS (w : World) : (sizeOf (Try.prog.elem 30)).run Try.prog w = .ok 1 w := by
  obtain ⟨i0, hi0, hz0, hz1, hz2⟩ := info_parts infoS
  rw [show Try.prog.elem 30 = 9 by kernel_rfl]
  simp [sizeOf, typeInfo, hi0, hz1]
theorem underS : Try.prog.underlying 30 = some (.slice (Try.prog.elem 30)) := by kernel_rfl
theorem run_hiS (g n c k : Nat) (hk : k ≤ c) (w : World) : (Instr.slice 30 (.slice (some ⟨g, 0, none⟩) n c) none (some (.int .i64 (k : Int))) none).run Try.prog w = .ok (.slice (some ⟨g, 0, none⟩) k c) w := by
  rw [run_slice_h (P := Try.prog) w 30 (some ⟨g, 0, none⟩) n c underS .i64 (k : Int) (by omega) (by omega), sizeS]
  simp [Result.andThen, sliced, Addr.add]
def LentTx (w : World) (n : Nat) (S : Nat → ByteArray) (e : Ending) (w' : World) : Prop := e = .returned (.slice (some ⟨w.heap.size, 0, none⟩) n (n + 3)) ∧ NewTxt w w' (n + 3) (lentS n S)
set_option maxRecDepth 100000 in
set_option maxHeartbeats 1000000 in
theorem lentTx_core (p : Option Addr) (n c : Nat) (S : Nat → ByteArray) (w w1 : World) (hn : n ≤ 70000)
    (hcp : ∀ ty, (Builtin.copy_ #[30, 30] ty #[.slice (some ⟨w.heap.size, 0, none⟩) (n + 3) (n + 3), .slice p n c]).run Try.prog (w.alloc (.cells (madeCells #[.string ⟨#[]⟩] (n + 3)) 9)) = .ok (goInt n) w1)
    (hrow : NewTxt w w1 (n + 3) (fun i => if i < n then S i else ⟨#[]⟩)) :
    Calls Try.prog 14 #[.slice p n c] w fun e w' => LentTx w n S e w' := by
  have hmk := run_make_str (n + 3) (by omega) w
  rw [show ((n + 3 : Nat) : Int) = (n : Int) + 3 from by omega] at hmk
  have hsl := run_hiS w.heap.size (n + 3) (n + 3) n (by omega)
  have HR := hid hrow
  clear hrow
  go_enter Try.func14, Try.ntmps14
  go_wp2
  clear hmk hcp
  go_loopw [4] (fun i wr => ∃ k : Nat, n ≤ k ∧ k ≤ n + 3 ∧ i = .int .i64 k ∧ NewTxt w wr (n + 3) (fun i => if i < k then lentS n S i else ⟨#[]⟩)) (fun i _ => (n + 3 - intOf i).toNat)
  case atStart => exact ⟨n, by omega, by omega, rfl, HR.out.congr (fun i _ => by by_cases e : i < n <;> simp [lentS, e])⟩
  case round =>
    obtain ⟨k, hk1, hk2, rfl, hrow⟩ := hrel
    clear HR
    by_cases hlt : k < n + 3
    · have c3 : wr.cell? ⟨w.heap.size, k, none⟩ = some (.string ⟨#[]⟩) := by rw [hrow.cells k hlt]; simp
      have c4 := hrow.free k
      have HR := hid (hrow.set k (lentS n S k) hlt)
      have HL : Hid (lentS n S k = ⟨#[108, 101, 110, 116]⟩) := if_neg (by omega)
      clear hrow
      go_wp2
      go_roundw
      case rel =>
        refine ⟨k + 1, by omega, by omega, by go_num, ?_⟩
        have := HR.out.congr (T := fun i => if i < k + 1 then lentS n S i else ⟨#[]⟩) (fun i _ => uptoS_step (lentS n S) _ k i)
        rw [HL.out] at this
        exact this
      case measure => simp [intOf]; omega
    · have e : k = n + 3 := by omega
      have E := hid (hrow.congr (T := lentS n S) (fun i hi => by rw [if_pos (by omega)]))
      clear e hrow
      go_wp2
      go_ret
      exact ⟨rfl, E.out⟩
theorem lentTx_any (p : Option Addr) (n c : Nat) (S : Nat → ByteArray) (w : World) (hn : n ≤ 70000) (hx : TxtAt w p n S) :
    Calls Try.prog 14 #[.slice p n c] w fun e w' => LentTx w n S e w' := by
  have hrow := NewTxt.made w (n + 3)
  by_cases h0 : n = 0
  · subst h0
    refine lentTx_core p 0 c S w _ hn (fun ty => ?_) (hrow.congr (fun i _ => by simp))
    exact run_copy_none (P := Try.prog) _ 30 30 ty 9 _ _ _ _ _ _ Try.underlying30 (by kernel_rfl) (by simp)
  · rcases hx with e | ⟨b, o, rfl, hx⟩
    · exact absurd e h0
    · have hb : b < w.heap.size := cell_lt (hx 0 (by omega))
      have hx1 : ∀ i, i < n → (w.alloc (.cells (madeCells #[.string ⟨#[]⟩] (n + 3)) 9)).cell? ⟨b, o + i, none⟩ = some (.string (S i)) := fun i hi => by rw [World.cell?_alloc_lt _ _ _ hb]; exact hx i hi
      exact lentTx_core _ n c S w _ hn (fun ty => run_copy_str _ b o n c w.heap.size (n + 3) (n + 3) S (fun _ => ⟨#[]⟩) w rfl hrow hx1 (by omega) ty) (hrow.copied n S (by omega))
set_option maxRecDepth 100000 in
set_option maxHeartbeats 1000000 in
theorem sameTx_any (p q : Option Addr) (n c d : Nat) (S : Nat → ByteArray) (w : World) (hn : n ≤ 80000) (h : TxtAt w p n S) (h' : TxtAt w q n S) :
    Calls Try.prog 17 #[.slice p n c, .slice q n d] w fun e w' => e = .returned (.bool true) ∧ Below w.heap.size w w' := by
  have hne : ((n : Int) != (n : Int)) = false := by simp
  have HH := hid h
  have HH' := hid h'
  clear h h'
  go_enter Try.func17, Try.ntmps17
  go_wp2
  go_loopw [5] (fun i wr => ∃ k : Nat, k ≤ n ∧ i = .int .i64 k ∧ Below w.heap.size w wr) (fun i _ => (n - intOf i).toNat)
  case atStart => exact ⟨0, by omega, rfl, Below.refl _ _⟩
  case round =>
    obtain ⟨k, hk, rfl, hb⟩ := hrel
    have HB := hid hb
    by_cases hlt : k < n
    · obtain ⟨b, o, rfl, c1⟩ := str_new (HH.out.below hb) k hlt
      obtain ⟨b', o', rfl, c2⟩ := str_new (HH'.out.below hb) k hlt
      have hlt' : (k : Int) < (n : Int) := by omega
      generalize S k = s at c1 c2
      clear HH HH' hb
      go_wp2_with fail
      go_quiet (fail)
      go_wp2
      go_roundw
      case rel => exact ⟨k + 1, by omega, by go_num, ⟨HB.out.os, HB.out.tape, HB.out.output, HB.out.size, HB.out.block⟩⟩
      case measure => simp [intOf]; omega
    · have hge : ¬ (k : Int) < (n : Int) := by omega
      clear HH HH' hb
      go_wp2
      go_ret
      exact ⟨rfl, HB.out⟩
set_option maxRecDepth 100000 in
set_option maxHeartbeats 1000000 in
theorem keptTx_any (g n c : Nat) (p : Option Addr) (S : Nat → ByteArray) (w : World) (hn : n ≤ 70000) (hT : TxtAt w (some ⟨g, 0, none⟩) (n + 3) (lentS n S)) (hS : TxtAt w p n S) :
    Calls Try.prog 19 #[.slice (some ⟨g, 0, none⟩) n (n + 3), .slice p n c] w fun e w' => e = .returned (.bool true) ∧ Below w.heap.size w w' := by
  have O1 : Hid (TxtAt w.drew (some ⟨g, 0, none⟩) (n + 3) (lentS n S)) := hT.below (Below.refl _ _).drew
  have S1 : Hid (TxtAt w.drew p n S) := hS.below (Below.refl _ _).drew
  have h3 : (0 : Int) ≤ (n : Int) + 3 := by omega
  have hw3 : IntKind.i64.wrap ((n : Int) + 3) = (n : Int) + 3 := by rw [IntKind.wrap_i64]; omega
  have hs2 : ∀ (z : Nat) (w : World), (Instr.slice 30 (.slice (some ⟨z, 0, none⟩) n (n + 3)) none (some (.int .i64 ((n : Int) + 3))) none).run Try.prog w = .ok (.slice (some ⟨z, 0, none⟩) (n + 3) (n + 3)) w := fun z w => run_hiS z n (n + 3) (n + 3) (Nat.le_refl _) w
  have hs1 := hs2 g
  have HN := hid hn
  clear hT hS
  go_enter Try.func19, Try.ntmps19
  go_wp2_with fail
  go_region_held3 (fun w' => True) (trivial) (first | (go_at_call 14; refine (lentTx_any p n c S _ HN.out (by exact S1.out)).mono ?_; rintro e w1 ⟨rfl, hnew⟩) | (go_at_call 17; refine (sameTx_any _ _ (n + 3) _ _ (lentS n S) _ (by have := HN.out; omega) (by exact O1.out.below hnew.below) (by exact hnew.at)).mono ?_; rintro e w2 ⟨rfl, hb2⟩))
  have hb1 : Below w.heap.size w w1 := (Below.refl _ _).drew.trans hnew.below
  have HB := hid (hb1.trans (hb2.mono hb1.size))
  clear hnew hb1 hb2
  go_wp2
  go_ret
  exact ⟨rfl, HB.out⟩
end Go.Proofs.Ytkiojnledimihaa.K

/- Lent lists of texts, by lists; how long texts are; how often one is there. -/
namespace Go.Proofs.Ytkiojnledimihaa
open Go Go.RowKit Go.Shelf

def bS (ns : List Nm) (i : Nat) : ByteArray := ⟨(ns.getD i []).toArray⟩
theorem TxO.k {w : World} {po : Option Addr} {ns : List Nm} (h : TxO w po ns) : K.TxtAt w po ns.length (bS ns) := by
  rcases h with e | ⟨b, o, e, h⟩
  · exact .inl (by rw [e]; rfl)
  · exact .inr ⟨b, o, e, h⟩
/-- A lent list: the texts, and three more behind. -/
def LnT (w : World) (g : Nat) (ns : List Nm) : Prop := K.TxtAt w (some ⟨g, 0, none⟩) (ns.length + 3) (K.lentS ns.length (bS ns))
theorem LnT.below {w w' : World} {g : Nat} {ns : List Nm} (h : LnT w g ns) (hb : Below w.heap.size w w') : LnT w' g ns := K.TxtAt.below h hb
theorem LnT.tx {w : World} {g : Nat} {ns : List Nm} (h : LnT w g ns) : TxO w (some ⟨g, 0, none⟩) ns := by
  rcases h with e | ⟨b, o, e, h⟩
  · omega
  · refine .inr ⟨b, o, e, fun i hi => ?_⟩
    rw [h i (by omega)]
    unfold K.lentS
    rw [if_pos hi]; rfl
theorem LnT.lt {w : World} {g : Nat} {ns : List Nm} (h : LnT w g ns) : g < w.heap.size := by
  rcases h with e | ⟨b, o, e, h⟩
  · omega
  · cases e; exact K.cell_lt (h 0 (by omega))
theorem lentT13 {w : World} {po : Option Addr} {ns : List Nm} (h : TxO w po ns) (c : Nat) (hn : ns.length ≤ 70000) :
    Calls Try.prog 14 #[.slice po ns.length c] w fun e w' => e = .returned (.slice (some ⟨w.heap.size, 0, none⟩) ns.length (ns.length + 3)) ∧ LnT w' w.heap.size ns ∧ Below w.heap.size w w' ∧ w'.heap.size = w.heap.size + 1 :=
  (K.lentTx_any po ns.length c (bS ns) w hn h.k).mono fun _ _ ⟨h1, h2⟩ => ⟨h1, h2.at, h2.below, h2.size⟩
theorem keptT13 {w : World} {g : Nat} {po : Option Addr} {ns : List Nm} (hl : LnT w g ns) (h : TxO w po ns) (c : Nat) (hn : ns.length ≤ 70000) :
    Calls Try.prog 19 #[.slice (some ⟨g, 0, none⟩) ns.length (ns.length + 3), .slice po ns.length c] w fun e w' => e = .returned (.bool true) ∧ Below w.heap.size w w' :=
  K.keptTx_any g ns.length c po (bS ns) w hn hl h.k
/-- Are texts more than are gone through? -/
def lgB (ns : List Nm) (most : Int) : Bool := ns.any (fun x => decide (500 < x.length)) || decide (most < (ns.length : Int))
set_option maxRecDepth 100000 in
theorem long13_any {w : World} {po : Option Addr} {ns : List Nm} (h : TxO w po ns) (c : Nat) (hn : ns.length ≤ maxLen) (hls : ∀ x ∈ ns, x.length ≤ maxLen) (most : Int) :
    Calls Try.prog 13 #[.slice po ns.length c, .int .i64 most] w fun e w' => e = .returned (.bool (lgB ns most)) ∧ w' = w := by
  have H := hid (fun (j : Nat) (hj : j < ns.length) => h.cell hj)
  have HT : Hid (∀ j, j < ns.length → 500 < (ns.getD j []).length → lgB ns most = true) := hid (fun j hj h5 => by
    unfold lgB
    rw [Bool.or_eq_true]
    exact .inl (List.any_eq_true.2 ⟨ns.getD j [], by rw [getD_in _ _ _ hj]; exact List.getElem_mem hj, decide_eq_true h5⟩))
  have HF : Hid ((∀ j, j < ns.length → ¬ 500 < (ns.getD j []).length) → lgB ns most = decide (most < (ns.length : Int))) := hid (fun h5 => by
    unfold lgB
    rw [show ns.any (fun x => decide (500 < x.length)) = false from List.any_eq_false.2 fun x hx => by
      obtain ⟨j, hj, rfl⟩ := List.mem_iff_getElem.1 hx
      have := h5 j hj
      rw [getD_in _ _ _ hj] at this
      simpa using this]
    rfl)
  have HLS : Hid (∀ j, j < ns.length → (ns.getD j []).length ≤ maxLen) := hid (fun j hj => hls _ (by rw [getD_in _ _ _ hj]; exact List.getElem_mem hj))
  generalize lgB ns most = R at *
  unfold maxLen at *
  clear h hls
  go_enter Try.func13, Try.ntmps13
  go_wp2
  go_loopg [5] ns.length (fun gg v wr => ∃ j : Nat, j ≤ ns.length ∧ ns.length - j ≤ gg ∧ v = .int .i64 (j : Int) ∧ Hid (w = wr) ∧ Hid (∀ j', j' < j → ¬ 500 < (ns.getD j' []).length))
  case atStart => exact ⟨0, Nat.zero_le _, by omega, rfl, hid rfl, hid fun j' hj' => absurd hj' (Nat.not_lt_zero _)⟩
  case round =>
    obtain ⟨j, hj, hgg, rfl, BW, HJ⟩ := hrel
    have hwr := BW.out
    subst hwr
    clear BW
    by_cases hjl : j < ns.length
    · have hjl' : (j : Int) < (ns.length : Int) := by omega
      obtain ⟨b, o, hp, z1⟩ := H.out j hjl
      subst hp
      have hz := HLS.out j hjl
      have HT2 := hid (HT.out j hjl)
      have HN : Hid (¬ 500 < (ns.getD j []).length → ∀ j', j' < j + 1 → ¬ 500 < (ns.getD j' []).length) := hid (fun h5 j' hj' => if e : j' = j then (by rw [e]; exact h5) else HJ.out j' (by omega))
      clear HJ HT HF HLS H
      generalize ns.getD j [] = x at *
      by_cases h5 : (500 : Int) < (x.length : Int)
      · have hR := HT2.out (by omega)
        subst hR
        clear HT2 HN
        go_wp2
        go_ret
        exact ⟨rfl, rfl⟩
      · have HN2 := hid (HN.out (by omega))
        clear HT2 HN
        go_wp2
        go_roundg (ns.length - (j + 1))
        case measure => omega
        case rel => exact ⟨j + 1, by omega, by omega, by go_num, hid rfl, HN2⟩
    · have hjl' : ¬ (j : Int) < (ns.length : Int) := by omega
      have hR := HF.out (fun j' hj' => HJ.out j' (by omega))
      subst hR
      clear HT HF HLS H HJ
      go_wp2
      go_ret
      exact ⟨rfl, rfl⟩
end Go.Proofs.Ytkiojnledimihaa

/- Contracts of bytes.Clone and Read with what the spare room holds; of OverBytes and OverTexts. (Read is written by tools/gen_Kq.py.) -/
namespace Go.Proofs.Ytkiojnledimihaa
open Go Go.RowKit

section
variable {w : World} {S : Nat → Prop} {p m : Nat} {fu : Option Nat} {d : Pd} {L : List (Nm × Ent)}
end
theorem elem8 (w : World) : (sizeOf (Try.prog.elem 44)).run Try.prog w = .ok 1 w := by
  have hi : (Try.prog.info? (Try.prog.elem 44)).map (·.size) = some 1 := by kernel_rfl
  obtain ⟨i, h1, h2⟩ := Option.map_eq_some_iff.1 hi
  simp [sizeOf, typeInfo, h1, h2]
theorem elemT (w : World) : (sizeOf (Try.prog.elem 30)).run Try.prog w = .ok 1 w := by
  have hi : (Try.prog.info? (Try.prog.elem 30)).map (·.size) = some 1 := by kernel_rfl
  obtain ⟨i, h1, h2⟩ := Option.map_eq_some_iff.1 hi
  simp [sizeOf, typeInfo, h1, h2]
theorem underE8 : Try.prog.underlying 44 = some (.slice (Try.prog.elem 44)) := by kernel_rfl
theorem underET : Try.prog.underlying 30 = some (.slice (Try.prog.elem 30)) := by kernel_rfl
theorem run_cap8 (g n c : Nat) (w : World) : (Instr.slice 44 (.slice (some ⟨g, 0, none⟩) n c) none (some (.int .i64 (c : Int))) none).run Try.prog w = .ok (.slice (some ⟨g, 0, none⟩) c c) w := by
  rw [run_slice_h (P := Try.prog) w 44 _ n c underE8 .i64 (c : Int) (by omega) (by omega), elem8]
  by_cases h0 : c = 0
  · simp [Result.andThen, sliced, h0]
  · simp [Result.andThen, sliced, h0, Addr.add]
theorem run_capT (g n c : Nat) (w : World) : (Instr.slice 30 (.slice (some ⟨g, 0, none⟩) n c) none (some (.int .i64 (c : Int))) none).run Try.prog w = .ok (.slice (some ⟨g, 0, none⟩) c c) w := by
  rw [run_slice_h (P := Try.prog) w 30 _ n c underET .i64 (c : Int) (by omega) (by omega), elemT]
  by_cases h0 : c = 0
  · simp [Result.andThen, sliced, h0]
  · simp [Result.andThen, sliced, h0, Addr.add]
/-- c cells of a block, each of which is such, and may be written. -/
structure CellsQ (Q : Value → Prop) (w : World) (g c : Nat) : Prop where
  c : ∀ i, i < c → ∃ u, Q u ∧ w.cell? ⟨g, i, none⟩ = some u
  f : ∀ i, w.frozen? ⟨g, i, none⟩ = false
theorem CellsQ.set {Q : Value → Prop} {w : World} {g c : Nat} (h : CellsQ Q w g c) (k : Nat) (u : Value) (hu : Q u) : CellsQ Q (w.setCell ⟨g, k, none⟩ u) g c :=
  ⟨fun i hi => by
    obtain ⟨x, hx, hc⟩ := h.c i hi
    by_cases e : i = k
    · subst e; exact ⟨u, hu, World.cell?_setCell_same _ _ _ hc⟩
    · exact ⟨x, hx, by rw [World.cell?_setCell_other _ _ _ _ (by intro h2; cases h2; exact e rfl)]; exact hc⟩, fun i => by rw [World.frozen?_setCell]; exact h.f i⟩
theorem overT_nil (w : World) : Calls Try.prog 18 #[.slice none 0 0] w fun e w' => e = .returned (.tuple #[]) ∧ w' = w := by
  go_enter Try.func18, Try.ntmps18
  go_wp2
  refine wp_loop_rounds 1 ?_
  rw [rounds_succ]
  go_wp2
  go_end0
  exact ⟨rfl, rfl⟩
set_option maxRecDepth 100000 in
set_option maxHeartbeats 1000000 in
theorem overT_any (g n c : Nat) (w : World) (hn : c ≤ maxLen) (h : CellsQ QS w g c) :
    Calls Try.prog 18 #[.slice (some ⟨g, 0, none⟩) n c] w fun e w' => e = .returned (.tuple #[]) ∧ Only (fun b => b = g) w w' := by
  have hs := run_capT g n c
  have H := hid h
  have hn' : c ≤ 9223372036854775807 := hn
  clear h hn
  go_enter Try.func18, Try.ntmps18
  go_wp2
  clear hs
  go_loopw [3] (fun i wr => ∃ k : Nat, k ≤ c ∧ i = .int .i64 k ∧ Only (fun b => b = g) w wr ∧ CellsQ (fun _ => True) wr g c ∧ ∀ j, k ≤ j → wr.cell? ⟨g, j, none⟩ = w.cell? ⟨g, j, none⟩) (fun i _ => (c - intOf i).toNat)
  case atStart => exact ⟨0, by omega, rfl, Only.refl _ _, ⟨fun i hi => by obtain ⟨u, _, hc⟩ := H.out.c i hi; exact ⟨u, trivial, hc⟩, H.out.f⟩, fun _ _ => rfl⟩
  case round =>
    obtain ⟨k, hk, rfl, ho, hr, hsame⟩ := hrel
    by_cases hlt : k < c
    · have hlt' : (k : Int) < (c : Int) := by omega
      obtain ⟨u, ⟨s, rfl, hz⟩, hcz⟩ := H.out.c k hlt
      have hcz2 := (hsame k (Nat.le_refl _)).trans hcz
      have hfz := hr.f k
      have hsz : (⟨s.toArray⟩ : ByteArray).size ≤ 512 := by simpa [ByteArray.size] using hz
      unfold sv at hcz2
      generalize (⟨s.toArray⟩ : ByteArray) = X at *
      have HO := hid ho
      have HR := hid hr
      have HS := hid hsame
      clear hr ho hsame hcz
      go_wp2
      go_roundw
      case rel => exact ⟨k + 1, by omega, by go_num, HO.out.trans (Only.set (S := fun b => b = g) wr ⟨g, k, none⟩ _ rfl), HR.out.set k _ trivial, fun j hj => by rw [World.cell?_setCell_other _ _ _ _ (by intro h2; cases h2; omega)]; exact HS.out j (by omega)⟩
      case measure => simp [intOf]; omega
    · have hlt' : ¬ (k : Int) < (c : Int) := by omega
      have HO := hid ho
      clear hr ho hsame
      go_wp2
      go_end0
      exact ⟨rfl, HO.out⟩
/-- A row of one's own is such cells. -/
theorem cells_of {Q : Value → Prop} {w : World} {B e n : Nat} {v : Value} {xs : List Value} (h : w.ownsRow B e 1 v n xs) (hq : AllQ Q e w v) : v = .slice none 0 0 ∨ ∃ g c, v = .slice (some ⟨g, 0, none⟩) n c ∧ B ≤ g ∧ c ≤ maxLen ∧ CellsQ Q w g c := by
  rcases h.2 with ⟨h1, _⟩ | ⟨g, cap, cur, rfl, hB, hg, _, hm, hs, _⟩
  · exact Or.inl h1
  · have hc : CAt w g cur e := hg
    refine Or.inr ⟨g, cap, rfl, hB, hm, fun i hi => ?_, fun i => hc.free i⟩
    have hi2 : i < cur.size := by omega
    exact ⟨cur[i], hq g rfl cur hg _ (by simp), by rw [hc.cell, Array.getElem?_eq_getElem hi2]⟩
end Go.Proofs.Ytkiojnledimihaa

/- Two drives beside one another, of either kind, with fuses of their own or one together. -/
namespace Go.Proofs.Ytkiojnledimihaa
open Go Go.RowKit

abbrev DrP := World → (Nat → Prop) → Nat → Option Nat → Pd → Prop
def FuG (tf : TypeId) (w : World) (S : Nat → Prop) : Option Nat → Fs → Prop
  | none, none => True
  | some q, some (n, g) => CAt w q #[.int .i64 (n : Int), .bool g] tf ∧ ¬ S q ∧ n ≤ 9223372036854775807
  | _, _ => False
structure G2 (DA : DrP) (tf : TypeId) (w wr : World) (a b : Dl) (Sa Sb : Nat → Prop) (Z : Nat → Nat × Bool) : Prop where
  da : DA wr Sa a.p a.fu a.d
  db : DA wr Sb b.p b.fu b.d
  fa : ∀ z, a.fu = some z → CAt wr z #[.int .i64 ((Z z).1 : Int), .bool (Z z).2] tf ∧ (Z z).1 ≤ 9223372036854775807 ∧ w.heap.size ≤ z ∧ ¬ Sa z ∧ ¬ Sb z
  fb : ∀ z, b.fu = some z → CAt wr z #[.int .i64 ((Z z).1 : Int), .bool (Z z).2] tf ∧ (Z z).1 ≤ 9223372036854775807 ∧ w.heap.size ≤ z ∧ ¬ Sa z ∧ ¬ Sb z
  dj : ∀ c, Sa c → ¬ Sb c
  ga : ∀ c, Sa c → w.heap.size ≤ c
  gb : ∀ c, Sb c → w.heap.size ≤ c
section
variable {DA : DrP} {tf : TypeId} {w wr w' : World} {a b : Dl} {Sa Sb : Nat → Prop} {Z : Nat → Nat × Bool}
theorem G2.swap (h : G2 DA tf w wr a b Sa Sb Z) : G2 DA tf w wr b a Sb Sa Z :=
  ⟨h.db, h.da, fun z e => by obtain ⟨h1, h2, h3, h4, h5⟩ := h.fb z e; exact ⟨h1, h2, h3, h5, h4⟩, fun z e => by obtain ⟨h1, h2, h3, h4, h5⟩ := h.fa z e; exact ⟨h1, h2, h3, h5, h4⟩, fun c h1 h2 => h.dj c h2 h1, h.gb, h.ga⟩
theorem G2.fu (h : G2 DA tf w wr a b Sa Sb Z) : FuG tf wr Sa a.fu (a.fu.map Z) := by
  cases hq : a.fu with
  | none => exact trivial
  | some q => obtain ⟨h1, h2, _, h4, _⟩ := h.fa q hq; exact ⟨h1, h4, h2⟩
end
section
variable {w wr w' : World} {a b a' b' : Dl} {Z ZR : Nat → Nat × Bool} {T Sa Sb Ra Rb : Nat → Prop}
end


end Go.Proofs.Ytkiojnledimihaa

/- SameBools; a set of drives with the list of them; the examples (awake). -/
namespace Go.Proofs.Ytkiojnledimihaa
open Go Go.RowKit Go.Shelf

/-- Bools in memory. -/
def BoAt (w : World) (v : Value) (n : Nat) (g : Nat → Bool) : Prop := ∃ po c, v = .slice po n c ∧ (n = 0 ∨ ∃ b, po = some ⟨b, 0, none⟩ ∧ ∀ i, i < n → w.cell? ⟨b, i, none⟩ = some (.bool (g i)))
theorem BoAt.below {w w' : World} {v : Value} {n : Nat} {g : Nat → Bool} (h : BoAt w v n g) (hb : Below w.heap.size w w') : BoAt w' v n g := by
  obtain ⟨po, c, rfl, h⟩ := h
  refine ⟨po, c, rfl, ?_⟩
  rcases h with h | ⟨b, rfl, h⟩
  · exact .inl h
  · exact .inr ⟨b, rfl, fun i hi => (World.cell?_of_block (hb.block b (cell_lt2 (h i hi)))).trans (h i hi)⟩
section
variable {w W W' : World} {T : Nat → Prop} {lv : Value} {k : Nat} {p : Nat → Nat} {X X2 : FS}
end
theorem StrAt.below {w w' : World} {po : Option Addr} {n : Nat} {x : Nat → Nat} (h : StrAt w po n x) (hb : Below w.heap.size w w') : StrAt w' po n x := by
  rcases h with h | ⟨b, o, rfl, h⟩
  · exact .inl h
  · exact .inr ⟨b, o, rfl, fun i hi => (World.cell?_of_block (hb.block b (cell_lt2 (h i hi)))).trans (h i hi)⟩
end Go.Proofs.Ytkiojnledimihaa

/- A set of drives beside the document's; what both leave alone. -/
namespace Go.Proofs.Ytkiojnledimihaa
open Go Go.RowKit Go.Shelf

def Kz (Z : Nat → Prop) (W W' : World) : Prop := ∀ b, Z b → W'.heap[b]? = W.heap[b]?
theorem Kz.trans {Z : Nat → Prop} {A B C : World} (h : Kz Z A B) (g : Kz Z B C) : Kz Z A C := fun b hb => (g b hb).trans (h b hb)
section
variable {w W W' : World} {k : Nat} {p q : Nat → Nat} {X Y X2 Y2 : FS} {dv wv : Value} {Z : Nat → Prop}
end
end Go.Proofs.Ytkiojnledimihaa

/- Files of the statements (three, some of them): as they came in; large, list. -/
namespace Go.Proofs.Ytkiojnledimihaa
open Go Go.RowKit Go.Shelf

/-- Bytes that came in. -/
structure BV where
  po : Option Addr
  c : Nat
  bs : List Nat
abbrev BV.v (x : BV) : Value := .slice x.po x.bs.length x.c
structure BV.ok (w : World) (x : BV) : Prop where
  b8 : ∀ y ∈ x.bs, y < 256
  bt : BAt w x.po x.bs
structure FilV where
  a : BV
  b : BV
  c : BV
  has : Int
structure FilV.ok (w : World) (x : FilV) : Prop where
  a : x.a.ok w
  b : x.b.ok w
  c : x.c.ok w
end Go.Proofs.Ytkiojnledimihaa
