/- Contract of sweep of package matrix: the rows are swept as the plain mathematics says, the pivots' columns are told in order; nothing else that was there is touched. -/
import Derived.Test.YtapgdenodhcliaaMg
import Derived.WalkMore
import Derived.Deep.LoopGhost
namespace Go.Proofs.Ytapgdenodhcliaa
open Go.RowKit

theorem own_at {w : World} {B e n b : Nat} {v : Value} {xs : List Value} (h : w.ownsRow B e 1 v n xs) (hv : v.ownBlock = some b) : ∃ cur, w.heap[b]? = some (.cells cur e (0, 0)) := by
  rcases h.2 with ⟨h, _⟩ | ⟨g', cap, cur, q, _, hg, _⟩
  · subst h; cases hv
  · subst q; cases hv; exact ⟨cur, hg⟩
theorem own_keepV {w w' : World} {B e n : Nat} {v : Value} {xs : List Value} (h : w.ownsRow B e 1 v n xs) (hb : ∀ b, v.ownBlock = some b → w'.heap[b]? = w.heap[b]?) : w'.ownsRow B e 1 v n xs := by
  refine ⟨h.1, ?_⟩
  rcases h.2 with h2 | ⟨g', cap, cur, hv, h1, h2, h3⟩
  · exact .inl h2
  · exact .inr ⟨g', cap, cur, hv, h1, (hb g' (by rw [hv]; rfl)).trans h2, h3⟩
theorem own_ne {w : World} {B B' e e' n n' b : Nat} {v v' : Value} {xs ys : List Value} (h : w.ownsRow B e 1 v n xs) (h' : w.ownsRow B' e' 1 v' n' ys) (he : e ≠ e') (hv : v.ownBlock = some b) : v'.ownBlock ≠ some b := by
  intro q
  obtain ⟨cur, h1⟩ := own_at h hv
  obtain ⟨cur', h2⟩ := own_at h' q
  rw [h1] at h2; simp at h2; exact he h2.2
theorem OwnMat.grown {B B' e k : Nat} {w w' : World} {g c n m : Nat} {G Q : Nat → Nat} {X : Nat → Nat → K} {v : Value} {xs : List Value} (h : OwnMat B w g c n m G Q X) (hg : w.grownBy w' v.ownBlock) (hv : w.ownsRow B' e 1 v k xs) (h1 : e ≠ 22) (h2 : e ≠ 5) : OwnMat B w' g c n m G Q X where
  top := own_keepV h.top (fun b hb => hg.block b (by cases hb; exact (own_ge h.top).2) (fun q => own_ne h.top hv (fun z => h1 z.symm) hb q.symm))
  row := fun i hi => own_keepV (h.row i hi) (fun b hb => hg.block b (by cases hb; exact (h.ge i hi).2) (fun q => own_ne (h.row i hi) hv (fun z => h2 z.symm) hb q.symm))
  inj := h.inj
theorem OwnMat.setOther {B B' e k : Nat} {w : World} {g c n m b j : Nat} {G Q : Nat → Nat} {X : Nat → Nat → K} {v : Value} {xs : List Value} (h : OwnMat B w g c n m G Q X) (hv : w.ownsRow B' e 1 v k xs) (h1 : e ≠ 22) (h2 : e ≠ 5) (hb : v.ownBlock = some b) (u : Value) : OwnMat B (w.setCell ⟨b, j, none⟩ u) g c n m G Q X where
  top := ownsRow_setCell_other h.top (fun q => own_ne h.top hv (fun z => h1 z.symm) q hb) _
  row := fun i hi => ownsRow_setCell_other (h.row i hi) (fun q => own_ne (h.row i hi) hv (fun z => h2 z.symm) q hb) _
  inj := h.inj
theorem own_only {B B' e k : Nat} {w w' : World} {g c n m : Nat} {G Q : Nat → Nat} {X : Nat → Nat → K} {v : Value} {xs : List Value} (hv : w.ownsRow B' e 1 v k xs) (h : OwnMat B w g c n m G Q X) (ho : OnlyIn (fun b => ∃ r, r < n ∧ b = G r) w w') (h2 : e ≠ 5) : w'.ownsRow B' e 1 v k xs :=
  own_keepV hv (fun b hb => ho.block b (fun ⟨r, hr, q⟩ => own_ne hv (h.row r hr) h2 hb (by rw [q]; rfl)))
theorem own_len {w : World} {B e n : Nat} {v : Value} {xs : List Value} (h : w.ownsRow B e 1 v n xs) : ∃ p c, v = .slice p n c ∧ n ≤ c := by
  rcases h.2 with ⟨h, h2⟩ | ⟨g', cap, cur, q, _, _, hc, _⟩
  · exact ⟨none, 0, by rw [h2]; exact h, by omega⟩
  · exact ⟨_, cap, q, hc⟩

/-- The pivots as values. -/
def pivV (l : List Nat) : List Value := l.map fun x => .int .i64 ((x : Nat) : Int)
/-- Which columns were exchanged, as values. -/
def boolV (Q : Nat → Option Nat) : List Value := vals 32 fun j => .bool (Q j).isSome
theorem boolV_put (Q : Nat → Option Nat) (j i : Nat) : (boolV Q).set j (.bool true) = boolV (put Q j (some i)) := by
  unfold boolV; rw [vals_set]
  refine vals_congr (fun r _ => ?_)
  unfold upd put
  by_cases e : r = j
  · rw [if_pos e, if_pos e]; rfl
  · rw [if_neg e, if_neg e]
theorem pcol_skip {T : Nat → Nat → K} {Q : Nat → Option Nat} {i f j : Nat} (h : (Q j).isSome = true ∨ T i j = 0) : pcol T Q i (f + 1) j = pcol T Q i f (j + 1) := by
  show (if (Q j).isSome = true ∨ T i j = 0 then pcol T Q i f (j + 1) else some j) = _
  rw [if_pos h]
theorem pcol_hit {T : Nat → Nat → K} {Q : Nat → Option Nat} {i f j : Nat} (h : ¬ ((Q j).isSome = true ∨ T i j = 0)) : pcol T Q i (f + 1) j = some j := by
  show (if (Q j).isSome = true ∨ T i j = 0 then pcol T Q i f (j + 1) else some j) = _
  rw [if_neg h]

/-- What holds when the sweep has come to row k. -/
structure SwAt (B eb : Nat) (w wr : World) (g c n m : Nat) (G Q : Nat → Nat) (s : Sw) (v : Value) : Prop where
  mat : OwnMat B wr g c n m G Q s.T
  ex : wr.ownsRow w.heap.size 85 1 (.slice (some ⟨eb, 0, none⟩) 32 32) 32 (boolV s.Q)
  pv : wr.ownsRow w.heap.size 3 1 v s.l.length (pivV s.l)
  bel : Below B w wr

theorem SwAt.next {B eb : Nat} {w wr w2 w4 : World} {g c n m : Nat} {G Q : Nat → Nat} {s : Sw} {u v : Value} {T2 : Nat → Nat → K} {P2 : Nat → Option Nat} {j k : Nat} {o : Obj} (hs : SwAt B eb w wr g c n m G Q s u) (hB : B ≤ w.heap.size)
    (hm : OwnMat B w2 g c n m G Q T2) (ho : OnlyIn (fun b => ∃ r, r < n ∧ b = G r) wr w2) (hg : ((w2.setCell ⟨eb, j, none⟩ (.bool true)).alloc o).grownBy w4 u.ownBlock) (hv : w4.ownsRow w.heap.size 3 1 v (s.l.length + 1) (pivV s.l ++ [.int .i64 ((j : Nat) : Int)])) :
    SwAt B eb w w4 g c n m G Q ⟨T2, P2, put s.Q j (some k), s.l ++ [j]⟩ v := by
  have ex2 := own_only hs.ex hs.mat ho (by decide)
  have pv2 := own_only hs.pv hs.mat ho (by decide)
  have bel2 := ho.below hs.bel (fun b ⟨r, hr, q⟩ => by rw [q]; exact (hs.mat.ge r hr).1)
  have ex3 := (ex2.stored j (.bool true)).1
  rw [boolV_put _ j k] at ex3
  have pv3 := ownsRow_setCell_other pv2 (a := ⟨eb, j, none⟩) (fun q => own_ne pv2 ex2 (by decide) q rfl) (.bool true)
  have mat3 := hm.setOther ex2 (by decide) (by decide) (b := eb) (j := j) rfl (.bool true)
  have heb := own_ge hs.ex
  have bel3 := bel2.setCell (p := ⟨eb, j, none⟩) (by show B ≤ eb; omega) (.bool true)
  have hsz := bel3.size
  have mat4 : OwnMat B ((w2.setCell ⟨eb, j, none⟩ (.bool true)).alloc o) g c n m G Q T2 := mat3.keep (fun b hb => Below.heap_alloc _ _ _ hb)
  refine ⟨mat4.grown hg (pv3.alloc o) (by decide) (by decide), ?_, ?_, ?_⟩
  · exact own_keepV (ex3.alloc o) (fun b hb => hg.block b (by cases hb; exact (own_ge (ex3.alloc o)).2) (fun q => own_ne (ex3.alloc o) (pv3.alloc o) (by decide) hb q.symm))
  · show w4.ownsRow w.heap.size 3 1 v (s.l ++ [j]).length (pivV (s.l ++ [j]))
    have e1 : (s.l ++ [j]).length = s.l.length + 1 := by simp
    have e2 : pivV (s.l ++ [j]) = pivV s.l ++ [.int .i64 ((j : Nat) : Int)] := by simp [pivV]
    rw [e1, e2]; exact hv
  · have hz : (w2.setCell ⟨eb, j, none⟩ (.bool true)).heap.size ≤ ((w2.setCell ⟨eb, j, none⟩ (.bool true)).alloc o).heap.size := by simp
    exact Below.grown (bel3.alloc (by omega) o) hg (by omega) (fun b hb => by have := (pv3.lt b hb).1; omega)

set_option maxRecDepth 100000 in
set_option maxHeartbeats 8000000 in
theorem sweep_any (B g c n m : Nat) (G Q : Nat → Nat) (T : Nat → Nat → K) (w : World) (h : OwnMat B w g c n m G Q T) (hn : n ≤ 32) (h1 : 1 ≤ m) (hm : m ≤ 32) :
    Calls Try.prog 73 #[.slice (some ⟨g, 0, none⟩) n c] w fun e w' => ∃ v, e = .returned v ∧ OwnMat B w' g c n m G Q (sw T m n).T ∧ w'.ownsRow w.heap.size 3 1 v (sw T m n).l.length (pivV (sw T m n).l) ∧ Below B w w' := by
  obtain ⟨i0, hi0, hz0, hz1, hz2⟩ := info_parts Try.info3
  have hBw : B ≤ w.heap.size := by have := own_ge h.top; omega
  have hlit := World.ownsRow_lit (base := w.heap.size) (e := 85) (size := 1) w #[.bool false, .bool false, .bool false, .bool false, .bool false, .bool false, .bool false, .bool false, .bool false, .bool false, .bool false, .bool false, .bool false, .bool false, .bool false, .bool false, .bool false, .bool false, .bool false, .bool false, .bool false, .bool false, .bool false, .bool false, .bool false, .bool false, .bool false, .bool false, .bool false, .bool false, .bool false, .bool false] 32 (Nat.le_refl _) (by unfold maxLen; omega) rfl
  have HS : Hid (SwAt B w.heap.size w _ g c n m G Q (sw T m 0) (.slice none 0 0)) := ⟨h.keep (fun b hb => Below.heap_alloc _ _ _ hb), hlit, World.ownsRow_nil _ _ _ _, (Below.refl _ _).alloc hBw _⟩
  clear h hlit
  go_enter Try.func73, Try.ntmps73
  go_wp2_with fail
  go_step3
  go_wp2_with fail
  go_step3
  go_wp2_with fail
  go_loopg [3, 10] n (fun gk v i wr => ∃ k : Nat, k ≤ n ∧ gk = n - k ∧ i = .int .i64 k ∧ SwAt B w.heap.size w wr g c n m G Q (sw T m k) v)
  case atStart => exact ⟨0, by omega, rfl, rfl, HS.out⟩
  case round =>
    clear HS
    obtain ⟨k, hk, hgk, rfl, hs⟩ := hrel
    have HG := hid hgk
    clear hgk
    by_cases hlt : k < n
    · have c1 := hs.mat.topCell k hlt
      have HS := hid hs
      have HP0 : Hid (pcol (sw T m k).T (sw T m k).Q k (m - 0) 0 = pcol (sw T m k).T (sw T m k).Q k m 0) := rfl
      clear hs
      go_wp2_with fail
      go_loopg [7] m (fun gj x wy => ∃ j : Nat, j < m ∧ gj = m - j ∧ x = .int .i64 j ∧ wy = wr ∧ pcol (sw T m k).T (sw T m k).Q k (m - j) j = pcol (sw T m k).T (sw T m k).Q k m 0)
      case atStart => exact ⟨0, by omega, rfl, rfl, rfl, HP0.out⟩
      case round =>
        clear c1 HP0
        obtain ⟨j, hj, hgj, rfl, hwy, hp⟩ := hrel
        subst hwy
        have e1 : wr.cell? ⟨w.heap.size, j, none⟩ = some (.bool ((sw T m k).Q j).isSome) := own_cell (V := fun j => .bool ((sw T m k).Q j).isSome) HS.out.ex j (by omega)
        have e2 := HS.out.mat.cell k j hlt hj
        have HGJ := hid hgj
        rw [show m - j = (m - (j + 1)) + 1 by omega] at hp
        clear hgj
        by_cases hq : ((sw T m k).Q j).isSome = true
        · have HP := hid ((pcol_skip (T := (sw T m k).T) (i := k) (f := m - (j + 1)) (Or.inl hq)).symm.trans hp)
          rw [hq] at e1
          clear hp e2 hq
          by_cases hjm : j + 1 = m
          · have hjm' : (((j : Int) + 1) == (m : Int)) = true := by simp; omega
            have HN : Hid (sw T m (k + 1) = sw T m k) := sw_none (by have := HP.out; rw [← this, show m - (j + 1) = 0 by omega]; rfl)
            clear hjm HP
            go_wp2
            go_roundg (n - (k + 1))
            case measure => have := HG.out; omega
            case rel => exact ⟨k + 1, by omega, rfl, by go_num, by rw [HN.out]; exact HS.out⟩
          · have hjm' : (((j : Int) + 1) == (m : Int)) = false := by simp; omega
            have hj2 : j + 1 < m := by omega
            clear hjm
            go_wp2
            go_roundg (m - (j + 1))
            case measure => have := HGJ.out; omega
            case rel => exact ⟨j + 1, by omega, rfl, by go_num, rfl, HP.out⟩
        · by_cases ht : (sw T m k).T k j = 0
          · have HP := hid ((pcol_skip (Q := (sw T m k).Q) (i := k) (f := m - (j + 1)) (Or.inr ht)).symm.trans hp)
            rw [show ((sw T m k).Q j).isSome = false from by simpa using hq] at e1
            have ht' : ((((sw T m k).T k j).val : Int) == 0) = true := by rw [ht]; rfl
            clear hp hq ht
            by_cases hjm : j + 1 = m
            · have hjm' : (((j : Int) + 1) == (m : Int)) = true := by simp; omega
              have HN : Hid (sw T m (k + 1) = sw T m k) := sw_none (by have := HP.out; rw [← this, show m - (j + 1) = 0 by omega]; rfl)
              clear hjm HP
              go_wp2
              go_roundg (n - (k + 1))
              case measure => have := HG.out; omega
              case rel => exact ⟨k + 1, by omega, rfl, by go_num, by rw [HN.out]; exact HS.out⟩
            · have hjm' : (((j : Int) + 1) == (m : Int)) = false := by simp; omega
              have hj2 : j + 1 < m := by omega
              clear hjm
              go_wp2
              go_roundg (m - (j + 1))
              case measure => have := HGJ.out; omega
              case rel => exact ⟨j + 1, by omega, rfl, by go_num, rfl, HP.out⟩
          · have hp2 : pcol (sw T m k).T (sw T m k).Q k m 0 = some j := hp.symm.trans (pcol_hit (fun z => z.elim hq ht))
            rw [show ((sw T m k).Q j).isSome = false from by simpa using hq] at e1
            have ht' : ((((sw T m k).T k j).val : Int) == 0) = false := by
              have := K.val_ne ht; simp; omega
            have HP := hid (sw_some hp2)
            clear hp hp2 hq ht
            go_wp2_with fail
            refine (exchange_any B g c n m k j G Q (sw T m k).T wr HS.out.mat hlt hj hn hm).mono ?_
            rintro e w2 ⟨rfl, hmat2, ho2⟩
            have ex2 := own_only HS.out.ex HS.out.mat ho2 (by decide)
            have pv2 := own_only HS.out.pv HS.out.mat ho2 (by decide)
            have f1 : w2.cell? ⟨w.heap.size, j, none⟩ = some (.bool ((sw T m k).Q j).isSome) := own_cell (V := fun j => .bool ((sw T m k).Q j).isSome) ex2 j (by omega)
            have f2 := ex2.frozenAt j
            have PV3 := hid (ownsRow_setCell_other pv2 (a := ⟨w.heap.size, j, none⟩) (fun q => own_ne pv2 ex2 (by decide) q rfl) (.bool true))
            have HM2 := hid hmat2
            have HO2 := hid ho2
            have hlen := (sw_inv T n m k (by omega)).len
            have hsz2 : w.heap.size ≤ w2.heap.size := by have := HS.out.bel.size; rw [ho2.size]; exact this
            have HN : Hid (∀ q u, [Value.int .i64 ((j : Nat) : Int)][q]? = some u → ((w2.setCell ⟨w.heap.size, j, none⟩ (.bool true)).alloc (.cells #[.int .i64 ((j : Nat) : Int)] 3)).cell? ((⟨w2.heap.size, 0, none⟩ : Addr).add q) = some u) := by
              have e : (w2.setCell ⟨w.heap.size, j, none⟩ (.bool true)).heap.size = w2.heap.size := by simp
              rw [← e]
              exact World.news_of_block (cs := #[.int .i64 ((j : Nat) : Int)]) (t := 3) (fr := (0, 0)) (heap_alloc_new _ _)
            clear ex2 pv2 hmat2 ho2 e1 e2
            go_wp2_with (at_builtin; refine wpList_append_lies _ rfl _ _ 46 rfl w.heap.size 3 i0 (.int .i64 0) 1 8 Try.underlying46 hi0 hz0 hz1 hz2 rfl (by omega) u3 (sw T m k).l.length (pivV (sw T m k).l) rfl (PV3.out.alloc _) ⟨w2.heap.size, 0, none⟩ 1 1 [.int .i64 ((j : Nat) : Int)] rfl rfl HN.out (by intro u hu; simp at hu; subst hu; rfl) (by omega) (by unfold maxLen; omega) (by omega) (by simp; omega) _ rfl ?_; intro gg cap w4 hown4 hgrow hat hlt4)
            have HX : Hid (SwAt B w.heap.size w w4 g c n m G Q (sw T m (k + 1)) (.slice (some ⟨gg, 0, none⟩) ((sw T m k).l.length + 1) cap)) := by
              rw [HP.out]; exact HS.out.next hBw HM2.out HO2.out hgrow hown4
            clear hown4 hgrow hat hlt4 f1 f2 HN HM2 HO2 PV3
            go_wp2
            go_roundg (n - (k + 1))
            case measure => have := HG.out; omega
            case rel => exact ⟨k + 1, by omega, rfl, by go_num, HX.out⟩
    · have e : k = n := by omega
      subst e
      have HS := hid hs
      clear hs
      go_wp2
      rw [Exit.noGoto_ret]
      go_ret
      exact ⟨u3, rfl, HS.out.mat, HS.out.pv, HS.out.bel⟩
end Go.Proofs.Ytapgdenodhcliaa
