/- Contracts of Large of the statements on stripe and of LentLists, KeptLists, LentBools, SameBools and KeptBools of the statements' kit: copies in new memory with marks behind them; of what reads as it was lent true is returned; what was there is as it was. -/
import Derived.Test.YtapgdenodhcliaaSy
namespace Go.Proofs.Ytapgdenodhcliaa
open Go.RowKit

/-- Large's answer. -/
def odd3 (l : Nat) : Bool := (decide (600 < l) && decide (l ≤ 65536)) || decide (70000 < l)
def big3 (n : Nat) (L : Nat → Nat) : Bool := decide (20 < n) || (List.range n).any fun i => odd3 (L i)
theorem big3_true {n : Nat} {L : Nat → Nat} (i : Nat) (hi : i < n) (h : odd3 (L i) = true) : big3 n L = true := by
  unfold big3; rw [Bool.or_eq_true]; right; rw [List.any_eq_true]; exact ⟨i, by simpa using hi, h⟩
theorem big3_long {n : Nat} {L : Nat → Nat} (h : 20 < n) : big3 n L = true := by unfold big3; simp [h]
theorem big3_false {n : Nat} {L : Nat → Nat} (h0 : n ≤ 20) (h : ∀ i, i < n → odd3 (L i) = false) : big3 n L = false := by
  unfold big3; rw [Bool.or_eq_false_iff]
  refine ⟨by simpa using h0, ?_⟩
  rw [List.any_eq_false]; intro i hi; rw [h i (by simpa using hi)]; decide
theorem odd3_not {l : Nat} (h : odd3 l = false) : l ≤ 600 ∨ (65536 < l ∧ l ≤ 70000) := by
  unfold odd3 at h; simp at h; omega
theorem big3_not {n : Nat} {L : Nat → Nat} (h : big3 n L = false) : n ≤ 20 ∧ ∀ i, i < n → L i ≤ 600 ∨ (65536 < L i ∧ L i ≤ 70000) := by
  refine ⟨?_, fun i hi => odd3_not ?_⟩
  · rcases Nat.lt_or_ge 20 n with q | q
    · rw [big3_long q] at h; cases h
    · exact q
  · cases q : odd3 (L i) with
    | false => rfl
    | true => rw [big3_true i hi q] at h; cases h

set_option maxRecDepth 100000 in
set_option maxHeartbeats 1000000 in
theorem large3_any (p : Option Addr) (n c : Nat) (A : Nat → Option Addr) (L C : Nat → Nat) (w : World) (h : TopAt w p n A L C) :
    Calls Try.prog 18 #[.slice p n c] w fun e w' => e = .returned (.bool (big3 n L)) ∧ w' = w := by
  by_cases hn : 20 < n
  · have HB := hid (big3_long (L := L) hn)
    go_enter Try.func18, Try.ntmps18
    go_wp2
    go_ret
    exact ⟨ret_bool HB.out.symm, rfl⟩
  · go_enter Try.func18, Try.ntmps18
    go_wp2
    go_loop [3] (fun i => ∃ k : Nat, k ≤ n ∧ i = .int .i64 k ∧ ∀ j, j < k → odd3 (L j) = false) (fun i => (n - intOf i).toNat)
    case atStart => exact ⟨0, by omega, rfl, fun j hj => absurd hj (by omega)⟩
    case round =>
      obtain ⟨k, hk, rfl, hs⟩ := hrel
      by_cases hlt : k < n
      · obtain ⟨b, o, rfl, hc⟩ := h.pos (by omega)
        have c1 := hc k hlt
        clear h hc
        by_cases q1 : 70000 < L k
        · have HB := hid (big3_true (L := L) k hlt (by unfold odd3; simp [q1]))
          have q2 : ¬ L k ≤ 65536 := by omega
          have q3 : 600 < L k := by omega
          clear hs
          go_wp2
          go_ret
          exact ⟨ret_bool HB.out.symm, rfl⟩
        by_cases q2 : L k ≤ 65536
        · by_cases q3 : 600 < L k
          · have HB := hid (big3_true (L := L) k hlt (by unfold odd3; simp [q2, q3]))
            clear hs
            go_wp2
            go_ret
            exact ⟨ret_bool HB.out.symm, rfl⟩
          · have HS : Hid (∀ j, j < k + 1 → odd3 (L j) = false) := fun j hj => by
              by_cases e : j = k
              · subst e; unfold odd3; simp [q3, q1]
              · exact hs j (by omega)
            clear hs
            go_wp2
            go_round
            case rel => exact ⟨k + 1, by omega, by go_num, HS.out⟩
            case measure => simp [intOf]; omega
        · have q3 : 600 < L k := by omega
          have HS : Hid (∀ j, j < k + 1 → odd3 (L j) = false) := fun j hj => by
            by_cases e : j = k
            · subst e; unfold odd3; simp [q2, q1]
            · exact hs j (by omega)
          clear hs
          go_wp2
          go_round
          case rel => exact ⟨k + 1, by omega, by go_num, HS.out⟩
          case measure => simp [intOf]; omega
      · have HB := hid (big3_false (L := L) (n := n) (by omega) (fun i hi => hs i (by omega)))
        clear h hs
        go_wp2
        go_ret
        exact ⟨ret_bool HB.out.symm, rfl⟩

set_option maxRecDepth 100000 in
set_option maxHeartbeats 2000000 in
theorem lentLists2_any (p : Option Addr) (n c : Nat) (A : Nat → Option Addr) (L C : Nat → Nat) (X : Nat → Nat → K) (w : World) (hn : n ≤ 100) (hL : ∀ i, i < n → L i ≤ 70000) (h : MatAt w p n A L C X) :
    Calls Try.prog 19 #[.slice p n c] w fun e w' => ∃ v G, e = .returned v ∧ LentAt w.heap.size w' v n G L X ∧ Below w.heap.size w w' := by
  obtain ⟨i0, hi0, hz0, hz1, hz2⟩ := info_parts Try.info22
  have H := hid h
  have HL := hid hL
  clear h hL
  go_enter Try.func19, Try.ntmps19
  go_wp2
  go_loopw [3, 4] (fun v x wr => ∃ i : Nat, ∃ G : Nat → Nat, i ≤ n ∧ x = .int .i64 i ∧ LentAt w.heap.size wr v i G L X ∧ Below w.heap.size w wr) (fun _ x _ => (n - intOf x).toNat)
  case atStart => exact ⟨0, fun _ => 0, by omega, rfl, OwnV.start _ _ _ _ _ _ _ _, Below.refl _ _⟩
  case round =>
    obtain ⟨i, G, hi, rfl, hv, hb⟩ := hrel
    by_cases hlt : i < n
    · obtain ⟨b, o, rfl, hc⟩ := H.out.top.pos (by omega)
      have hsz := hb.size
      have c1 := Stays.of_below hb _ _ (hc i hlt)
      have s1 := (H.out.row i hlt).keep (Stays.of_below hb)
      have hLi := HL.out i hlt
      have HV := hid hv
      have HB := hid hb
      have S1 := hid s1
      clear hv hb s1 hc H HL
      go_wp2_with fail
      refine (lentB_any (A i) (L i) (C i) (X i) wr (by omega) S1.out).mono ?_
      rintro e w1 ⟨rfl, hmk⟩
      have HB1 := hid hmk.bel
      have HR1 := hid hmk.row
      have HT := hid (HV.out.top_alloc HB1.out (.cells #[.slice (some ⟨wr.heap.size, 0, none⟩) (L i) (L i + 3)] 22))
      have HN := hid (news_one w1 (.slice (some ⟨wr.heap.size, 0, none⟩) (L i) (L i + 3)))
      have hsz1 := HB1.out.size
      clear hmk
      go_wp2_with (at_builtin; refine wpList_append_lies _ rfl _ _ 24 rfl w.heap.size 22 i0 (.slice none 0 0) 1 24 Try.underlying24 hi0 hz0 hz1 hz2 rfl (by omega) u3 i _ rfl HT.out ⟨w1.heap.size, 0, none⟩ 1 1 [.slice (some ⟨wr.heap.size, 0, none⟩) (L i) (L i + 3)] rfl rfl HN.out (by intro u hu; simp at hu; subst hu; rfl) (by omega) (by unfold maxLen; omega) (by omega) (by simp; omega) _ rfl ?_; intro gg cap w4 hown4 hgrow hat hlt4)
      have HX := hid (HV.out.push HB1.out wr.heap.size (L i + 3) (L i + 3) (Nat.le_refl _) (own_base HR1.out hsz) hgrow hown4)
      have HBX := hid (HV.out.bound (HB.out.trans (HB1.out.mono hsz)) (by omega) hgrow)
      rw [upd_self (fun i => L i + 3) i] at HX
      clear hown4 hgrow hat hlt4 HT HN HR1 HB1 HV HB
      go_wp2
      go_roundw
      case rel => exact ⟨i + 1, _, by omega, by go_num, HX.out, HBX.out⟩
      case measure => simp [intOf]; omega
    · have e : i = n := by omega
      subst e
      have HV := hid hv
      have HB := hid hb
      clear hv hb H HL
      go_wp2
      go_ret
      exact ⟨u3, G, rfl, HV.out, HB.out⟩

set_option maxRecDepth 100000 in
set_option maxHeartbeats 2000000 in
theorem keptLists_any (B : Nat) (v : Value) (p : Option Addr) (n c : Nat) (G : Nat → Nat) (A : Nat → Option Addr) (L C : Nat → Nat) (X : Nat → Nat → K) (w : World) (hn : n ≤ 100) (hL : ∀ i, i < n → L i ≤ 70000) (h : LentAt B w v n G L X) (h' : MatAt w p n A L C X) :
    Calls Try.prog 28 #[v, .slice p n c] w fun e w' => e = .returned (.bool true) ∧ Below w.heap.size w w' := by
  obtain ⟨pv, cv, rfl, _⟩ := own_len h.top
  have H := hid h
  have H' := hid h'
  have HL := hid hL
  clear h h' hL
  go_enter Try.func28, Try.ntmps28
  go_wp2
  go_loopw [5] (fun i wr => ∃ k : Nat, k ≤ n ∧ i = .int .i64 k ∧ Below w.heap.size w wr) (fun i _ => (n - intOf i).toNat)
  case atStart => exact ⟨0, by omega, rfl, Below.refl _ _⟩
  case round =>
    obtain ⟨k, hk, rfl, hb⟩ := hrel
    have HB := hid hb
    by_cases hlt : k < n
    · have hlk := HL.out k hlt
      have hv := OwnV.stay H.out hb
      obtain ⟨gt, ct, hform, _, hgt⟩ := hv.top.form (by omega)
      cases hform
      have c1 := own_cell (V := fun i => .slice (some ⟨G i, 0, none⟩) (L i) (L i + 3)) hv.top k hlt
      obtain ⟨b', o', rfl, hc'⟩ := H'.out.top.pos (by omega)
      have c2 := Stays.of_below hb _ _ (hc' k hlt)
      have hrow := hv.row k hlt
      have hgk := (own_ge hrow).2
      have R1 : Hid (RowAt wr.drew (G k) 0 (L k + 3) (lentN (L k) fun j => (X k j).val)) := fun i hi => by
        rw [Nat.zero_add, ← lentK_val]; exact own_cell (V := fun c => kv (lentK (L k) (X k) c)) hrow i hi
      have S1 : Hid (StrAt wr.drew (A k) (L k) fun j => (X k j).val) := (H'.out.row k hlt).keep (Stays.of_below hb.drew)
      have hlt' : (k : Int) < (n : Int) := by omega
      clear H H' HL hc' hb hv hrow
      go_wp2_with fail
      go_region_held3 (fun w' => w'.cell? ⟨gt, k, none⟩ = some (.slice (some ⟨G k, 0, none⟩) (L k) (L k + 3)) ∧ w'.cell? ⟨b', o' + k, none⟩ = some (.slice (A k) (L k) (C k))) (first | exact ⟨Stays.of_below hb1 _ _ c1, Stays.of_below hb1 _ _ c2⟩ | exact ⟨c1, c2⟩ | go_keep) (first | (go_at_call 15; refine (kept_any (G k) (L k) (C k) (A k) (fun j => (X k j).val) _ hlk (by exact hgk) (by exact R1.out) (by exact S1.out)).mono ?_; rintro e w1 ⟨rfl, hb1⟩))
      have HB1 := hid (HB.out.then ((Below.refl _ _).drew.trans hb1))
      clear hb1 HB
      go_wp2
      go_roundw
      case rel => exact ⟨k + 1, by omega, by go_num, HB1.out⟩
      case measure => simp [intOf]; omega
    · have e : ((n : Int) == (n : Int)) = true := by simp
      clear H H' HL hb
      go_wp2
      go_ret
      exact ⟨rfl, HB.out⟩

/-- What a lent list of bools reads as, its spare room with it. -/
def lentH (n : Nat) (H : Nat → Bool) (j : Nat) : Bool := if j < n then H j else decide (j % 2 = 0)
theorem size35 (w : World) : (sizeOf (Try.prog.elem 35)).run Try.prog w = .ok 1 w := by
  obtain ⟨i0, hi0, hz0, hz1, hz2⟩ := info_parts Try.info4
  rw [show Try.prog.elem 35 = 4 by kernel_rfl]
  simp [sizeOf, typeInfo, hi0, hz1]
theorem under35 : Try.prog.underlying 35 = some (.slice (Try.prog.elem 35)) := by kernel_rfl
theorem run_hi35 (g n c k : Nat) (hk : k ≤ c) (w : World) : (Instr.slice 35 (.slice (some ⟨g, 0, none⟩) n c) none (some (.int .i64 (k : Int))) none).run Try.prog w = .ok (.slice (some ⟨g, 0, none⟩) k c) w := by
  rw [run_slice_h (P := Try.prog) w 35 (some ⟨g, 0, none⟩) n c under35 .i64 (k : Int) (by omega) (by omega), size35]
  simp [Result.andThen, sliced, Addr.add]
theorem own_bools {B g N : Nat} (V : Nat → Bool) : ∀ (n o : Nat) (w : World) (y : Nat → Bool), OwnB B w g N y →
    OwnB B (w.setCells g o ((List.range n).map fun i => .bool (V (o + i)))) g N (fun c => if o ≤ c ∧ c < o + n then V c else y c)
  | 0, o, w, y, h => h.congr (fun c _ => by rw [if_neg (by omega)])
  | n + 1, o, w, y, h => by
    have e : (List.range (n + 1)).map (fun i => Value.bool (V (o + i))) = .bool (V o) :: (List.range n).map (fun i => .bool (V ((o + 1) + i))) := by
      rw [List.range_succ_eq_map, List.map_cons, List.map_map]
      congr 1
      apply List.map_congr_left
      intro i _
      show Value.bool (V (o + (i + 1))) = Value.bool (V (o + 1 + i))
      rw [show o + (i + 1) = o + 1 + i by omega]
    rw [e]
    refine OwnB.congr (own_bools V n (o + 1) _ _ (h.set o (V o))) (fun c _ => ?_)
    unfold upd
    by_cases e1 : c = o
    · subst e1; rw [if_neg (by omega), if_pos rfl, if_pos (by omega)]
    · by_cases e2 : o + 1 ≤ c ∧ c < o + 1 + n
      · rw [if_pos e2, if_pos (by omega)]
      · rw [if_neg e2, if_neg e1, if_neg (by omega)]
theorem run_copyT (w : World) (g dl : Nat) (p : Option Addr) (n c : Nat) (H y : Nat → Bool) (B : Nat) (hH : BoolsAt w p n H) (ho : OwnB B w g dl y) (hn : n ≤ dl) (ty : TypeId) :
    (Builtin.copy_ #[35, 35] ty #[.slice (some ⟨g, 0, none⟩) dl dl, .slice p n c]).run Try.prog w = .ok (goInt ((n : Nat) : Int)) (w.setCells g 0 ((List.range n).map fun i => .bool (H (0 + i)))) := by
  by_cases h0 : n = 0
  · subst h0
    exact run_copy_none (P := Try.prog) _ 35 35 ty 4 _ _ _ _ _ _ Try.underlying35 (by kernel_rfl) (Nat.zero_min _)
  · rcases hH with h | ⟨b', o', rfl, hr⟩
    · omega
    · have hl : ((List.range n).map fun i => Value.bool (H (0 + i))).length = n := by simp
      have hg : ∀ j, j < n → ((List.range n).map fun i => Value.bool (H (0 + i)))[j]? = some (.bool (H j)) := fun j hj => by simp [hj]
      have := run_copy_cells (P := Try.prog) w 35 35 ty 4 g 0 dl dl ⟨b', o', none⟩ n c ((List.range n).map fun i => .bool (H (0 + i))) Try.underlying35 (by kernel_rfl) (by rw [hl]; exact (Nat.min_eq_left hn).symm)
        (fun j v hj => by
          have hjn : j < n := by
            rcases Nat.lt_or_ge j n with q | q
            · exact q
            · rw [List.getElem?_eq_none (by rw [hl]; exact q)] at hj; cases hj
          rw [hg j hjn] at hj
          cases hj
          rw [add_plain']; exact hr j hjn)
        (fun j hj => by rw [hl] at hj; rw [Nat.zero_add, own_cell (V := fun j => .bool (y j)) ho j (by omega)]; rfl)
        (fun j _ => by rw [Nat.zero_add]; exact World.ownsRow.frozenAt ho j)
        (fun v hv => by obtain ⟨i, _, rfl⟩ := List.mem_map.1 hv; rfl)
      rw [hl] at this
      exact this

/-- What LentBools leaves. -/
def LentT (n : Nat) (H : Nat → Bool) (w w' : World) (e : Ending) : Prop := e = .returned (.slice (some ⟨w.heap.size, 0, none⟩) n (n + 3)) ∧ OwnB w.heap.size w' w.heap.size (n + 3) (lentH n H) ∧ Below w.heap.size w w'
set_option maxRecDepth 100000 in
set_option maxHeartbeats 1000000 in
theorem lentT_any (p : Option Addr) (n c : Nat) (H : Nat → Bool) (w : World) (hn : n ≤ 1000) (hH : BoolsAt w p n H) :
    Calls Try.prog 20 #[.slice p n c] w fun e w' => LentT n H w w' e := by
  have hmk := run_make_bools (n + 3) (by omega) w
  rw [show ((n + 3 : Nat) : Int) = (n : Int) + 3 from by omega] at hmk
  have ho0 : OwnB w.heap.size (w.alloc (.cells (madeCells #[.bool false] (n + 3)) 4)) w.heap.size (n + 3) (fun _ => false) := own_made w 4 (.bool false) (n + 3) w.heap.size (by omega) (Nat.le_refl _)
  have hb0 : Below w.heap.size w (w.alloc (.cells (madeCells #[.bool false] (n + 3)) 4)) := (Below.refl _ _).alloc (Nat.le_refl _) _
  have hcp := run_copyT _ w.heap.size (n + 3) p n c H (fun _ => false) w.heap.size (hH.keep (Stays.of_below hb0)) ho0 (by omega)
  obtain ⟨W2, hW2⟩ : ∃ W2, W2 = (w.alloc (.cells (madeCells #[.bool false] (n + 3)) 4)).setCells w.heap.size 0 ((List.range n).map fun i => .bool (H (0 + i))) := ⟨_, rfl⟩
  have ho2 := own_bools H n 0 _ _ ho0
  have hon : OnlyIn (fun b => b = w.heap.size) (w.alloc (.cells (madeCells #[.bool false] (n + 3)) 4)) W2 := by rw [hW2]; exact OnlyIn.setCells _ _ _ _ _ (OnlyIn.refl _ _)
  rw [← hW2] at hcp ho2
  have HO := hid (ho2.congr (H' := fun j => if j < n then lentH n H j else false) (fun j _ => by
    by_cases q : j < n
    · rw [if_pos (by omega), if_pos q]; unfold lentH; rw [if_pos q]
    · rw [if_neg (by omega), if_neg q]))
  have HB := hid (hon.below hb0 (fun b hb => by rw [hb]; exact Nat.le_refl _))
  have hsl := run_hi35 w.heap.size (n + 3) (n + 3) n (by omega)
  have hcp' : ∀ ty, (Builtin.copy_ #[35, 35] ty #[.slice (some ⟨w.heap.size, 0, none⟩) (n + 3) (n + 3), .slice p n c]).run Try.prog (w.alloc (.cells (madeCells #[.bool false] (n + 3)) 4)) = .ok (goInt ((n : Nat) : Int)) W2 := hcp
  clear hcp ho2 hon ho0 hb0 hH hW2
  go_enter Try.func20, Try.ntmps20
  go_wp2
  clear hmk hcp'
  go_loopw [4] (fun i wr => ∃ k : Nat, n ≤ k ∧ k ≤ n + 3 ∧ i = .int .i64 k ∧ OwnB w.heap.size wr w.heap.size (n + 3) (fun j => if j < k then lentH n H j else false) ∧ Below w.heap.size w wr) (fun i _ => (n + 3 - intOf i).toNat)
  case atStart => exact ⟨n, by omega, by omega, rfl, HO.out, HB.out⟩
  case round =>
    obtain ⟨k, hk1, hk2, rfl, ho, hb⟩ := hrel
    clear HO HB
    by_cases hlt : k < n + 3
    · have c3 := own_cell (V := fun j => .bool (if j < k then lentH n H j else false)) ho k hlt
      have c4 := World.ownsRow.frozenAt ho k
      have HL : Hid (lentH n H k = ((k : Int) % 2 == 0)) := by
        show lentH n H k = ((k : Int) % 2 == 0)
        unfold lentH; rw [if_neg (by omega)]
        by_cases q : k % 2 = 0
        · have : (k : Int) % 2 = 0 := by omega
          simp [q, this]
        · have : ¬ (k : Int) % 2 = 0 := by omega
          simp [q, this]
      have HO := hid ((ho.set k (lentH n H k)).congr (H' := fun j => if j < k + 1 then lentH n H j else false) (fun j _ => by
        unfold upd
        by_cases e : j = k
        · subst e; rw [if_pos rfl, if_pos (by omega)]
        · rw [if_neg e]
          show (if j < k then lentH n H j else false) = _
          by_cases q : j < k
          · rw [if_pos q, if_pos (by omega)]
          · rw [if_neg q, if_neg (by omega)]))
      have HB := hid (hb.setCell (p := ⟨w.heap.size, k, none⟩) (Nat.le_refl _) (.bool (lentH n H k)))
      clear ho hb
      go_wp2
      go_roundw
      case rel => exact ⟨k + 1, by omega, by omega, by go_num, by rw [HL.out] at HO; exact HO.out, by rw [HL.out] at HB; exact HB.out⟩
      case measure => simp [intOf]; omega
    · have HO := hid (ho.congr (H' := lentH n H) (fun j hj => by rw [if_pos (by omega)]))
      have HB := hid hb
      clear ho hb
      go_wp2
      go_ret
      exact ⟨rfl, HO.out, HB.out⟩

set_option maxRecDepth 100000 in
set_option maxHeartbeats 1000000 in
theorem sameT_any (p q : Option Addr) (n c d : Nat) (H : Nat → Bool) (w : World) (hn : n ≤ 2000) (h : BoolsAt w p n H) (h' : BoolsAt w q n H) :
    Calls Try.prog 52 #[.slice p n c, .slice q n d] w fun e w' => e = .returned (.bool true) ∧ Below w.heap.size w w' := by
  have hne : ((n : Int) != (n : Int)) = false := by simp
  have HH := hid h
  have HH' := hid h'
  clear h h'
  go_enter Try.func52, Try.ntmps52
  go_wp2
  go_loopw [5] (fun i wr => ∃ k : Nat, k ≤ n ∧ i = .int .i64 k ∧ Below w.heap.size w wr) (fun i _ => (n - intOf i).toNat)
  case atStart => exact ⟨0, by omega, rfl, Below.refl _ _⟩
  case round =>
    obtain ⟨k, hk, rfl, hb⟩ := hrel
    have HB := hid hb
    by_cases hlt : k < n
    · obtain ⟨b, o, rfl, hc⟩ := HH.out.pos (by omega)
      obtain ⟨b', o', rfl, hc'⟩ := HH'.out.pos (by omega)
      have c1 := Stays.of_below hb _ _ (hc k hlt)
      have c2 := Stays.of_below hb _ _ (hc' k hlt)
      have hlt' : (k : Int) < (n : Int) := by omega
      clear HH HH' hc hc' hb
      cases hq : H k with
      | true =>
        rw [hq] at c1 c2
        go_wp2_with fail
        go_quiet (fail)
        go_wp2
        go_roundw
        case rel => exact ⟨k + 1, by omega, by go_num, below_drewN HB.out⟩
        case measure => simp [intOf]; omega
      | false =>
        rw [hq] at c1 c2
        go_wp2_with fail
        go_quiet (fail)
        go_wp2
        go_roundw
        case rel => exact ⟨k + 1, by omega, by go_num, below_drewN HB.out⟩
        case measure => simp [intOf]; omega
    · clear HH HH' hb
      go_wp2
      go_ret
      exact ⟨rfl, HB.out⟩
set_option maxRecDepth 100000 in
set_option maxHeartbeats 1000000 in
theorem keptT_any (B g n c : Nat) (p : Option Addr) (H : Nat → Bool) (w : World) (hn : n ≤ 1000) (ho : OwnB B w g (n + 3) (lentH n H)) (hH : BoolsAt w p n H) :
    Calls Try.prog 29 #[.slice (some ⟨g, 0, none⟩) n (n + 3), .slice p n c] w fun e w' => e = .returned (.bool true) ∧ Below w.heap.size w w' := by
  have O1 : Hid (BoolsAt w.drew (some ⟨g, 0, none⟩) (n + 3) (lentH n H)) := ho.at.keep (Stays.of_below (Below.refl _ _).drew)
  have S1 : Hid (BoolsAt w.drew p n H) := hH.keep (Stays.of_below (Below.refl _ _).drew)
  have h3 : (0 : Int) ≤ (n : Int) + 3 := by omega
  have hw3 : IntKind.i64.wrap ((n : Int) + 3) = (n : Int) + 3 := by rw [IntKind.wrap_i64]; omega
  have hs1 : ∀ w : World, (Instr.slice 35 (.slice (some ⟨g, 0, none⟩) n (n + 3)) none (some (.int .i64 ((n : Int) + 3))) none).run Try.prog w = .ok (.slice (some ⟨g, 0, none⟩) (n + 3) (n + 3)) w := fun w => run_hi35 g n (n + 3) (n + 3) (Nat.le_refl _) w
  have hs2 : ∀ (z : Nat) (w : World), (Instr.slice 35 (.slice (some ⟨z, 0, none⟩) n (n + 3)) none (some (.int .i64 ((n : Int) + 3))) none).run Try.prog w = .ok (.slice (some ⟨z, 0, none⟩) (n + 3) (n + 3)) w := fun z w => run_hi35 z n (n + 3) (n + 3) (Nat.le_refl _) w
  clear ho hH
  go_enter Try.func29, Try.ntmps29
  go_wp2_with fail
  go_region_held3 (fun w' => True) (trivial) (first | (go_at_call 20; refine (lentT_any p n c H _ hn (by exact S1.out)).mono ?_; rintro e w1 ⟨rfl, hol, hbl⟩) | (go_at_call 52; refine (sameT_any _ _ (n + 3) _ _ (lentH n H) _ (by omega) (by exact O1.out.keep (Stays.of_below hbl)) (by exact hol.at)).mono ?_; rintro e w2 ⟨rfl, hb2⟩))
  have hb1 : Below w.heap.size w w1 := (Below.refl _ _).drew.trans hbl
  have HB := hid (hb1.then hb2)
  clear hol hbl hb1 hb2
  go_wp2
  go_ret
  exact ⟨rfl, HB.out⟩
end Go.Proofs.Ytapgdenodhcliaa
