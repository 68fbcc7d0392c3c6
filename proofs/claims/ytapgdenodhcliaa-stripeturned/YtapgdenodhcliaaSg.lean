/- Contracts of bytes.Equal and slices.EqualFunc over rows of one length, and of all and joined of package stripe: whether rows read alike; shards laid one behind the other in new memory; what was there is as it was. -/
import Derived.Test.YtapgdenodhcliaaSf
namespace Go.Proofs.Ytapgdenodhcliaa
open Go.RowKit

theorem strN_inj {n : Nat} {x y : Nat → K} (h : strN n (fun j => (x j).val) = strN n (fun j => (y j).val)) (j : Nat) (hj : j < n) : x j = y j := by
  have h2 := congrArg (fun s : ByteArray => s.data.toList[j]?) h
  simp only [strN, strOfNums_data, List.map_map, List.getElem?_map, List.getElem?_range hj, Option.map_some, Function.comp_apply, Option.some.injEq] at h2
  have h3 := congrArg UInt8.toNat h2
  simp only [Int.toNat_natCast, UInt8.toNat_ofNat'] at h3
  have := (x j).lt
  have := (y j).lt
  exact K.ext (by omega)
/-- Do two rows read alike? -/
def eqB (n : Nat) (x y : Nat → K) : Bool := all2 1 n fun _ j => decide (x j = y j)
theorem eqB_true {n : Nat} {x y : Nat → K} (h : ∀ j, j < n → x j = y j) : eqB n x y = true := all2_true (fun _ _ j hj => decide_eq_true (h j hj))
theorem eqB_false {n : Nat} {x y : Nat → K} (h : ¬ ∀ j, j < n → x j = y j) : eqB n x y = false := all2_false (fun q => h (fun j hj => of_decide_eq_true (q 0 (by omega) j hj)))

set_option maxHeartbeats 400000 in
theorem bytesEq_any (p q : Option Addr) (n c d : Nat) (x y : Nat → K) (w : World) (hp : StrAt w p n fun j => (x j).val) (hq : StrAt w q n fun j => (y j).val) :
    Calls Try.prog 50 #[.slice p n c, .slice q n d] w fun e w' => e = .returned (.bool (eqB n x y)) ∧ w' = w := by
  by_cases h : ∀ j, j < n → x j = y j
  · have h1 := conv_str w p n c _ hp
    have h2 := conv_str w q n d _ (hq.congr (y := fun j => (x j).val) (fun j hj => by rw [h j hj]))
    have HE := hid (eqB_true h)
    clear hp hq h
    go_enter Try.func50, Try.ntmps50
    go_wp2
    go_ret
    exact ⟨ret_bool HE.out.symm, rfl⟩
  · have h1 := conv_str w p n c _ hp
    have h2 := conv_str w q n d _ hq
    have HE := hid (eqB_false h)
    have HNE : Hid (((strN n fun j => (x j).val).toList == (strN n fun j => (y j).val).toList) = false) := by
      show ((strN n fun j => (x j).val).toList == (strN n fun j => (y j).val).toList) = false
      rw [beq_eq_false_iff_ne, ByteArray.toList_eq, ByteArray.toList_eq]
      exact fun e => h (strN_inj (ByteArray.ext (Array.ext' e)))
    clear hp hq h
    go_enter Try.func50, Try.ntmps50
    go_wp2
    go_ret
    exact ⟨ret_bool (by rw [HE.out]; exact HNE.out), rfl⟩
/-- Do rows read alike, one by one? -/
def eqM (n l : Nat) (X Y : Nat → Nat → K) : Bool := all2 n l fun i j => decide (X i j = Y i j)
theorem eqM_true {n l : Nat} {X Y : Nat → Nat → K} (h : ∀ i, i < n → ∀ j, j < l → X i j = Y i j) : eqM n l X Y = true := all2_true (fun i hi j hj => decide_eq_true (h i hi j hj))
theorem eqM_false {n l : Nat} {X Y : Nat → Nat → K} (h : ¬ ∀ i, i < n → ∀ j, j < l → X i j = Y i j) : eqM n l X Y = false := all2_false (fun q => h (fun i hi j hj => of_decide_eq_true (q i hi j hj)))

set_option maxRecDepth 100000 in
set_option maxHeartbeats 1000000 in
theorem equalFunc_any (p q : Option Addr) (n l c d : Nat) (A A' : Nat → Option Addr) (C C' : Nat → Nat) (X Y : Nat → Nat → K) (w : World) (hn : n ≤ 1000) (h : MatAt w p n A (fun _ => l) C X) (h' : MatAt w q n A' (fun _ => l) C' Y) :
    Calls Try.prog 49 #[.slice p n c, .slice q n d, .func (.func 50) #[] #[]] w fun e w' => e = .returned (.bool (eqM n l X Y)) ∧ w' = w := by
  have hne : ((n : Int) != (n : Int)) = false := by simp
  have H := hid h
  have H' := hid h'
  clear h h'
  go_enter Try.func49, Try.ntmps49
  go_wp2
  go_loop [17] (fun i => ∃ r : Nat, r ≤ n ∧ i = .int .i64 r ∧ ∀ i, i < r → ∀ j, j < l → X i j = Y i j) (fun i => (n - intOf i).toNat)
  case atStart => exact ⟨0, by omega, rfl, fun j hj => absurd hj (by omega)⟩
  case round =>
    obtain ⟨r, hr, rfl, hs⟩ := hrel
    by_cases hlt : r < n
    · obtain ⟨b, o, rfl, hc⟩ := H.out.top.pos (by omega)
      obtain ⟨b', o', rfl, hc'⟩ := H'.out.top.pos (by omega)
      have c1 := hc r hlt
      have c2 := hc' r hlt
      have s1 := H.out.row r hlt
      have s2 := H'.out.row r hlt
      clear hc hc' H H'
      by_cases he : ∀ j, j < l → X r j = Y r j
      · have HB := hid (eqB_true he)
        have HS : Hid (∀ i, i < r + 1 → ∀ j, j < l → X i j = Y i j) := fun i hi j hj => by
          by_cases e : i = r
          · subst e; exact he j hj
          · exact hs i (by omega) j hj
        clear hs he
        go_wp2_with (go_at_call 50; refine (bytesEq_any _ _ l _ _ (X r) (Y r) _ s1 s2).mono ?_; rintro e w' ⟨rfl, rfl⟩; rw [HB.out])
        go_round
        case rel => exact ⟨r + 1, by omega, by go_num, HS.out⟩
        case measure => simp [intOf]; omega
      · have HB := hid (eqB_false he)
        have HE := hid (eqM_false (n := n) (l := l) (X := X) (Y := Y) (fun q => he (q r hlt)))
        clear hs he
        go_wp2_with (go_at_call 50; refine (bytesEq_any _ _ l _ _ (X r) (Y r) _ s1 s2).mono ?_; rintro e w' ⟨rfl, rfl⟩; rw [HB.out])
        go_ret
        exact ⟨ret_bool HE.out.symm, rfl⟩
    · have HE := hid (eqM_true (n := n) (l := l) (X := X) (Y := Y) (fun i hi => hs i (by omega)))
      clear hs H H'
      go_wp2
      go_ret
      exact ⟨ret_bool HE.out.symm, rfl⟩

theorem Try.info4 : (Try.prog.info? 4).map (fun i => (i.zero, i.size, i.bytes)) = some (some (.bool false), 1, 1) := by kernel_rfl
theorem run_make_bools (n : Nat) (hn : n ≤ 70003) (w : World) :
    (Instr.makeSlice 35 (.int .i64 (n : Int)) (.int .i64 (n : Int))).run Try.prog w = .ok (.slice (some ⟨w.heap.size, 0, none⟩) n n) (w.alloc (.cells (madeCells #[.bool false] n) 4)) := by
  obtain ⟨i0, hi, hz0, hz1, hz2⟩ := info_parts Try.info4
  have h := run_make (P := Try.prog) w 35 4 i0 (.bool false) Try.underlying35 hi hz0 .i64 .i64 n n (by omega) (Int.le_refl _) (by rw [hz2]; omega) (by omega)
  rw [hz1] at h
  simpa [Value.cells] using h
/-- A list of bools that the call has made. -/
def OwnB (B : Nat) (w : World) (g n : Nat) (H : Nat → Bool) : Prop := w.ownsRow B 4 1 (.slice (some ⟨g, 0, none⟩) n n) n (vals n fun j => .bool (H j))
theorem OwnB.at {B : Nat} {w : World} {g n : Nat} {H : Nat → Bool} (h : OwnB B w g n H) : BoolsAt w (some ⟨g, 0, none⟩) n H := .inr ⟨g, 0, rfl, fun i hi => by rw [Nat.zero_add]; exact own_cell (V := fun j => .bool (H j)) h i hi⟩
theorem OwnB.set {B : Nat} {w : World} {g n : Nat} {H : Nat → Bool} (h : OwnB B w g n H) (j : Nat) (b : Bool) : OwnB B (w.setCell ⟨g, j, none⟩ (.bool b)) g n (upd H j b) := by
  have h1 := (h.stored j (.bool b)).1
  rw [vals_set, vals_congr (W := fun c => .bool (upd H j b c)) (fun c _ => by unfold upd; by_cases e : c = j <;> simp [e])] at h1
  exact h1
theorem OwnB.congr {B : Nat} {w : World} {g n : Nat} {H H' : Nat → Bool} (h : OwnB B w g n H) (e : ∀ i, i < n → H i = H' i) : OwnB B w g n H' := by
  unfold OwnB at h
  rwa [vals_congr (W := fun j => .bool (H' j)) (fun j hj => by rw [e j hj])] at h

set_option maxRecDepth 100000 in
set_option maxHeartbeats 1000000 in
theorem all_any (n : Nat) (w : World) (hn : n ≤ 1000) :
    Calls Try.prog 48 #[.int .i64 n] w fun e w' => ∃ g, e = .returned (.slice (some ⟨g, 0, none⟩) n n) ∧ OwnB w.heap.size w' g n (fun _ => true) ∧ Below w.heap.size w w' := by
  have hmk := run_make_bools n (by omega) w
  have H0 : Hid (OwnB w.heap.size (w.alloc (.cells (madeCells #[.bool false] n) 4)) w.heap.size n (fun j => decide (j < 0))) := (own_made w 4 (.bool false) n w.heap.size (by omega) (Nat.le_refl _))
  go_enter Try.func48, Try.ntmps48
  go_wp2
  clear hmk
  go_loopw [9] (fun i wr => ∃ r : Nat, r ≤ n ∧ i = .int .i64 r ∧ OwnB w.heap.size wr w.heap.size n (fun j => decide (j < r)) ∧ Below w.heap.size w wr) (fun i _ => (n - intOf i).toNat)
  case atStart => exact ⟨0, by omega, rfl, H0.out, (Below.refl _ _).alloc (Nat.le_refl _) _⟩
  case round =>
    obtain ⟨r, hr, rfl, ho, hb⟩ := hrel
    clear H0
    by_cases hlt : r < n
    · have c1 := own_cell (V := fun j => .bool (decide (j < r))) ho r hlt
      have c2 := World.ownsRow.frozenAt ho r
      have HO := hid ((ho.set r true).congr (H' := fun j => decide (j < r + 1)) (fun j _ => by
        unfold upd
        by_cases e : j = r
        · subst e; simp
        · by_cases q : j < r
          · simp [e, q, show j < r + 1 by omega]
          · simp [e, q, show ¬ j < r + 1 by omega]))
      have HB := hid (hb.setCell (p := ⟨w.heap.size, r, none⟩) (Nat.le_refl _) (.bool true))
      clear ho hb
      go_wp2
      go_roundw
      case rel => exact ⟨r + 1, by omega, by go_num, HO.out, HB.out⟩
      case measure => simp [intOf]; omega
    · have HO := hid (ho.congr (H' := fun _ => true) (fun j hj => by simp; omega))
      have HB := hid hb
      clear ho hb
      go_wp2
      go_ret
      exact ⟨_, rfl, HO.out, HB.out⟩

/-- Shards one behind the other. -/
def jnd (l : Nat) (X : Nat → Nat → K) (j : Nat) : K := X (j / l) (j % l)
theorem jnd_at (l r d : Nat) (X : Nat → Nat → K) (h : d < l) : jnd l X (r * l + d) = X r d := by
  unfold jnd
  rw [Nat.mul_comm r l, Nat.mul_add_div (by omega), Nat.div_eq_of_lt h, Nat.add_zero, Nat.mul_add_mod, Nat.mod_eq_of_lt h]
theorem jnd_step (l s r : Nat) (X : Nat → Nat → K) (c : Nat) (hc : c < s) :
    (if r * l ≤ c ∧ c < r * l + min l (s - r * l) then X r (c - r * l) else if c < r * l then jnd l X c else 0) = if c < (r + 1) * l then jnd l X c else 0 := by
  rw [Nat.add_mul, Nat.one_mul]
  by_cases e : r * l ≤ c ∧ c < r * l + min l (s - r * l)
  · rw [if_pos e, if_pos (by omega)]
    have := jnd_at l r (c - r * l) X (by omega)
    rw [show r * l + (c - r * l) = c by omega] at this
    exact this.symm
  · rw [if_neg e]
    by_cases q : c < r * l
    · rw [if_pos q, if_pos (by omega)]
    · rw [if_neg q, if_neg (by omega)]

set_option maxRecDepth 100000 in
set_option maxHeartbeats 4000000 in
theorem joined_any (p : Option Addr) (k l c s : Nat) (A : Nat → Option Addr) (C : Nat → Nat) (X : Nat → Nat → K) (w : World) (hk : k ≤ 1000) (hl : l ≤ 65536) (hs : s ≤ 65536) (hsk : s ≤ k * l) (h : MatAt w p k A (fun _ => l) C X) :
    Calls Try.prog 47 #[.slice p k c, .int .i64 s] w fun e w' => ∃ g, e = .returned (.slice (some ⟨g, 0, none⟩) s s) ∧ w'.ownsRow w.heap.size 5 1 (.slice (some ⟨g, 0, none⟩) s s) s (vals s fun j => kv (jnd l X j)) ∧ Below w.heap.size w w' := by
  have hmk := run_make_u8 s (by omega) w
  have H0 := hid (own_made w 5 (.int .u8 0) s w.heap.size (by omega) (Nat.le_refl _))
  have H := hid h
  clear h
  go_enter Try.func47, Try.ntmps47
  go_wp2
  clear hmk
  go_loopw [6, 15] (fun v i wr => ∃ (r nr : Nat) (pr : Option Addr), r ≤ k ∧ i = .int .i64 r ∧ v = .slice pr nr nr ∧ nr = s - r * l ∧ (nr ≠ 0 → pr = some ⟨w.heap.size, r * l, none⟩) ∧ wr.ownsRow w.heap.size 5 1 (.slice (some ⟨w.heap.size, 0, none⟩) s s) s (vals s fun j => kv (if j < r * l then jnd l X j else 0)) ∧ Below w.heap.size w wr) (fun _ i _ => (k - intOf i).toNat)
  case atStart => exact ⟨0, s, some ⟨w.heap.size, 0, none⟩, by omega, rfl, rfl, by omega, fun _ => by rw [Nat.zero_mul], by
    have h1 := H0.out
    rwa [vals_congr (W := fun j => kv (if j < 0 * l then jnd l X j else 0)) (fun j _ => by rw [if_neg (by omega)]; rfl)] at h1, (Below.refl _ _).alloc (Nat.le_refl _) _⟩
  case round =>
    obtain ⟨r, nr, pr, hr, rfl, rfl, hnr, hpr, ho, hb⟩ := hrel
    clear H0
    by_cases hlt : r < k
    · obtain ⟨b, o, rfl, hc⟩ := H.out.top.pos (by omega)
      have c1 := Stays.of_below hb _ _ (hc r hlt)
      have s1 := (H.out.row r hlt).keep (Stays.of_below hb)
      obtain ⟨W2, hcp, hrow2, hon⟩ : ∃ W2, (∀ ty, (Builtin.copy_ #[22, 22] ty #[.slice pr nr nr, .slice (A r) l (C r)]).run Try.prog wr = .ok (goInt ((min l nr : Nat) : Int)) W2) ∧ W2.ownsRow w.heap.size 5 1 (.slice (some ⟨w.heap.size, 0, none⟩) s s) s (vals s fun j => kv (if j < (r + 1) * l then jnd l X j else 0)) ∧ OnlyIn (fun b => b = w.heap.size) wr W2 := by
        by_cases h0 : nr = 0
        · refine ⟨wr, fun ty => ?_, ?_, OnlyIn.refl _ _⟩
          · rw [show min l nr = 0 by omega]
            exact run_copy_none (P := Try.prog) _ 22 22 ty 5 _ _ _ _ _ _ Try.underlying22 (by kernel_rfl) (by rw [h0]; exact Nat.min_zero _)
          · rwa [vals_congr (W := fun j => kv (if j < (r + 1) * l then jnd l X j else 0)) (fun j hj => by rw [if_pos (by omega), if_pos (by rw [Nat.add_mul]; omega)])] at ho
        · rw [hpr h0]
          refine ⟨wr.setCells w.heap.size (r * l) (valN (min l nr) fun j => (X r j).val), fun ty => run_copyG wr w.heap.size (r * l) nr nr (A r) l (C r) _ s1 (fun j hj => ⟨_, own_cell ho (r * l + j) (by omega)⟩) (fun j => ho.frozenAt _) ty, ?_, OnlyIn.setCells _ _ _ _ _ (OnlyIn.refl _ _)⟩
          have h2 := own_laid ho (r * l) (min l nr) (X r)
          rwa [vals_congr (W := fun j => kv (if j < (r + 1) * l then jnd l X j else 0)) (fun j hj => by rw [← jnd_step l s r X j hj, ← hnr])] at h2
      obtain ⟨p2, hsl, hp2⟩ := run_lo22 pr nr nr (min l nr) (by omega)
      have HP : Hid (nr - min l nr ≠ 0 → p2 = some ⟨w.heap.size, (r + 1) * l, none⟩) := fun h3 => by
        have h4 := hp2 _ _ (hpr (by omega)) (by omega)
        rw [h4, show min l nr = l by omega, Nat.add_mul, Nat.one_mul]
      have HN : Hid (nr - min l nr = s - (r + 1) * l) := by
        show nr - min l nr = s - (r + 1) * l
        rw [Nat.add_mul, Nat.one_mul]; omega
      have HO := hid hrow2
      have HB := hid (hon.below hb (fun b hb => by rw [hb]; exact Nat.le_refl _))
      have hmin : min l nr ≤ 65536 := by omega
      clear ho hb hc s1 hrow2 hon hp2 hpr H hnr
      go_wp2
      go_roundw
      case rel => exact ⟨r + 1, nr - min l nr, p2, by omega, by go_num, rfl, HN.out, HP.out, HO.out, HB.out⟩
      case measure => simp [intOf]; omega
    · have e : r = k := by omega
      subst e
      have HO : Hid (wr.ownsRow w.heap.size 5 1 (.slice (some ⟨w.heap.size, 0, none⟩) s s) s (vals s fun j => kv (jnd l X j))) := by
        show wr.ownsRow w.heap.size 5 1 (.slice (some ⟨w.heap.size, 0, none⟩) s s) s (vals s fun j => kv (jnd l X j))
        rwa [vals_congr (W := fun j => kv (jnd l X j)) (fun j hj => by rw [if_pos (by omega)])] at ho
      have HB := hid hb
      clear ho hb H hnr hpr
      go_wp2
      go_ret
      exact ⟨_, rfl, HO.out, HB.out⟩
end Go.Proofs.Ytapgdenodhcliaa
