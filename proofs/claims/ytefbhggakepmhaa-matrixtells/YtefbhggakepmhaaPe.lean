/- Contract of Product of the document's own answer: the product lies in new memory; what was there is as it was. -/
import Derived.Test.YtefbhggakepmhaaPa
import Derived.Test.YtefbhggakepmhaaPc
namespace Go.Proofs.Ytefbhggakepmhaa
open Go.RowKit

/-- A row's first j numbers are as they shall be, the number at j is the sum as far as k; the others are 0. -/
def prRow (X Y : Nat → Nat → K) (i m j k : Nat) : Nat → K := fun c => if c < j then pr m X Y i c else if c = j then sm (fun q => X i q * Y q c) k else 0
theorem prRow_at (X Y : Nat → Nat → K) (i m j k : Nat) : prRow X Y i m j k j = sm (fun q => X i q * Y q j) k := by unfold prRow; rw [if_neg (by omega), if_pos rfl]
theorem prRow_step (X Y : Nat → Nat → K) (i m j k c : Nat) : upd (fun c => kv (prRow X Y i m j k c)) j (kv (prRow X Y i m j k j + X i k * Y k j)) c = kv (prRow X Y i m j (k + 1) c) := by
  unfold upd
  by_cases e : c = j
  · subst e; rw [if_pos rfl, prRow_at, prRow_at]; rfl
  · rw [if_neg e]
    show kv (prRow X Y i m j k c) = kv (prRow X Y i m j (k + 1) c)
    unfold prRow
    by_cases q : c < j
    · rw [if_pos q, if_pos q]
    · rw [if_neg q, if_neg q, if_neg e, if_neg e]
theorem prRow_next (X Y : Nat → Nat → K) (i m j c : Nat) : prRow X Y i m j m c = prRow X Y i m (j + 1) 0 c := by
  unfold prRow
  by_cases q : c < j
  · rw [if_pos q, if_pos (by omega)]
  · rw [if_neg q]
    by_cases e : c = j
    · rw [if_pos e, if_pos (by omega)]; rfl
    · rw [if_neg e, if_neg (by omega)]
      by_cases z : c = j + 1
      · rw [if_pos z]; rfl
      · rw [if_neg z]
theorem prRow_start (X Y : Nat → Nat → K) (i m c : Nat) : prRow X Y i m 0 0 c = 0 := by
  unfold prRow; rw [if_neg (by omega)]; split <;> rfl

/-- What holds while the row in block g is made, beside rows that stand. -/
structure RowMade (B : Nat) (w wr : World) (g m : Nat) (x : Nat → K) : Prop where
  row : wr.ownsRow B 5 1 (.slice (some ⟨g, 0, none⟩) m m) m (vals m fun c => kv (x c))
  bel : Below B w wr
theorem RowMade.congr {B : Nat} {w wr : World} {g m : Nat} {x y : Nat → K} (h : RowMade B w wr g m x) (e : ∀ c, c < m → x c = y c) : RowMade B w wr g m y :=
  ⟨by have := h.row; rwa [vals_congr (W := fun c => kv (y c)) (fun c hc => by show kv (x c) = kv (y c); rw [e c hc])] at this, h.bel⟩
theorem RowMade.set {B : Nat} {w wr : World} {g m : Nat} {x y : Nat → K} (h : RowMade B w wr g m x) (k : Nat) (v : K) (e : ∀ c, upd (fun c => kv (x c)) k (kv v) c = kv (y c)) : RowMade B w (wr.setCell ⟨g, k, none⟩ (.int .u8 ((v.val : Nat) : Int))) g m y := by
  refine ⟨?_, h.bel.setCell (p := ⟨g, k, none⟩) (own_ge h.row).1 _⟩
  have h1 := (h.row.stored k (kv v)).1
  rw [vals_set, vals_congr (W := fun c => kv (y c)) (fun c _ => e c)] at h1
  exact h1
theorem RowMade.drew {B : Nat} {w wr : World} {g m : Nat} {x : Nat → K} (h : RowMade B w wr g m x) : RowMade B w wr.drew g m x := ⟨h.row.drew, h.bel.drew⟩

set_option maxRecDepth 100000 in
set_option maxHeartbeats 8000000 in
theorem product_any (p q : Option Addr) (n m l c d : Nat) (A A' : Nat → Option Addr) (C C' : Nat → Nat) (X Y : Nat → Nat → K) (w : World) (h : MatAt w p n A (fun _ => m) C X) (h' : MatAt w q m A' (fun _ => l) C' Y)
    (h0 : 1 ≤ n) (hn : n ≤ 32) (h1 : 1 ≤ m) (hm : m ≤ 32) (h2 : 1 ≤ l) (hl : l ≤ 32) :
    Calls Try.prog 37 #[.slice p n c, .slice q m d] w fun e w' => ∃ g cp G, e = .returned (.slice (some ⟨g, 0, none⟩) n cp) ∧ OwnMat w.heap.size w' g cp n l G (fun _ => l) (pr m X Y) ∧ Below w.heap.size w w' := by
  obtain ⟨i0, hi0, hz0, hz1, hz2⟩ := info_parts Try.info41
  obtain ⟨b, o, rfl, bs, os, hc, hr⟩ := h.at (by omega) (by omega)
  obtain ⟨b', o', rfl, bs', os', hc', hr'⟩ := h'.at (by omega) (by omega)
  have HC := hid hc
  have HR := hid hr
  have HC' := hid hc'
  have HR' := hid hr'
  clear h h' hc hr hc' hr'
  go_enter Try.func37, Try.ntmps37
  go_wp2
  go_loopw [5, 6] (fun v x wr => ∃ i : Nat, ∃ G : Nat → Nat, i ≤ n ∧ x = .int .i64 i ∧ OwnV w.heap.size wr v i G (fun _ => l) (fun _ => l) (fun _ => l) (fun _ => l) (pr m X Y) ∧ Below w.heap.size w wr) (fun _ x _ => (n - intOf x).toNat)
  case atStart => exact ⟨0, fun _ => 0, by omega, rfl, OwnV.start _ _ _ _ _ _ _ _, Below.refl _ _⟩
  case round =>
    obtain ⟨i, G, hi, rfl, hv, hb⟩ := hrel
    by_cases hlt : i < n
    · have hsz := hb.size
      have c0 : wr.cell? ⟨b', o', none⟩ = some (.slice (some ⟨bs' 0, os' 0, none⟩) l (C' 0)) := by have := Stays.of_below hb _ _ (HC'.out 0 (by omega)); rwa [Nat.add_zero] at this
      have hmk := run_make_u8 l (by omega) wr
      have HRM : Hid (RowMade wr.heap.size wr (wr.alloc (.cells (madeCells #[.int .u8 0] l) 5)) wr.heap.size l (prRow X Y i m 0 0)) := by
        refine ⟨?_, (Below.refl _ _).alloc (Nat.le_refl _) _⟩
        have := own_made wr 5 (.int .u8 0) l wr.heap.size (by omega) (Nat.le_refl _)
        rwa [vals_congr (W := fun c => kv (prRow X Y i m 0 0 c)) (fun c _ => by rw [prRow_start]; rfl)] at this
      have HV := hid hv
      have HB := hid hb
      clear hv hb
      go_wp2_with fail
      clear hmk c0
      obtain ⟨wo, hwo⟩ : ∃ wo, wo = wr := ⟨_, rfl⟩
      subst hwo
      go_loopw [8] (fun x wy => ∃ j : Nat, j ≤ l ∧ x = .int .i64 j ∧ RowMade wo.heap.size wo wy wo.heap.size l (prRow X Y i m j 0)) (fun x _ => (l - intOf x).toNat)
      case atStart => exact ⟨0, by omega, rfl, HRM.out⟩
      case round =>
        clear HRM
        obtain ⟨j, hj, rfl, hrm⟩ := hrel
        have HRM := hid hrm
        clear hrm
        by_cases hlt2 : j < l
        · go_wp2_with fail
          go_loopw [9] (fun x wy => ∃ k : Nat, k ≤ m ∧ x = .int .i64 k ∧ RowMade wo.heap.size wo wy wo.heap.size l (prRow X Y i m j k)) (fun x _ => (m - intOf x).toNat)
          case atStart => exact ⟨0, by omega, rfl, HRM.out⟩
          case round =>
            clear HRM
            obtain ⟨k, hk, rfl, hrm⟩ := hrel
            by_cases hlt3 : k < m
            · have hbw := HB.out.then hrm.bel
              have e1 := own_cell (V := fun c => kv (prRow X Y i m j k c)) hrm.row j hlt2
              have e2 := hrm.row.frozenAt j
              have e3 := Stays.of_below hbw _ _ (HC.out i hlt)
              have e4 := Stays.of_below hbw _ _ (HR.out i hlt k hlt3)
              have e5 := Stays.of_below hbw _ _ (HC'.out k hlt3)
              have e6 := Stays.of_below hbw _ _ (HR'.out k hlt3 j hlt2)
              have hx := xor_k (prRow X Y i m j k j) (X i k * Y k j)
              have HM := hid ((hrm.set j (prRow X Y i m j k j + X i k * Y k j) (fun c => prRow_step X Y i m j k c)).drew)
              have i1 : (i : Int) < (n : Int) := by omega
              have i2 : (j : Int) < (l : Int) := by omega
              have i3 : (k : Int) < (m : Int) := by omega
              clear hrm hbw HC HR HC' HR' HV HB
              simp only [kv] at e1
              go_wp2_with fail
              go_region_with ((go_at_call 56; refine (rmul_k _ _ _).mono ?_; rintro e w' ⟨rfl, rfl⟩))
              all_goals (go_wp2; go_roundw; (case rel => exact ⟨k + 1, by omega, by go_num, HM.out⟩); (case measure => simp [intOf]; omega))
            · have e : k = m := by omega
              rw [e] at hrm
              have HM := hid (hrm.congr (y := prRow X Y i m (j + 1) 0) (fun c _ => prRow_next X Y i m j c))
              clear e
              clear hrm HC HR HC' HR' HV HB
              go_wp2
              go_roundw
              case rel => exact ⟨j + 1, by omega, by go_num, HM.out⟩
              case measure => simp [intOf]; omega
        · have HR1 : Hid (wr.ownsRow wo.heap.size 5 1 (.slice (some ⟨wo.heap.size, 0, none⟩) l l) l (vals l fun c => kv (pr m X Y i c))) := by
            have := HRM.out.row
            rwa [vals_congr (W := fun c => kv (pr m X Y i c)) (fun c hc => by unfold prRow; rw [if_pos (by omega)])] at this
          have HB1 := hid HRM.out.bel
          have HT := hid (HV.out.top_alloc HB1.out (.cells #[.slice (some ⟨wo.heap.size, 0, none⟩) l l] 41))
          have HN := hid (news_one wr (.slice (some ⟨wo.heap.size, 0, none⟩) l l))
          have hsz1 := HB1.out.size
          clear HRM HC HR HC' HR'
          go_wp2_with (at_builtin; refine wpList_append_lies _ rfl _ _ 22 rfl w.heap.size 41 i0 (.slice none 0 0) 1 24 Try.underlying22 hi0 hz0 hz1 hz2 rfl (by omega) u5 i _ rfl HT.out ⟨wr.heap.size, 0, none⟩ 1 1 [.slice (some ⟨wo.heap.size, 0, none⟩) l l] rfl rfl HN.out (by intro u hu; simp at hu; subst hu; rfl) (by omega) (by unfold maxLen; omega) (by omega) (by simp; omega) _ rfl ?_; intro gg cap w4 hown4 hgrow hat hlt4)
          have HX := hid (HV.out.push HB1.out wo.heap.size l l (Nat.le_refl _) (own_base HR1.out hsz) hgrow hown4)
          have HBX := hid (HV.out.bound (HB.out.trans (HB1.out.mono hsz)) (by omega) hgrow)
          rw [upd_const] at HX
          clear hown4 hgrow hat hlt4 HT HN HR1 HB1 HV HB
          go_wp2
          go_roundw
          case rel => exact ⟨i + 1, _, by omega, by go_num, HX.out, HBX.out⟩
          case measure => simp [intOf]; omega
    · have e : i = n := by omega
      subst e
      obtain ⟨g, c, rfl, hm⟩ := hv.toMat (by omega)
      have HM := hid hm
      have HB := hid hb
      clear hv hb hm HC HR HC' HR'
      go_wp2
      go_ret
      exact ⟨g, c, G, rfl, HM.out, HB.out⟩
end Go.Proofs.Ytefbhggakepmhaa
