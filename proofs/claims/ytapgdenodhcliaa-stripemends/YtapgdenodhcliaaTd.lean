/- Contracts of Mend, Join, all and Sound of the document's own answer: as the program's; what was there is as it was. -/
import Derived.Test.YtapgdenodhcliaaTc
namespace Go.Proofs.Ytapgdenodhcliaa
open Go.RowKit

set_option maxRecDepth 100000 in
set_option maxHeartbeats 1000000 in
theorem rmend_err (pS pH : Option Addr) (ns nh cS cH : Nat) (k m : Int) (w : World) (hk : -9223372036854775808 ≤ k) (hk' : k ≤ 9223372036854775807) (hm : -9223372036854775808 ≤ m) (hm' : m ≤ 9223372036854775807) (h : k < 1 ∨ m < 1 ∨ 16 < k + m) :
    Calls Try.prog 22 #[.slice pS ns cS, .slice pH nh cH, .int .i64 k, .int .i64 m] w fun e w' => e = .returned (.tuple #[.slice none 0 0, .int .i64 5]) ∧ w' = w := by
  go_enter Try.func22, Try.ntmps22
  go_wp2_with fail
  refine (may_bad k m w hk hk' hm hm' h).mono ?_
  rintro e w' ⟨rfl, hw⟩
  have hw2 := hw.symm
  subst hw2
  clear hw h
  go_wp2
  go_ret2
  exact ⟨rfl, rfl⟩
set_option maxRecDepth 100000 in
set_option maxHeartbeats 4000000 in
theorem rmend_any (pS pH : Option Addr) (ns nh cS cH k m : Nat) (AS : Nat → Option Addr) (L CS : Nat → Nat) (S : Nat → Nat → K) (H : Nat → Bool) (w : World) (hS : MatAt w pS ns AS L CS S) (hH : BoolsAt w pH nh H) (h0 : 1 ≤ k) (h1 : 1 ≤ m) (h : k + m ≤ 16) :
    Calls Try.prog 22 #[.slice pS ns cS, .slice pH nh cH, .int .i64 k, .int .i64 m] w fun e w' => Below w.heap.size w w' ∧ ((errMd k m ns nh H L (-1) ≠ 0 ∧ e = .returned (.tuple #[.slice none 0 0, .int .i64 (errMd k m ns nh H L (-1))])) ∨
      (errMd k m ns nh H L (-1) = 0 ∧ ∃ g cp G, e = .returned (.tuple #[.slice (some ⟨g, 0, none⟩) (k + m) cp, .int .i64 0]) ∧ OwnMat w.heap.size w' g cp (k + m) (lenSt H L (-1) (k + m)).toNat G (fun _ => (lenSt H L (-1) (k + m)).toNat) (mdd k (k + m) H S))) := by
  have RS := hid hS
  have RH := hid hH
  clear hS hH
  go_enter Try.func22, Try.ntmps22
  go_wp2_with fail
  refine (may_ok k m w h0 h1 h).mono ?_
  rintro e w' ⟨rfl, hw⟩
  have hw2 := hw.symm
  subst hw2
  clear hw
  go_wp2_with fail
  refine (rwrong_any _ _ ns _ nh _ k m AS L CS H (-1) w (by omega) (by omega) RS.out.top RH.out).mono ?_
  rintro e w' ⟨rfl, hw⟩
  have hw2 := hw.symm
  subst hw2
  clear hw
  by_cases he : errMd k m ns nh H L (-1) = 0
  · have ht : errMt ns nh (k + m) H L (-1) = 0 := Classical.byContradiction (fun q => by rw [errMd_bad q] at he; exact q he)
    obtain ⟨rfl, rfl, hL1, hL2⟩ := errMt_zero ht
    have hcn : k ≤ cn H (k + m) := Classical.byContradiction (fun q => by rw [errMd_few ht (by omega)] at he; exact absurd he (by decide))
    have HL : Hid (∀ i, i < k + m → H i = true → L i = (lenSt H L (-1) (k + m)).toNat) := fun i hi hq => by have := hL2 i hi hq; omega
    have hle := lenSt_le (z := -1) (by omega) (k + m) hL1
    have HE := hid he
    rw [he]
    clear he ht hL1 hL2
    go_wp2_with fail
    refine (rmended_any pS pH k m (lenSt H L (-1) (k + m)).toNat _ _ AS L CS S H w RS.out RH.out h0 h1 h (by omega) HL.out hcn).mono ?_
    rintro e w2 ⟨g, cp, G, rfl, hm2, hb2⟩
    have B2 := hid hb2
    have M2 := hid hm2
    clear hb2 hm2
    go_wp2
    go_ret2
    exact ⟨B2.out, .inr ⟨HE.out, g, cp, G, rfl, M2.out⟩⟩
  · have he' : (errMd k m ns nh H L (-1) != 0) = true := by simpa using he
    have NE := hid he
    clear he
    go_wp2
    go_ret2
    exact ⟨Below.refl _ _, .inl ⟨NE.out, rfl⟩⟩

set_option maxRecDepth 100000 in
set_option maxHeartbeats 1000000 in
theorem rjoin_err (pS pH : Option Addr) (ns nh cS cH : Nat) (k m s : Int) (w : World) (hk : -9223372036854775808 ≤ k) (hk' : k ≤ 9223372036854775807) (hm : -9223372036854775808 ≤ m) (hm' : m ≤ 9223372036854775807) (h : k < 1 ∨ m < 1 ∨ 16 < k + m) :
    Calls Try.prog 24 #[.slice pS ns cS, .slice pH nh cH, .int .i64 k, .int .i64 m, .int .i64 s] w fun e w' => e = .returned (.tuple #[.slice none 0 0, .int .i64 5]) ∧ w' = w := by
  go_enter Try.func24, Try.ntmps24
  go_wp2_with fail
  refine (may_bad k m w hk hk' hm hm' h).mono ?_
  rintro e w' ⟨rfl, hw⟩
  have hw2 := hw.symm
  subst hw2
  clear hw h
  go_wp2
  go_ret2
  exact ⟨rfl, rfl⟩
set_option maxRecDepth 100000 in
set_option maxHeartbeats 1000000 in
theorem rjoin_size (pS pH : Option Addr) (ns nh cS cH k m : Nat) (s : Int) (w : World) (h0 : 1 ≤ k) (h1 : 1 ≤ m) (h : k + m ≤ 16) (hs : s < 0 ∨ 65536 < s) :
    Calls Try.prog 24 #[.slice pS ns cS, .slice pH nh cH, .int .i64 k, .int .i64 m, .int .i64 s] w fun e w' => e = .returned (.tuple #[.slice none 0 0, .int .i64 5]) ∧ w' = w := by
  by_cases h2 : s < 0
  · clear hs
    go_enter Try.func24, Try.ntmps24
    go_wp2_with fail
    refine (may_ok k m w h0 h1 h).mono ?_
    rintro e w' ⟨rfl, hw⟩
    have hw2 := hw.symm
    subst hw2
    clear hw
    go_wp2
    go_ret2
    exact ⟨rfl, rfl⟩
  · have h3 : 65536 < s := by omega
    clear hs
    go_enter Try.func24, Try.ntmps24
    go_wp2_with fail
    refine (may_ok k m w h0 h1 h).mono ?_
    rintro e w' ⟨rfl, hw⟩
    have hw2 := hw.symm
    subst hw2
    clear hw
    go_wp2
    go_ret2
    exact ⟨rfl, rfl⟩
/-- A row put behind what is there. -/
theorem more_run {w : World} {B n : Nat} {v : Value} {xs : List Value} (hv : w.ownsRow B 5 1 v n xs) (g l c : Nat) (y : Nat → K) (hy : ∀ j, j < l → w.cell? ⟨g, j, none⟩ = some (kv (y j))) (hn : n + l ≤ 2000000) (hB : B ≤ w.heap.size) :
    ∃ v' w', (Builtin.append_ #[22, 22] 22 #[v, .slice (some ⟨g, 0, none⟩) l c]).run Try.prog w = .ok v' w' ∧ w'.ownsRow B 5 1 v' (n + l) (xs ++ vals l fun j => kv (y j)) ∧ w.grownBy w' v.ownBlock := by
  obtain ⟨i0, hi0, hz0, hz1, hz2⟩ := info_parts Try.info5
  obtain ⟨v', w', hr, h2, h3, _, _⟩ := run_append_own_at (P := Try.prog) w B 22 22 5 i0 (.int .u8 0) 1 1 Try.underlying22 hi0 hz0 hz1 hz2 rfl (by decide) v n xs hv ⟨g, 0, none⟩ l c (vals l fun j => kv (y j)) (by rw [vals_len, Nat.mul_one]) (vals_cells (fun j hj => by rw [Nat.zero_add]; exact hy j hj)) (by intro u hu; unfold vals at hu; obtain ⟨i, _, rfl⟩ := List.mem_map.1 hu; rfl) (by unfold maxLen; omega) (by omega) hB
  exact ⟨v', w', hr, h2, h3⟩
theorem jnd_vals (l r : Nat) (X : Nat → Nat → K) : (vals (r * l) fun j => kv (jnd l X j)) ++ (vals l fun j => kv (X r j)) = vals ((r + 1) * l) fun j => kv (jnd l X j) := by
  rw [vals_append, show (r + 1) * l = r * l + l by rw [Nat.add_mul, Nat.one_mul]]
  refine vals_congr (fun j hj => ?_)
  by_cases q : j < r * l
  · rw [if_pos q]
  · rw [if_neg q]
    have := jnd_at l r (j - r * l) X (by omega)
    rw [show r * l + (j - r * l) = j by omega] at this
    rw [this]
theorem run_hi22 (p : Option Addr) (n c k : Nat) (hp : ∀ a, p = some a → ∃ b o, a = ⟨b, o, none⟩) (hk : k ≤ c) (w : World) : (Instr.slice 22 (.slice p n c) none (some (.int .i64 (k : Int))) none).run Try.prog w = .ok (.slice p k c) w := by
  rw [run_slice_h (P := Try.prog) w 22 p n c under41 .i64 (k : Int) (by omega) (by omega), size41]
  cases p with
  | none => simp [Result.andThen, sliced]
  | some a =>
    obtain ⟨b, o, rfl⟩ := hp a rfl
    by_cases h0 : c = 0
    · simp [Result.andThen, sliced, h0]
    · simp [Result.andThen, sliced, h0, Addr.add]

set_option maxRecDepth 100000 in
set_option maxHeartbeats 8000000 in
theorem rjoin_any (pS pH : Option Addr) (ns nh cS cH k m s : Nat) (AS : Nat → Option Addr) (L CS : Nat → Nat) (S : Nat → Nat → K) (H : Nat → Bool) (w : World) (hS : MatAt w pS ns AS L CS S) (hH : BoolsAt w pH nh H) (h0 : 1 ≤ k) (h1 : 1 ≤ m) (h : k + m ≤ 16) (hs : s ≤ 65536) :
    Calls Try.prog 24 #[.slice pS ns cS, .slice pH nh cH, .int .i64 k, .int .i64 m, .int .i64 s] w fun e w' => Below w.heap.size w w' ∧ ((errMd k m ns nh H L ((lgt s k : Nat) : Int) ≠ 0 ∧ e = .returned (.tuple #[.slice none 0 0, .int .i64 (errMd k m ns nh H L ((lgt s k : Nat) : Int))])) ∨
      (errMd k m ns nh H L ((lgt s k : Nat) : Int) = 0 ∧ ∃ p c, e = .returned (.tuple #[.slice p s c, .int .i64 0]) ∧ StrAt w' p s (fun j => (jnd (lgt s k) (mdd k (k + m) H S) j).val))) := by
  have RS := hid hS
  have RH := hid hH
  have hll := lgt_le s k hs h0
  clear hS hH
  go_enter Try.func24, Try.ntmps24
  go_wp2_with fail
  refine (may_ok k m w h0 h1 h).mono ?_
  rintro e w' ⟨rfl, hw⟩
  have hw2 := hw.symm
  subst hw2
  clear hw
  go_wp2_with fail
  refine (rlong_any s k w hs h0 (by omega)).mono ?_
  rintro e w' ⟨rfl, hw⟩
  have hw2 := hw.symm
  subst hw2
  clear hw
  go_wp2_with fail
  refine (rwrong_any _ _ ns _ nh _ k m AS L CS H ((lgt s k : Nat) : Int) w (by omega) (by omega) RS.out.top RH.out).mono ?_
  rintro e w' ⟨rfl, hw⟩
  have hw2 := hw.symm
  subst hw2
  clear hw
  by_cases he : errMd k m ns nh H L ((lgt s k : Nat) : Int) = 0
  · have ht : errMt ns nh (k + m) H L ((lgt s k : Nat) : Int) = 0 := Classical.byContradiction (fun q => by rw [errMd_bad q] at he; exact q he)
    obtain ⟨rfl, rfl, hL1, hL2⟩ := errMt_zero ht
    have hcn : k ≤ cn H (k + m) := Classical.byContradiction (fun q => by rw [errMd_few ht (by omega)] at he; exact absurd he (by decide))
    have HL : Hid (∀ i, i < k + m → H i = true → L i = lgt s k) := fun i hi hq => by
      have h2 := hL2 i hi hq
      rw [lenSt_ge (by omega)] at h2
      omega
    have HE := hid he
    have hroom := lgt_room s k h0
    rw [he]
    clear he ht hL1 hL2
    go_wp2_with fail
    refine (rmended_any pS pH k m (lgt s k) _ _ AS L CS S H w RS.out RH.out h0 h1 h hll HL.out hcn).mono ?_
    rintro e w2 ⟨g, cp, G, rfl, hm2, hb2⟩
    have B2 := hid hb2
    have M2 := hid hm2
    obtain ⟨l, hl⟩ : ∃ l, l = lgt s k := ⟨_, rfl⟩
    rw [← hl] at M2 hroom hll ⊢
    have HLL := hid hl
    clear hb2 hm2 hl HL RS RH hcn
    go_wp2_with fail
    go_loopw [14, 15] (fun v x wr => ∃ r : Nat, r ≤ k ∧ x = .int .i64 r ∧ wr.ownsRow w2.heap.size 5 1 v (r * l) (vals (r * l) fun j => kv (jnd l (mdd k (k + m) H S) j)) ∧ Below w2.heap.size w2 wr) (fun _ x _ => (k - intOf x).toNat)
    case atStart => exact ⟨0, by omega, rfl, by rw [Nat.zero_mul]; exact World.ownsRow_nil _ _ _ _, Below.refl _ _⟩
    case round =>
      obtain ⟨r, hr, rfl, hv, hb⟩ := hrel
      by_cases hlt : r < k
      · have hmr := M2.out.stay hb
        have c1 := hmr.topCell r (by omega)
        have hsz := hb.size
        have hrl : r * l ≤ 16 * 65536 := Nat.mul_le_mul (by omega) hll
        obtain ⟨v', w', hr1, ho1, hg1⟩ := more_run hv (G r) l l (mdd k (k + m) H S r) (fun j hj => hmr.cell r j (by omega) hj) (by omega) hsz
        have HR1 := hid hr1
        have HO : Hid (w'.ownsRow w2.heap.size 5 1 v' ((r + 1) * l) (vals ((r + 1) * l) fun j => kv (jnd l (mdd k (k + m) H S) j))) := hid (by
          rw [jnd_vals] at ho1
          rw [show r * l + l = (r + 1) * l by rw [Nat.add_mul, Nat.one_mul]] at ho1
          exact ho1)
        have HB : Hid (Below w2.heap.size w2 w') := hid (Below.grown hb hg1 (by omega) (fun b q => (hv.lt b q).1))
        clear hv hb hmr hr1 ho1 hg1 M2
        go_wp2_with (at_builtin; refine wpList_append_run (.tmp 49) (.tmp 53) 22 rfl (by first | rfl | simp [Region.wanted, yielded]) _ _ v' rfl rfl HR1.out ?_)
        go_roundw
        case rel => exact ⟨r + 1, by omega, by go_num, HO.out, HB.out⟩
        case measure => simp [intOf]; omega
      · have e : r = k := by omega
        subst e
        obtain ⟨pv, cv, rfl, hcv⟩ := own_len hv
        have hpl : ∀ a, pv = some a → ∃ b o, a = ⟨b, o, none⟩ := fun a q => by
          rcases hv.2 with ⟨z, _⟩ | ⟨g', cap, cur, z, _⟩
          · have z1 := (Value.slice.inj z).1
            rw [z1] at q; cases q
          · have z1 := (Value.slice.inj z).1
            rw [z1] at q; cases q; exact ⟨_, _, rfl⟩
        have hsl := run_hi22 pv (r * l) cv s hpl (by omega)
        have HS : Hid (StrAt wr pv s (fun j => (jnd l (mdd r (r + m) H S) j).val)) := hid (by
          by_cases q0 : s = 0
          · exact .inl q0
          · obtain ⟨gv, cv2, z, _, _⟩ := hv.form (by omega)
            have z1 := (Value.slice.inj z).1
            subst z1
            exact .inr ⟨_, _, rfl, fun j hj => by rw [Nat.zero_add]; exact own_cell (V := fun j => kv (jnd l (mdd r (r + m) H S) j)) hv j (by omega)⟩)
        have B3 := hid (B2.out.then hb)
        clear hv hb hpl M2
        go_wp2
        go_ret2
        exact ⟨B3.out, .inr ⟨by rw [HLL.out] at *; exact HE.out, pv, cv, rfl, by rw [← HLL.out]; exact HS.out⟩⟩
  · have he' : (errMd k m ns nh H L ((lgt s k : Nat) : Int) != 0) = true := by simpa using he
    have NE := hid he
    clear he
    go_wp2
    go_ret2
    exact ⟨Below.refl _ _, .inl ⟨NE.out, rfl⟩⟩
end Go.Proofs.Ytapgdenodhcliaa
