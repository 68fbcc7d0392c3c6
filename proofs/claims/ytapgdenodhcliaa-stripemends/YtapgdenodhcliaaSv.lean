/- Contracts of may, long, Length and Code of the document's own answer: as the program's; what was there is as it was. -/
import Derived.Test.YtapgdenodhcliaaSu
namespace Go.Proofs.Ytapgdenodhcliaa
open Go.RowKit

set_option maxHeartbeats 1000000 in
theorem may_bad (k m : Int) (w : World) (hk : -9223372036854775808 ≤ k) (hk' : k ≤ 9223372036854775807) (hm : -9223372036854775808 ≤ m) (hm' : m ≤ 9223372036854775807) (h : k < 1 ∨ m < 1 ∨ 16 < k + m) :
    Calls Try.prog 37 #[.int .i64 k, .int .i64 m] w fun e w' => e = .returned (.bool false) ∧ w' = w := by
  by_cases h1 : k < 1
  · clear h
    go_enter Try.func37, Try.ntmps37
    go_wp2
    go_ret
    exact ⟨rfl, rfl⟩
  by_cases h2 : m < 1
  · clear h
    go_enter Try.func37, Try.ntmps37
    go_wp2
    go_ret
    exact ⟨rfl, rfl⟩
  by_cases h3 : 16 ≤ k
  · clear h
    go_enter Try.func37, Try.ntmps37
    go_wp2
    go_ret
    exact ⟨rfl, rfl⟩
  by_cases h4 : 16 ≤ m
  · clear h
    go_enter Try.func37, Try.ntmps37
    go_wp2
    go_ret
    exact ⟨rfl, rfl⟩
  · have h5 : 16 < k + m := by omega
    clear h
    go_enter Try.func37, Try.ntmps37
    go_wp2
    go_ret
    exact ⟨ret_bool (by simp; omega), rfl⟩
set_option maxHeartbeats 1000000 in
theorem may_ok (k m : Nat) (w : World) (h0 : 1 ≤ k) (h1 : 1 ≤ m) (h : k + m ≤ 16) :
    Calls Try.prog 37 #[.int .i64 k, .int .i64 m] w fun e w' => e = .returned (.bool true) ∧ w' = w := by
  have h2 : k < 16 := by omega
  have h3 : m < 16 := by omega
  go_enter Try.func37, Try.ntmps37
  go_wp2
  go_ret
  exact ⟨ret_bool (by simp; omega), rfl⟩
set_option maxHeartbeats 400000 in
theorem rlong_any (s k : Nat) (w : World) (h1 : s ≤ 65536) (h2 : 1 ≤ k) (h3 : k ≤ 15) :
    Calls Try.prog 38 #[.int .i64 s, .int .i64 k] w fun e w' => e = .returned (.int .i64 ((lgt s k : Nat) : Int)) ∧ w' = w := by
  have hd := lgt_div s k h2
  have hw : IntKind.i64.wrap ((s : Int) + (k : Int)) = (s : Int) + (k : Int) := by rw [IntKind.wrap_i64]; omega
  have hk : (k : Int) ≠ 0 := by omega
  have hle := lgt_le s k h1 h2
  go_enter Try.func38, Try.ntmps38
  go_wp2
  go_ret
  exact ⟨ret_int (by first | rfl | (unfold wrap64; omega)), rfl⟩
set_option maxHeartbeats 400000 in
theorem rlength_err (s k : Int) (w : World) (h : s < 0 ∨ 65536 < s ∨ k < 1 ∨ 16 ≤ k) :
    Calls Try.prog 13 #[.int .i64 s, .int .i64 k] w fun e w' => e = .returned (.tuple #[.int .i64 0, .int .i64 5]) ∧ w' = w := by
  by_cases h1 : s < 0
  · go_enter Try.func13, Try.ntmps13
    go_wp2
    go_ret2
    exact ⟨rfl, rfl⟩
  by_cases h2 : 65536 < s
  · go_enter Try.func13, Try.ntmps13
    go_wp2
    go_ret2
    exact ⟨rfl, rfl⟩
  by_cases h3 : k < 1
  · go_enter Try.func13, Try.ntmps13
    go_wp2
    go_ret2
    exact ⟨rfl, rfl⟩
  · have h4 : 16 ≤ k := by omega
    go_enter Try.func13, Try.ntmps13
    go_wp2
    go_ret2
    exact ⟨rfl, rfl⟩
set_option maxHeartbeats 400000 in
theorem rlength_ok (s k : Nat) (w : World) (h1 : s ≤ 65536) (h2 : 1 ≤ k) (h3 : k ≤ 15) :
    Calls Try.prog 13 #[.int .i64 s, .int .i64 k] w fun e w' => e = .returned (.tuple #[.int .i64 ((lgt s k : Nat) : Int), .int .i64 0]) ∧ w' = w := by
  go_enter Try.func13, Try.ntmps13
  go_wp2_with fail
  refine (rlong_any s k w h1 h2 h3).mono ?_
  rintro e w' ⟨rfl, hw⟩
  have hw2 := hw.symm
  subst hw2
  clear hw
  go_wp2
  go_ret2
  exact ⟨rfl, rfl⟩
theorem xor_code (k i j : Nat) (h : k + i < 256) (hj : j < 256) : bits BinOp.xor IntKind.u8 ((k : Int) + (i : Int)) (j : Int) = (((kb (k + i) + kb j).val : Nat) : Int) := by
  have h1 := xor_k (kb (k + i)) (kb j)
  rw [kb_val _ h, kb_val _ hj] at h1
  rw [← h1]; congr 1

set_option maxRecDepth 100000 in
set_option maxHeartbeats 4000000 in
theorem rcode_any (k m : Nat) (w : World) (h0 : 1 ≤ k) (h1 : 1 ≤ m) (h : k + m ≤ 16) :
    Calls Try.prog 39 #[.int .i64 k, .int .i64 m] w fun e w' => ∃ g c G Q, e = .returned (.tuple #[.slice (some ⟨g, 0, none⟩) (k + m) c, .int .i64 0]) ∧ OwnMat w.heap.size w' g c (k + m) k G Q (codeX k) ∧ Below w.heap.size w w' := by
  obtain ⟨i0, hi0, hz0, hz1, hz2⟩ := info_parts Try.info22
  have h2 : k ≤ 16 := by omega
  have h3 : m ≤ 16 := by omega
  go_enter Try.func39, Try.ntmps39
  go_wp2_with fail
  refine (rone_any k w h0 (by omega)).mono ?_
  rintro e w1 ⟨g, c, G, rfl, hm, hb⟩
  have HM := hid (hm.congr (Y := codeX k) (fun i hi j _ => by unfold codeX; rw [if_pos hi]))
  have HB := hid hb
  clear hm hb
  go_wp2_with fail
  go_loopw [6, 7] (fun v x wr => ∃ i g c : Nat, ∃ G Q : Nat → Nat, i ≤ m ∧ x = .int .i64 i ∧ v = .slice (some ⟨g, 0, none⟩) (k + i) c ∧ OwnMat w.heap.size wr g c (k + i) k G Q (codeX k) ∧ Below w.heap.size w wr) (fun _ x _ => (m - intOf x).toNat)
  case atStart => exact ⟨0, g, c, G, _, by omega, rfl, rfl, HM.out, HB.out⟩
  case round =>
    clear HM HB
    obtain ⟨i, g, c, G, Q, hi, rfl, rfl, hm, hb⟩ := hrel
    by_cases hlt : i < m
    · have HM := hid hm
      have HB := hid hb
      have hsz := hb.size
      have hmk := run_make_u8 k (by omega) wr
      have HO0 : Hid ((wr.alloc (.cells (madeCells #[.int .u8 0] k) 5)).ownsRow wr.heap.size 5 1 (.slice (some ⟨wr.heap.size, 0, none⟩) k k) k (vals k fun c => if c < 0 then kv (codeX k (k + i) c) else .int .u8 0)) := hid (by simpa using own_made wr 5 (.int .u8 0) k wr.heap.size (by omega) (Nat.le_refl _))
      clear hm hb
      go_wp2_with fail
      clear hmk
      obtain ⟨wo, hwo⟩ : ∃ wo, wo = wr := ⟨_, rfl⟩
      subst hwo
      go_loopw [9] (fun x wy => ∃ j : Nat, j ≤ k ∧ x = .int .i64 j ∧ wy.ownsRow wo.heap.size 5 1 (.slice (some ⟨wo.heap.size, 0, none⟩) k k) k (vals k fun c => if c < j then kv (codeX k (k + i) c) else .int .u8 0) ∧ Below wo.heap.size wo wy) (fun x _ => (k - intOf x).toNat)
      case atStart => exact ⟨0, by omega, rfl, HO0.out, (Below.refl _ _).alloc (Nat.le_refl _) _⟩
      case round =>
        clear HO0
        obtain ⟨j, hj, rfl, ho, hb⟩ := hrel
        by_cases hlt2 : j < k
        · have c1 : wr.cell? ⟨wo.heap.size, j, none⟩ = some (.int .u8 0) := by rw [own_cell ho j hlt2]; simp
          have c2 := ho.frozenAt j
          have hx := xor_code k i j (by omega) (by omega)
          have HV : Hid (K.iv (kb (k + i) + kb j) = codeX k (k + i) j) := by
            show K.iv (kb (k + i) + kb j) = codeX k (k + i) j
            unfold codeX; rw [if_neg (by omega)]
          have HO : Hid ((wr.setCell ⟨wo.heap.size, j, none⟩ (kv (codeX k (k + i) j))).ownsRow wo.heap.size 5 1 (.slice (some ⟨wo.heap.size, 0, none⟩) k k) k (vals k fun c => if c < j + 1 then kv (codeX k (k + i) c) else .int .u8 0)) := by
            have := (ho.stored j (kv (codeX k (k + i) j))).1
            rw [vals_set] at this
            rwa [vals_congr (W := fun c => if c < j + 1 then kv (codeX k (k + i) c) else .int .u8 0) (fun c _ => by
              unfold upd
              by_cases e : c = j
              · subst e; simp
              · by_cases q : c < j
                · simp [e, q, show c < j + 1 by omega]
                · simp [e, q, show ¬ c < j + 1 by omega])] at this
          have HB2 := hid (hb.setCell (p := ⟨wo.heap.size, j, none⟩) (Nat.le_refl _) (kv (codeX k (k + i) j)))
          clear ho hb HM HB
          go_wp2_with (go_at_call 57; refine (rinv_k (kb (k + i) + kb j) _).mono ?_; rintro e w' ⟨rfl, rfl⟩)
          go_roundw
          case rel => exact ⟨j + 1, by omega, by go_num, by rw [HV.out]; exact HO.out, by rw [HV.out]; exact HB2.out⟩
          case measure => simp [intOf]; omega
        · have e : j = k := by omega
          subst e
          have HR2 : Hid (wr.ownsRow w.heap.size 5 1 (.slice (some ⟨wo.heap.size, 0, none⟩) j j) j (vals j fun c => kv (codeX j (j + i) c))) := by
            have h9 := own_base ho hsz
            rwa [vals_congr (W := fun c => kv (codeX j (j + i) c)) (fun c hc => by simp [hc])] at h9
          have HB2 := hid hb
          have hg := (own_ge HM.out.top).2
          have hsz2 := hb.size
          have HT := hid (own_keep HM.out.top (hb.block g hg))
          have HN : Hid (∀ q u, [rv wo.heap.size j j][q]? = some u → (wr.alloc (.cells #[rv wo.heap.size j j] 22)).cell? ((⟨wr.heap.size, 0, none⟩ : Addr).add q) = some u) :=
            World.news_of_block (cs := #[rv wo.heap.size j j]) (t := 22) (fr := (0, 0)) (heap_alloc_new _ _)
          clear ho hb
          go_wp2_with (at_builtin; refine wpList_append_lies _ rfl _ _ 24 rfl w.heap.size 22 i0 (.slice none 0 0) 1 24 Try.underlying24 hi0 hz0 hz1 hz2 rfl (by omega) (.slice (some ⟨g, 0, none⟩) (j + i) c) (j + i) (vals (j + i) fun i => rv (G i) j (Q i)) rfl (HT.out.alloc _) ⟨wr.heap.size, 0, none⟩ 1 1 [rv wo.heap.size j j] rfl rfl HN.out (by intro u hu; simp at hu; subst hu; rfl) (by omega) (by unfold maxLen; omega) (by omega) (by simp; omega) _ rfl ?_; intro gg cap w4 hown4 hgrow hat hlt4)
          have HX := hid (HM.out.push HB2.out wo.heap.size j (Nat.le_refl _) HR2.out hgrow hown4)
          have HBX : Hid (Below w.heap.size w w4) := Below.grown ((HB.out.trans (HB2.out.mono hsz)).alloc (by omega) _) hgrow (by simp; omega) (fun b hb => by
            have := (own_ge HM.out.top).1
            cases hb; exact this)
          clear hown4 hgrow hat hlt4 HN HT HM HB HB2 HR2
          go_wp2
          go_roundw
          case rel => exact ⟨i + 1, gg, cap, _, _, by omega, by go_num, rfl, HX.out, HBX.out⟩
          case measure => simp [intOf]; omega
    · have e : i = m := by omega
      subst e
      have HM := hid hm
      have HB := hid hb
      clear hm hb
      go_wp2
      go_ret2
      exact ⟨g, c, G, Q, rfl, HM.out, HB.out⟩
end Go.Proofs.Ytapgdenodhcliaa
