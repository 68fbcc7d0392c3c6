/- Contracts of copied and Check of the document's own answer: as the program's; what was there is as it was. -/
import Derived.Test.YtapgdenodhcliaaPb
namespace Go.Proofs.Ytapgdenodhcliaa
open Go.RowKit

theorem copied_row {w w1 : World} {m g1 cp1 : Nat} {x : Nat → K} (hown : w1.ownsRow w.heap.size 5 1 (.slice (some ⟨g1, 0, none⟩) (0 + m) cp1) (0 + m) ([] ++ vals m fun j => kv (x j))) (hgrow : (w.alloc (.cells #[] 5)).grownBy w1 (Value.slice (some ⟨w.heap.size, 0, none⟩) 0 0).ownBlock) :
    Hid (w1.ownsRow w.heap.size 5 1 (.slice (some ⟨g1, 0, none⟩) m cp1) m (vals m fun j => kv (x j))) ∧ Hid (Below w.heap.size w w1) ∧ w.heap.size ≤ w1.heap.size := by
  have hb : Below w.heap.size w w1 := Below.grown ((Below.refl _ _).alloc (Nat.le_refl _) _) hgrow (by simp) (fun j hj => by simp [Value.ownBlock] at hj; omega)
  refine ⟨?_, hb, hb.size⟩
  show w1.ownsRow w.heap.size 5 1 (.slice (some ⟨g1, 0, none⟩) m cp1) m (vals m fun j => kv (x j))
  simp only [Nat.zero_add, List.nil_append] at hown; exact hown

set_option maxRecDepth 100000 in
set_option maxHeartbeats 2000000 in
theorem copied_any (p : Option Addr) (n m c : Nat) (A : Nat → Option Addr) (C : Nat → Nat) (X : Nat → Nat → K) (w : World) (h : MatAt w p n A (fun _ => m) C X) (h0 : 1 ≤ n) (hn : n ≤ 32) (h1 : 1 ≤ m) (hm : m ≤ 32) :
    Calls Try.prog 78 #[.slice p n c] w fun e w' => ∃ g cp G Q, e = .returned (.slice (some ⟨g, 0, none⟩) n cp) ∧ OwnMat w.heap.size w' g cp n m G Q X ∧ Below w.heap.size w w' := by
  obtain ⟨i0, hi0, hz0, hz1, hz2⟩ := info_parts Try.info22
  obtain ⟨j0, hj0, hy0, hy1, hy2⟩ := info_parts Try.info5
  obtain ⟨b, o, rfl, bs, os, hc, hr⟩ := h.at (by omega) (by omega)
  have HC := hid hc
  have HR := hid hr
  clear h hc hr
  go_enter Try.func78, Try.ntmps78
  go_wp2
  go_loopw [3, 4] (fun v x wr => ∃ i : Nat, ∃ G Q : Nat → Nat, i ≤ n ∧ x = .int .i64 i ∧ OwnV w.heap.size wr v i G (fun _ => m) Q (fun _ => m) Q X ∧ Below w.heap.size w wr) (fun _ x _ => (n - intOf x).toNat)
  case atStart => exact ⟨0, fun _ => 0, fun _ => 0, by omega, rfl, OwnV.start _ _ _ _ _ _ _ _, Below.refl _ _⟩
  case round =>
    obtain ⟨i, G, Q, hi, rfl, hv, hb⟩ := hrel
    by_cases hlt : i < n
    · have hsz := hb.size
      have c1 := Stays.of_below hb _ _ (HC.out i hlt)
      have c2 : ∀ ob, (wr.alloc ob).cell? ⟨b, o + i, none⟩ = some (.slice (some ⟨bs i, os i, none⟩) m (C i)) := fun ob => by rw [World.cell?_alloc_lt _ _ _ (World.block_lt_of_cell? wr _ c1)]; exact c1
      have r1 := (HR.out i hlt).keep (Stays.of_below hb)
      have hbl : bs i < wr.heap.size := World.block_lt_of_cell? wr _ (r1 0 (by omega))
      have HO0 := hid (World.ownsRow_lit (base := wr.heap.size) (e := 5) (size := 1) wr #[] 0 (Nat.le_refl _) (by unfold maxLen; omega) rfl)
      have HP : Hid (∀ j u, (vals m fun j => kv (X i j))[j]? = some u → (wr.alloc (.cells #[] 5)).cell? ((⟨bs i, os i, none⟩ : Addr).add j) = some u) := vals_cells (fun j hj => by
        rw [World.cell?_alloc_lt _ _ _ hbl]; exact r1 j hj)
      have HV := hid hv
      have HB := hid hb
      clear hv hb r1 HC HR
      go_wp2_with (first
        | (at_builtin; refine wpList_append_lies _ rfl (.tmp 12) (.tmp 16) 22 rfl wr.heap.size 5 j0 (.int .u8 0) 1 1 Try.underlying22 hj0 hy0 hy1 hy2 rfl (by omega) (.slice (some ⟨wr.heap.size, 0, none⟩) 0 0) 0 [] rfl HO0.out ⟨bs i, os i, none⟩ m (C i) (vals m fun j => kv (X i j)) rfl (by rw [vals_len]; omega) HP.out (by intro u hu; unfold vals at hu; obtain ⟨i, _, rfl⟩ := List.mem_map.1 hu; rfl) (by omega) (by unfold maxLen; omega) (by omega) (by simp) _ rfl ?_; intro g1 cp1 w1 hown1 hgrow1 hat1 hlt1; obtain ⟨HR1, HB1, hsz1⟩ := copied_row hown1 hgrow1; clear hown1 hgrow1 hat1 hlt1; rw [Nat.zero_add])
        | (at_builtin; refine wpList_append_lies _ rfl (.tmp 11) (.tmp 18) 24 rfl w.heap.size 22 i0 (.slice none 0 0) 1 24 Try.underlying24 hi0 hz0 hz1 hz2 rfl (by omega) u3 i _ rfl (HV.out.top_alloc HB1.out _) ⟨w1.heap.size, 0, none⟩ 1 1 [.slice (some ⟨g1, 0, none⟩) m cp1] rfl rfl (news_one w1 _) (by intro u hu; simp at hu; subst hu; rfl) (by omega) (by unfold maxLen; omega) (by omega) (by simp; omega) _ rfl ?_; intro gg cap w4 hown4 hgrow hat hlt4))
      have HX := hid (HV.out.push HB1.out g1 cp1 cp1 (own_ge HR1.out).1 (own_base HR1.out hsz) hgrow hown4)
      have HBX := hid (HV.out.bound (HB.out.trans (HB1.out.mono hsz)) (by omega) hgrow)
      clear hown4 hgrow hat hlt4 HR1 HB1 HV HB HO0 HP
      go_wp2
      go_roundw
      case rel => exact ⟨i + 1, _, _, by omega, by go_num, HX.out, HBX.out⟩
      case measure => simp [intOf]; omega
    · have e : i = n := by omega
      subst e
      obtain ⟨g, c, rfl, hm⟩ := hv.toMat (by omega)
      have HM := hid hm
      have HB := hid hb
      clear hv hb hm HC HR
      go_wp2
      go_ret
      exact ⟨g, c, G, Q, rfl, HM.out, HB.out⟩

set_option maxRecDepth 100000 in
set_option maxHeartbeats 2000000 in
theorem rcheck_any (p : Option Addr) (n c : Nat) (A : Nat → Option Addr) (L C : Nat → Nat) (w : World) (hn : n ≤ 100) (h : TopAt w p n A L C) :
    Calls Try.prog 76 #[.slice p n c] w fun e w' => e = .returned (.int .i64 (errC n L)) ∧ ∃ q, w' = w.drewN q := by
  by_cases h1 : 32 < n
  · have HE : Hid (errC n L = 3) := by unfold errC; simp [h1]; trivial
    go_enter Try.func76, Try.ntmps76
    go_wp2
    go_ret
    exact ⟨ret_int HE.out.symm, 0, rfl⟩
  · go_enter Try.func76, Try.ntmps76
    go_wp2
    go_loop [3] (fun i => ∃ k : Nat, k ≤ n ∧ i = .int .i64 k ∧ ∀ j, j < k → L j ≤ 32) (fun i => (n - intOf i).toNat)
    case atStart => exact ⟨0, by omega, rfl, fun j hj => absurd hj (by omega)⟩
    case round =>
      obtain ⟨k, hk, rfl, hs⟩ := hrel
      by_cases hlt : k < n
      · obtain ⟨b, o, rfl, hc⟩ := h.pos (by omega)
        have c1 := hc k hlt
        clear h hc
        by_cases hb : 32 < L k
        · have HE : Hid (errC n L = 3) := by unfold errC; rw [tooLong_true k hlt hb]; simp; trivial
          clear hs
          go_wp2
          go_ret
          exact ⟨ret_int HE.out.symm, 0, rfl⟩
        · have HS : Hid (∀ j, j < k + 1 → L j ≤ 32) := fun j hj => by
            by_cases e : j = k
            · subst e; omega
            · exact hs j (by omega)
          clear hs
          go_wp2
          go_round
          case rel => exact ⟨k + 1, by omega, by go_num, HS.out⟩
          case measure => simp [intOf]; omega
      · have hnl : (decide (32 < n) || tooLong n L) = false := by
          rw [Bool.or_eq_false_iff]; exact ⟨by simpa using h1, tooLong_false (fun i hi => hs i (by omega))⟩
        have HNL := hid hnl
        clear hs hnl
        by_cases hn0 : n = 0
        · have HE : Hid (errC n L = 2) := by unfold errC; rw [HNL.out]; simp [hn0]; trivial
          subst hn0
          clear h
          go_wp2
          go_ret
          exact ⟨ret_int HE.out.symm, 0, rfl⟩
        · obtain ⟨b, o, rfl, hc⟩ := h.pos (by omega)
          have c0 := hc 0 (by omega)
          rw [Nat.add_zero] at c0
          have hnz : ((n : Int) == 0) = false := by simpa using hn0
          by_cases h2 : L 0 = 0
          · have HE : Hid (errC n L = 2) := by unfold errC; rw [HNL.out]; simp [h2]; trivial
            have h2' : ((((L 0 : Nat) : Int)) == 0) = true := by simpa using h2
            clear h hc h2
            go_wp2
            go_ret
            exact ⟨ret_int HE.out.symm, 0, rfl⟩
          · have h2' : (((L 0 : Nat) : Int) == 0) = false := by simpa using h2
            have HC := hid hc
            clear h hc
            go_wp2_with fail
            go_loopw [4] (fun i wr => ∃ k q : Nat, k ≤ n ∧ i = .int .i64 k ∧ wr = w.drewN q ∧ ∀ j, j < k → L j = L 0) (fun i _ => (n - intOf i).toNat)
            case atStart => exact ⟨0, 0, by omega, rfl, rfl, fun j hj => absurd hj (by omega)⟩
            case round =>
              obtain ⟨k, q, hk, rfl, hw, hs⟩ := hrel
              have HW := hid hw
              have c0' : wr.cell? ⟨b, o, none⟩ = some (.slice (A 0) (L 0) (C 0)) := by rw [hw]; simpa using c0
              clear c0
              by_cases hlt : k < n
              · have c1 : wr.cell? ⟨b, o + k, none⟩ = some (.slice (A k) (L k) (C k)) := by rw [hw]; simpa using HC.out k hlt
                have hlt' : (k : Int) < (n : Int) := by omega
                have hpos : (0 : Int) < (n : Int) := by omega
                clear hw
                by_cases e : L k = L 0
                · have HS : Hid (∀ j, j < k + 1 → L j = L 0) := fun j hj => by
                    by_cases q : j = k
                    · rw [q]; exact e
                    · exact hs j (by omega)
                  have e' : (((L k : Nat) : Int) != ((L 0 : Nat) : Int)) = false := by rw [e]; simp
                  clear hs e HC
                  go_wp2_with fail
                  go_quiet (fail)
                  go_wp2
                  go_roundw
                  case rel => exact ⟨k + 1, q + nq, by omega, by go_num, by rw [HW.out, World.drewN_drewN], HS.out⟩
                  case measure => simp [intOf]; omega
                · have e' : (((L k : Nat) : Int) != ((L 0 : Nat) : Int)) = true := by simp; omega
                  have HE : Hid (errC n L = 2) := by unfold errC; rw [HNL.out, evenL_false k hlt e]; simp; trivial
                  clear hs HC e
                  go_wp2_with fail
                  go_quiet (fail)
                  go_wp2
                  go_ret
                  exact ⟨ret_int HE.out.symm, q + nq, by rw [HW.out, World.drewN_drewN]⟩
              · have e : evenL n L = true := evenL_true (fun i hi => hs i (by omega))
                have HE : Hid (errC n L = 0) := by unfold errC; rw [HNL.out, e]; simp [hn0, h2]; trivial
                clear hs HC e hw c0'
                go_wp2
                go_ret
                exact ⟨ret_int HE.out.symm, q, HW.out⟩
end Go.Proofs.Ytapgdenodhcliaa
