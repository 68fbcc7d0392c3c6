/- Contracts of wrong, Mended and Mend of the document's own answer, and of Pick: as the program's; what was there is as it was. -/
import Derived.Test.YtapgdenodhcliaaTa
namespace Go.Proofs.Ytapgdenodhcliaa
open Go.RowKit

set_option maxRecDepth 100000 in
set_option maxHeartbeats 4000000 in
theorem rwrong_any3 (p q : Option Addr) (cs ch k m : Nat) (A : Nat → Option Addr) (L C : Nat → Nat) (H : Nat → Bool) (z : Int) (w : World) (hn : k + m ≤ 100) (hz : -1 ≤ z) (h : TopAt w p (k + m) A L C) (hH : BoolsAt w q (k + m) H) :
    Calls Try.prog 45 #[.slice p (k + m) cs, .slice q (k + m) ch, .int .i64 k, .int .i64 m, .int .i64 z] w fun e w' => e = .returned (.int .i64 (errMd k m (k + m) (k + m) H L z)) ∧ w' = w := by
  have hne : (((k : Int) + (m : Int)) != ((k : Int) + (m : Int))) = false := by simp
  have HT := hid h
  have HH := hid hH
  clear h hH
  go_enter Try.func45, Try.ntmps45
  go_wp2
  go_loop [13] (fun i => ∃ r : Nat, r ≤ k + m ∧ i = .int .i64 r ∧ ∀ j, j < r → H j = true → L j ≤ 65536) (fun i => ((k + m : Nat) - intOf i).toNat)
  case atStart => exact ⟨0, by omega, rfl, fun j hj => absurd hj (by omega)⟩
  case round =>
    obtain ⟨r, hr, rfl, hs⟩ := hrel
    by_cases hlt : r < k + m
    · obtain ⟨b, o, rfl, hc⟩ := HT.out.pos (by omega)
      obtain ⟨b', o', rfl, hc'⟩ := HH.out.pos (by omega)
      have c1 := hc r hlt
      have c2 := hc' r hlt
      clear hc hc' HT HH
      cases hq : H r with
      | false =>
        rw [hq] at c2
        have HS : Hid (∀ j, j < r + 1 → H j = true → L j ≤ 65536) := fun j hj hj2 => by
          by_cases e : j = r
          · subst e; rw [hq] at hj2; cases hj2
          · exact hs j (by omega) hj2
        clear hs
        go_wp2
        go_round
        case rel => exact ⟨r + 1, by omega, by go_num, HS.out⟩
        case measure => simp [intOf]; omega
      | true =>
        rw [hq] at c2
        by_cases hb : 65536 < L r
        · have HE : Hid (errMd k m (k + m) (k + m) H L z = 3) := by
            have h9 : errMt (k + m) (k + m) (k + m) H L z = 3 := by unfold errMt; rw [if_neg (by omega), anyLong_true r hlt hq hb, if_pos rfl]
            exact hid ((errMd_bad (by rw [h9]; decide)).trans h9)
          clear hs
          go_wp2
          go_ret
          exact ⟨ret_int HE.out.symm, rfl⟩
        · have HS : Hid (∀ j, j < r + 1 → H j = true → L j ≤ 65536) := fun j hj hj2 => by
            by_cases e : j = r
            · subst e; omega
            · exact hs j (by omega) hj2
          clear hs
          go_wp2
          go_round
          case rel => exact ⟨r + 1, by omega, by go_num, HS.out⟩
          case measure => simp [intOf]; omega
    · have HL : Hid (anyLong (k + m) H L = false) := anyLong_false (fun i hi => hs i (by omega))
      clear hs
      go_wp2_with fail
      go_loop [11, 12, 14] (fun t v i => ∃ r : Nat, r ≤ k + m ∧ i = .int .i64 r ∧ t = .int .i64 ((cn H r : Nat) : Int) ∧ v = .int .i64 (lenSt H L z r) ∧ ∀ j, j < r → H j = true → (L j : Int) = lenSt H L z (j + 1)) (fun _ _ i => ((k + m : Nat) - intOf i).toNat)
      case atStart => exact ⟨0, by omega, rfl, rfl, rfl, fun j hj => absurd hj (by omega)⟩
      case round =>
        clear hlt hr
        obtain ⟨r, hr, rfl, rfl, rfl, hs⟩ := hrel
        have hcs := cn_succ H r
        have hcl := cn_le H r
        by_cases hlt : r < k + m
        · obtain ⟨b, o, rfl, hc⟩ := HT.out.pos (by omega)
          obtain ⟨b', o', rfl, hc'⟩ := HH.out.pos (by omega)
          have c1 := hc r hlt
          have c2 := hc' r hlt
          clear hc hc' HT HH
          cases hq : H r with
          | false =>
            rw [hq] at c2
            have HS : Hid (∀ j, j < r + 1 → H j = true → (L j : Int) = lenSt H L z (j + 1)) := fun j hj hj2 => by
              by_cases e : j = r
              · subst e; rw [hq] at hj2; cases hj2
              · exact hs j (by omega) hj2
            have HV : Hid (lenSt H L z (r + 1) = lenSt H L z r) := by
              show lenSt H L z (r + 1) = lenSt H L z r
              rw [lenSt_succ, if_neg (fun e => by rw [hq] at e; exact absurd e.1 (by decide))]
            have HCN : Hid (cn H (r + 1) = cn H r) := by
              show cn H (r + 1) = cn H r
              rw [hcs, hq, if_neg (by decide), Nat.add_zero]
            clear hs hcs hcl
            go_wp2
            go_round
            case rel => exact ⟨r + 1, by omega, by go_num, by rw [HCN.out], by rw [HV.out], HS.out⟩
            case measure => simp [intOf]; omega
          | true =>
            rw [hq] at c2
            have HCN : Hid (cn H (r + 1) = cn H r + 1) := by
              show cn H (r + 1) = cn H r + 1
              rw [hcs, hq, if_pos rfl]
            have hlo := lenSt_lo (H := H) (L := L) hz r
            by_cases hneg : lenSt H L z r < 0
            · have HV : Hid (lenSt H L z (r + 1) = (L r : Int)) := by
                show lenSt H L z (r + 1) = (L r : Int)
                rw [lenSt_succ, if_pos ⟨hq, hneg⟩]
              have HS : Hid (∀ j, j < r + 1 → H j = true → (L j : Int) = lenSt H L z (j + 1)) := fun j hj hj2 => by
                by_cases e : j = r
                · subst e; exact HV.out.symm
                · exact hs j (by omega) hj2
              have e2 : (((L r : Nat) : Int) != ((L r : Nat) : Int)) = false := by simp
              clear hs hlo hcs
              go_wp2
              go_round
              case rel => exact ⟨r + 1, by omega, by go_num, by rw [HCN.out]; go_num, by rw [HV.out], HS.out⟩
              case measure => simp [intOf]; omega
            · have HV : Hid (lenSt H L z (r + 1) = lenSt H L z r) := by
                show lenSt H L z (r + 1) = lenSt H L z r
                rw [lenSt_succ, if_neg (by omega)]
              by_cases hb : (L r : Int) = lenSt H L z r
              · have HS : Hid (∀ j, j < r + 1 → H j = true → (L j : Int) = lenSt H L z (j + 1)) := fun j hj hj2 => by
                  by_cases e : j = r
                  · subst e; rw [HV.out]; exact hb
                  · exact hs j (by omega) hj2
                have e2 : (((L r : Nat) : Int) != lenSt H L z r) = false := by simpa using hb
                clear hs hlo hb hcs
                go_wp2
                go_round
                case rel => exact ⟨r + 1, by omega, by go_num, by rw [HCN.out]; go_num, by rw [HV.out], HS.out⟩
                case measure => simp [intOf]; omega
              · have HE : Hid (errMd k m (k + m) (k + m) H L z = 2) := by
                  have h9 : errMt (k + m) (k + m) (k + m) H L z = 2 := by unfold errMt; rw [if_neg (by omega), HL.out, if_neg (by decide), anyOdd_true r hlt hq (by rw [HV.out]; exact hb), if_pos rfl]
                  exact hid ((errMd_bad (by rw [h9]; decide)).trans h9)
                have e2 : (((L r : Nat) : Int) != lenSt H L z r) = true := by simpa using hb
                clear hs hlo hb hcs
                go_wp2
                go_ret
                exact ⟨ret_int HE.out.symm, rfl⟩
        · have e : r = k + m := by omega
          have h9 : errMt (k + m) (k + m) (k + m) H L z = 0 := by
            unfold errMt; rw [if_neg (by omega), HL.out, if_neg (by decide), anyOdd_false (fun i hi q => hs i (by omega) q), if_neg (by decide)]
          by_cases hf : cn H r < k
          · have HE : Hid (errMd k m (k + m) (k + m) H L z = 10) := hid (errMd_few h9 (by rw [← e]; exact hf))
            clear hs h9 hcs e
            go_wp2
            go_ret
            exact ⟨ret_int HE.out.symm, rfl⟩
          · have HE : Hid (errMd k m (k + m) (k + m) H L z = 0) := hid (errMd_ok h9 (by rw [← e]; omega))
            clear hs h9 hcs e
            go_wp2
            go_ret
            exact ⟨ret_int HE.out.symm, rfl⟩
set_option maxRecDepth 100000 in
set_option maxHeartbeats 1000000 in
theorem rwrong_any (p q : Option Addr) (ns cs nh ch k m : Nat) (A : Nat → Option Addr) (L C : Nat → Nat) (H : Nat → Bool) (z : Int) (w : World) (hn : k + m ≤ 100) (hz : -1 ≤ z) (h : TopAt w p ns A L C) (hH : BoolsAt w q nh H) :
    Calls Try.prog 45 #[.slice p ns cs, .slice q nh ch, .int .i64 k, .int .i64 m, .int .i64 z] w fun e w' => e = .returned (.int .i64 (errMd k m ns nh H L z)) ∧ w' = w := by
  by_cases h1 : ns = k + m
  · by_cases h2 : nh = k + m
    · subst h1; subst h2
      exact rwrong_any3 p q cs ch k m A L C H z w hn hz h hH
    · have HE : Hid (errMd k m ns nh H L z = 2) := by
        have h9 : errMt ns nh (k + m) H L z = 2 := by unfold errMt; rw [if_pos (.inr h2)]
        exact hid ((errMd_bad (by rw [h9]; decide)).trans h9)
      have e1 : ((ns : Int) != (k : Int) + (m : Int)) = false := by simp; omega
      have e2 : ((nh : Int) != (k : Int) + (m : Int)) = true := by simp; omega
      clear h1 h2 h hH
      go_enter Try.func45, Try.ntmps45
      go_wp2
      go_ret
      exact ⟨ret_int HE.out.symm, rfl⟩
  · have HE : Hid (errMd k m ns nh H L z = 2) := by
      have h9 : errMt ns nh (k + m) H L z = 2 := by unfold errMt; rw [if_pos (.inl h1)]
      exact hid ((errMd_bad (by rw [h9]; decide)).trans h9)
    have e1 : ((ns : Int) != (k : Int) + (m : Int)) = true := by simp; omega
    clear h1 h hH
    go_enter Try.func45, Try.ntmps45
    go_wp2
    go_ret
    exact ⟨ret_int HE.out.symm, rfl⟩

set_option maxRecDepth 100000 in
set_option maxHeartbeats 4000000 in
theorem rpick_any (p q : Option Addr) (n m c k d : Nat) (A : Nat → Option Addr) (C : Nat → Nat) (X : Nat → Nat → K) (R : Nat → Nat) (w : World) (h0 : 1 ≤ n) (hn : n ≤ 32) (h1 : 1 ≤ m) (hm : m ≤ 32) (hk0 : 1 ≤ k) (hk : k ≤ 32)
    (h : MatAt w p n A (fun _ => m) C X) (hR : IntsAt w q k fun i => ((R i : Nat) : Int)) (hlt : ∀ i, i < k → R i < n) :
    Calls Try.prog 63 #[.slice p n c, .slice q k d] w fun e w' => ∃ g cp G Q, e = .returned (.tuple #[.slice (some ⟨g, 0, none⟩) k cp, .int .i64 0]) ∧ OwnMat w.heap.size w' g cp k m G Q (fun i j => X (R i) j) ∧ Below w.heap.size w w' := by
  obtain ⟨i0, hi0, hz0, hz1, hz2⟩ := info_parts Try.info22
  have HE : Hid (errC n (fun _ => m) = 0) := errC_ok h0 hn h1 hm (fun _ _ => rfl)
  have T := hid h.top
  obtain ⟨b, o, rfl, bs, os, hc, hr⟩ := h.at (by omega) (by omega)
  obtain ⟨bq, oq, rfl, hcq⟩ := hR.pos (by omega)
  have HC := hid hc
  have HR := hid hr
  have HQ := hid hcq
  have HLT := hid hlt
  clear h hc hr hR hcq hlt
  go_enter Try.func63, Try.ntmps63
  go_wp2_with fail
  refine (rcheck_any _ n _ _ _ _ w (by omega) T.out).mono ?_
  rintro e w1 ⟨rfl, z1, hw1⟩
  have B1 : Hid (Below w.heap.size w w1) := by rw [hw1]; exact keep_drewN w z1
  rw [HE.out]
  clear hw1 T HE
  have hnz : ((k : Int) == 0) = false := by simp; omega
  go_wp2_with fail
  go_loopw [7, 8] (fun v x wr => ∃ i : Nat, ∃ G Q : Nat → Nat, i ≤ k ∧ x = .int .i64 i ∧ OwnV w.heap.size wr v i G (fun _ => m) Q (fun _ => m) Q (fun i j => X (R i) j) ∧ Below w.heap.size w wr) (fun _ x _ => (k - intOf x).toNat)
  case atStart => exact ⟨0, fun _ => 0, fun _ => 0, by omega, rfl, OwnV.start _ _ _ _ _ _ _ _, B1.out⟩
  case round =>
    clear B1
    obtain ⟨i, G, Q, hi, rfl, hv, hb⟩ := hrel
    by_cases hlt : i < k
    · have hsz := hb.size
      have hri := HLT.out i hlt
      have c1 := Stays.of_below hb _ _ (HQ.out i hlt)
      have c2 := Stays.of_below hb _ _ (HC.out (R i) hri)
      have r1 := (HR.out (R i) hri).keep (Stays.of_below hb)
      have hbl : bs (R i) < wr.heap.size := World.block_lt_of_cell? wr _ (r1 0 (by omega))
      obtain ⟨g1, cp1, w1, hr1, hg1, ho1, hb1⟩ := copy0 wr w.heap.size hsz ⟨bs (R i), os (R i), none⟩ m (C (R i)) (X (R i)) (by omega) (vals_cells (fun j hj => by
        rw [World.cell?_alloc_lt _ _ _ hbl]; exact r1 j hj))
      have c1a : (wr.alloc (.cells #[] 5)).cell? ⟨bq, oq + i, none⟩ = some (.int .i64 ((R i : Nat) : Int)) := by rw [World.cell?_alloc_lt _ _ _ (World.block_lt_of_cell? wr _ c1)]; exact c1
      have c2a : (wr.alloc (.cells #[] 5)).cell? ⟨b, o + R i, none⟩ = some (.slice (some ⟨bs (R i), os (R i), none⟩) m (C (R i))) := by rw [World.cell?_alloc_lt _ _ _ (World.block_lt_of_cell? wr _ c2)]; exact c2
      have HV := hid hv
      have HB := hid hb
      have HR1 := hid hr1
      have O1 := hid ho1
      have B1 := hid hb1
      have hsz1 := hb1.size
      have HT := hid (HV.out.top_alloc B1.out (.cells #[.slice (some ⟨g1, 0, none⟩) m cp1] 22))
      have HN := hid (news_one w1 (.slice (some ⟨g1, 0, none⟩) m cp1))
      clear hv hb r1 hr1 ho1 hb1 HC HR HQ HLT
      go_wp2_with (first | (at_builtin; refine wpList_append_run (.tmp 41) (.tmp 48) 22 rfl (by first | rfl | simp [Region.wanted, yielded]) _ _ (.slice (some ⟨g1, 0, none⟩) m cp1) rfl rfl HR1.out ?_) | (at_builtin; refine wpList_append_lies _ rfl (.tmp 40) (.tmp 50) 24 rfl w.heap.size 22 i0 (.slice none 0 0) 1 24 Try.underlying24 hi0 hz0 hz1 hz2 rfl (by omega) u7 i _ rfl HT.out ⟨w1.heap.size, 0, none⟩ 1 1 [.slice (some ⟨g1, 0, none⟩) m cp1] rfl rfl HN.out (by intro u hu; simp at hu; subst hu; rfl) (by omega) (by unfold maxLen; omega) (by omega) (by simp; omega) _ rfl ?_; intro gg cap w4 hown4 hgrow hat hlt4))
      have HX := hid (HV.out.push B1.out g1 cp1 cp1 hg1 O1.out hgrow hown4)
      have HBX := hid (HV.out.bound (HB.out.trans (B1.out.mono hsz)) (by omega) hgrow)
      clear hown4 hgrow hat hlt4 HT HN HV HB O1 B1
      go_wp2
      go_roundw
      case rel => exact ⟨i + 1, _, _, by omega, by go_num, HX.out, HBX.out⟩
      case measure => simp [intOf]; omega
    · have e : i = k := by omega
      subst e
      obtain ⟨g, c, rfl, hm⟩ := hv.toMat (by omega)
      have HM := hid hm
      have HB := hid hb
      clear hv hb hm HC HR HQ HLT
      go_wp2
      go_ret2
      exact ⟨g, c, G, Q, rfl, HM.out, HB.out⟩
end Go.Proofs.Ytapgdenodhcliaa
