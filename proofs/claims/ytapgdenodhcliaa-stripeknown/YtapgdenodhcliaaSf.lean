/- Contracts of match, take and all of package stripe: what is wrong with shards; which are the first k that are there; what was there is as it was. -/
import Derived.Test.YtapgdenodhcliaaSe
import Derived.Test.YtapgdenodhcliaaYe
namespace Go.Proofs.Ytapgdenodhcliaa
open Go.RowKit

/-- A list of bools as it lies in memory. -/
def BoolsAt (w : World) (p : Option Addr) (n : Nat) (H : Nat → Bool) : Prop := n = 0 ∨ ∃ b o, p = some ⟨b, o, none⟩ ∧ ∀ i, i < n → w.cell? ⟨b, o + i, none⟩ = some (.bool (H i))
theorem BoolsAt.keep {w w' : World} {p : Option Addr} {n : Nat} {H : Nat → Bool} (h : BoolsAt w p n H) (k : Stays w w') : BoolsAt w' p n H := by
  rcases h with h | ⟨b, o, h, hc⟩
  · exact .inl h
  · exact .inr ⟨b, o, h, fun i hi => k _ _ (hc i hi)⟩
theorem BoolsAt.pos {w : World} {p : Option Addr} {n : Nat} {H : Nat → Bool} (h : BoolsAt w p n H) (hn : 0 < n) : ∃ b o, p = some ⟨b, o, none⟩ ∧ ∀ i, i < n → w.cell? ⟨b, o + i, none⟩ = some (.bool (H i)) := by
  rcases h with h | h
  · omega
  · exact h

set_option maxRecDepth 100000 in
set_option maxHeartbeats 2000000 in
theorem match_any3 (p q : Option Addr) (n cs ch : Nat) (A : Nat → Option Addr) (L C : Nat → Nat) (H : Nat → Bool) (z : Int) (w : World) (hn : n ≤ 1000) (hz : -1 ≤ z) (h : TopAt w p n A L C) (hH : BoolsAt w q n H) :
    Calls Try.prog 43 #[.slice p n cs, .slice q n ch, .int .i64 n, .int .i64 z] w fun e w' => e = .returned (.int .i64 (errMt n n n H L z)) ∧ w' = w := by
  have hne : ((n : Int) != (n : Int)) = false := by simp
  have HT := hid h
  have HH := hid hH
  clear h hH
  go_enter Try.func43, Try.ntmps43
  go_wp2
  go_loop [25] (fun i => ∃ r : Nat, r ≤ n ∧ i = .int .i64 r ∧ ∀ j, j < r → H j = true → L j ≤ 65536) (fun i => (n - intOf i).toNat)
  case atStart => exact ⟨0, by omega, rfl, fun j hj => absurd hj (by omega)⟩
  case round =>
    obtain ⟨r, hr, rfl, hs⟩ := hrel
    by_cases hlt : r < n
    · obtain ⟨b, o, rfl, hc⟩ := HT.out.pos (by omega)
      obtain ⟨b', o', rfl, hc'⟩ := HH.out.pos (by omega)
      have c1 := hc r hlt
      have c2 := hc' r hlt
      clear hc hc' HT HH
      cases hq : H r with
      | false =>
        rw [hq] at c2
        have HS : Hid (∀ j, j < r + 1 → H j = true → L j ≤ 65536) := fun j hj hj2 => by
          by_cases e : j = r
          · subst e; rw [hq] at hj2; cases hj2
          · exact hs j (by omega) hj2
        clear hs
        go_wp2
        go_round
        case rel => exact ⟨r + 1, by omega, by go_num, HS.out⟩
        case measure => simp [intOf]; omega
      | true =>
        rw [hq] at c2
        by_cases hb : 65536 < L r
        · have HE : Hid (errMt n n n H L z = 3) := by
            show errMt n n n H L z = 3
            unfold errMt; rw [if_neg (by omega), anyLong_true r hlt hq hb, if_pos rfl]
          clear hs
          go_wp2
          go_ret
          exact ⟨ret_int HE.out.symm, rfl⟩
        · have HS : Hid (∀ j, j < r + 1 → H j = true → L j ≤ 65536) := fun j hj hj2 => by
            by_cases e : j = r
            · subst e; omega
            · exact hs j (by omega) hj2
          clear hs
          go_wp2
          go_round
          case rel => exact ⟨r + 1, by omega, by go_num, HS.out⟩
          case measure => simp [intOf]; omega
    · have HL : Hid (anyLong n H L = false) := anyLong_false (fun i hi => hs i (by omega))
      clear hs
      go_wp2_with fail
      go_loop [3, 42] (fun v i => ∃ r : Nat, r ≤ n ∧ i = .int .i64 r ∧ v = .int .i64 (lenSt H L z r) ∧ ∀ j, j < r → H j = true → (L j : Int) = lenSt H L z (j + 1)) (fun _ i => (n - intOf i).toNat)
      case atStart => exact ⟨0, by omega, rfl, rfl, fun j hj => absurd hj (by omega)⟩
      case round =>
        clear hlt hr
        obtain ⟨r, hr, rfl, rfl, hs⟩ := hrel
        by_cases hlt : r < n
        · obtain ⟨b, o, rfl, hc⟩ := HT.out.pos (by omega)
          obtain ⟨b', o', rfl, hc'⟩ := HH.out.pos (by omega)
          have c1 := hc r hlt
          have c2 := hc' r hlt
          clear hc hc' HT HH
          cases hq : H r with
          | false =>
            rw [hq] at c2
            have HS : Hid (∀ j, j < r + 1 → H j = true → (L j : Int) = lenSt H L z (j + 1)) := fun j hj hj2 => by
              by_cases e : j = r
              · subst e; rw [hq] at hj2; cases hj2
              · exact hs j (by omega) hj2
            have HV : Hid (lenSt H L z (r + 1) = lenSt H L z r) := by
              show lenSt H L z (r + 1) = lenSt H L z r
              rw [lenSt_succ, if_neg (fun e => by rw [hq] at e; exact absurd e.1 (by decide))]
            clear hs
            go_wp2
            go_round
            case rel => exact ⟨r + 1, by omega, by go_num, by rw [HV.out], HS.out⟩
            case measure => simp [intOf]; omega
          | true =>
            rw [hq] at c2
            have hlo := lenSt_lo (H := H) (L := L) hz r
            by_cases hneg : lenSt H L z r = -1
            · have HV : Hid (lenSt H L z (r + 1) = (L r : Int)) := by
                show lenSt H L z (r + 1) = (L r : Int)
                rw [lenSt_succ, if_pos ⟨hq, by omega⟩]
              have HS : Hid (∀ j, j < r + 1 → H j = true → (L j : Int) = lenSt H L z (j + 1)) := fun j hj hj2 => by
                by_cases e : j = r
                · subst e; exact HV.out.symm
                · exact hs j (by omega) hj2
              have e1 : (lenSt H L z r == -1) = true := by simpa using hneg
              have e2 : (((L r : Nat) : Int) != ((L r : Nat) : Int)) = false := by simp
              clear hs hneg hlo
              go_wp2
              go_round
              case rel => exact ⟨r + 1, by omega, by go_num, by rw [HV.out], HS.out⟩
              case measure => simp [intOf]; omega
            · have HV : Hid (lenSt H L z (r + 1) = lenSt H L z r) := by
                show lenSt H L z (r + 1) = lenSt H L z r
                rw [lenSt_succ, if_neg (by omega)]
              have e1 : (lenSt H L z r == -1) = false := by simpa using hneg
              by_cases hb : (L r : Int) = lenSt H L z r
              · have HS : Hid (∀ j, j < r + 1 → H j = true → (L j : Int) = lenSt H L z (j + 1)) := fun j hj hj2 => by
                  by_cases e : j = r
                  · subst e; rw [HV.out]; exact hb
                  · exact hs j (by omega) hj2
                have e2 : (((L r : Nat) : Int) != lenSt H L z r) = false := by simpa using hb
                clear hs hneg hlo hb
                go_wp2
                go_round
                case rel => exact ⟨r + 1, by omega, by go_num, by rw [HV.out], HS.out⟩
                case measure => simp [intOf]; omega
              · have HE : Hid (errMt n n n H L z = 2) := by
                  show errMt n n n H L z = 2
                  unfold errMt; rw [if_neg (by omega), HL.out, if_neg (by decide), anyOdd_true r hlt hq (by rw [HV.out]; exact hb), if_pos rfl]
                have e2 : (((L r : Nat) : Int) != lenSt H L z r) = true := by simpa using hb
                clear hs hneg hlo hb
                go_wp2
                go_ret
                exact ⟨ret_int HE.out.symm, rfl⟩
        · have HE : Hid (errMt n n n H L z = 0) := by
            show errMt n n n H L z = 0
            unfold errMt; rw [if_neg (by omega), HL.out, if_neg (by decide), anyOdd_false (fun i hi q => hs i (by omega) q), if_neg (by decide)]
          clear hs
          go_wp2
          go_ret
          exact ⟨ret_int HE.out.symm, rfl⟩
set_option maxRecDepth 100000 in
set_option maxHeartbeats 1000000 in
theorem matchS_any (p q : Option Addr) (ns cs nh ch n : Nat) (A : Nat → Option Addr) (L C : Nat → Nat) (H : Nat → Bool) (z : Int) (w : World) (hn : n ≤ 1000) (hz : -1 ≤ z) (h : TopAt w p ns A L C) (hH : BoolsAt w q nh H) :
    Calls Try.prog 43 #[.slice p ns cs, .slice q nh ch, .int .i64 n, .int .i64 z] w fun e w' => e = .returned (.int .i64 (errMt ns nh n H L z)) ∧ w' = w := by
  by_cases h1 : ns = n
  · by_cases h2 : nh = n
    · subst h1; subst h2
      exact match_any3 p q _ cs ch A L C H z w hn hz h hH
    · have HE : Hid (errMt ns nh n H L z = 2) := by
        show errMt ns nh n H L z = 2
        unfold errMt; rw [if_pos (.inr h2)]
      have e1 : ((ns : Int) != (n : Int)) = false := by simp; omega
      have e2 : ((nh : Int) != (n : Int)) = true := by simp; omega
      clear h1 h2 h hH
      go_enter Try.func43, Try.ntmps43
      go_wp2
      go_ret
      exact ⟨ret_int HE.out.symm, rfl⟩
  · have HE : Hid (errMt ns nh n H L z = 2) := by
      show errMt ns nh n H L z = 2
      unfold errMt; rw [if_pos (.inl h1)]
    have e1 : ((ns : Int) != (n : Int)) = true := by simp; omega
    clear h1 h hH
    go_enter Try.func43, Try.ntmps43
    go_wp2
    go_ret
    exact ⟨ret_int HE.out.symm, rfl⟩

set_option maxRecDepth 100000 in
set_option maxHeartbeats 4000000 in
theorem take_any3 (q : Option Addr) (n ch k : Nat) (H : Nat → Bool) (w : World) (hn : n ≤ 1000) (hk : k ≤ 1000) (hH : BoolsAt w q n H) :
    Calls Try.prog 59 #[.slice q n ch, .int .i64 k] w fun e w' => ∃ v, e = .returned v ∧ w'.ownsRow w.heap.size 3 1 v (tk H k n).length (pivV (tk H k n)) ∧ Below w.heap.size w w' := by
  obtain ⟨i0, hi0, hz0, hz1, hz2⟩ := info_parts Try.info3
  have HH := hid hH
  clear hH
  go_enter Try.func59, Try.ntmps59
  go_wp2_with fail
  go_step3
  go_wp2_with fail
  go_step3
  go_wp2_with fail
  go_loopg [5, 10] n (fun gk v i wr => ∃ r : Nat, r ≤ n ∧ gk = n - r ∧ i = .int .i64 r ∧ wr.ownsRow w.heap.size 3 1 v (tk H k r).length (pivV (tk H k r)) ∧ Below w.heap.size w wr)
  case atStart => exact ⟨0, by omega, rfl, rfl, World.ownsRow_nil _ _ _ _, Below.refl _ _⟩
  case round =>
    obtain ⟨r, hr, hgk, rfl, hv, hb⟩ := hrel
    have HG := hid hgk
    have hlen := tk_len H k r
    have hcn := cn_le H r
    obtain ⟨pv, cv, rfl, _⟩ := own_len hv
    clear hgk
    by_cases hlt : r < n
    · obtain ⟨b, o, rfl, hc⟩ := HH.out.pos (by omega)
      have c1 := Stays.of_below hb _ _ (hc r hlt)
      have HV := hid hv
      have HB := hid hb
      have hsz := hb.size
      clear hv hb hc HH
      by_cases hf : (tk H k r).length = k
      · have hf' : ((((tk H k r).length : Nat) : Int) == (k : Int)) = true := by simp; omega
        have HE := hid (tk_end hf (n := n) (by omega))
        clear hf hlen hcn
        go_wp2
        rw [Exit.noGoto_ret]
        go_ret
        exact ⟨_, rfl, by rw [HE.out]; exact HV.out, HB.out⟩
      · have hf' : ((((tk H k r).length : Nat) : Int) == (k : Int)) = false := by simp; omega
        cases hq : H r with
        | false =>
          rw [hq] at c1
          have HT := hid (tk_off (k := k) hq)
          clear hf hlen hcn
          go_wp2
          go_roundg (n - (r + 1))
          case measure => have := HG.out; omega
          case rel => exact ⟨r + 1, by omega, rfl, by go_num, by rw [HT.out]; exact HV.out, HB.out⟩
        | true =>
          rw [hq] at c1
          have HT := hid (tk_on (H := H) (k := k) (i := r) (by omega) hq)
          have HN : Hid (∀ q u, [Value.int .i64 ((r : Nat) : Int)][q]? = some u → (wr.alloc (.cells #[.int .i64 ((r : Nat) : Int)] 3)).cell? ((⟨wr.heap.size, 0, none⟩ : Addr).add q) = some u) :=
            World.news_of_block (cs := #[.int .i64 ((r : Nat) : Int)]) (t := 3) (fr := (0, 0)) (heap_alloc_new _ _)
          have hll : (tk H k r).length ≤ 1000 := by omega
          clear hf hlen hcn
          go_wp2_with (at_builtin; refine wpList_append_lies _ rfl _ _ 46 rfl w.heap.size 3 i0 (.int .i64 0) 1 8 Try.underlying46 hi0 hz0 hz1 hz2 rfl (by omega) (.slice pv (tk H k r).length cv) (tk H k r).length (pivV (tk H k r)) rfl (HV.out.alloc _) ⟨wr.heap.size, 0, none⟩ 1 1 [.int .i64 ((r : Nat) : Int)] rfl rfl HN.out (by intro u hu; simp at hu; subst hu; rfl) (by omega) (by unfold maxLen; omega) (by omega) (by simp; omega) _ rfl ?_; intro gg cap w4 hown4 hgrow hat hlt4)
          have HX : Hid (w4.ownsRow w.heap.size 3 1 (.slice (some ⟨gg, 0, none⟩) ((tk H k r).length + 1) cap) ((tk H k r).length + 1) (pivV (tk H k r ++ [r]))) := by
            rw [pivV_append]; exact hown4
          have HBX : Hid (Below w.heap.size w w4) := Below.grown (HB.out.alloc hsz _) hgrow (by simp; omega) (fun b hb => (HV.out.lt b hb).1)
          clear hown4 hgrow hat hlt4 HN HV HB
          go_wp2
          go_roundg (n - (r + 1))
          case measure => have := HG.out; omega
          case rel => exact ⟨r + 1, by omega, rfl, by go_num, by rw [HT.out, List.length_append]; exact HX.out, HBX.out⟩
    · have e : r = n := by omega
      subst e
      have HV := hid hv
      have HB := hid hb
      clear hv hb HH hlen hcn
      go_wp2
      rw [Exit.noGoto_ret]
      go_ret
      exact ⟨_, rfl, HV.out, HB.out⟩
end Go.Proofs.Ytapgdenodhcliaa
