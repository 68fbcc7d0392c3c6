/- Contracts of Part, Read and Bad of the document's own answer. -/
import Derived.Test.YtgmehiidnclgmaaFr
import Derived.Test.YtgmehiidnclgmaaFl
namespace Go.Proofs.Ytgmehiidnclgmaa
open Go Go.RowKit

structure RPaM (w W : World) (v : Value) (L : List Nat) : Prop where
  buf : BufL w.heap.size W v L
  below : Below w.heap.size w W
structure RBaM (w W : World) (v : Value) (L : List Nat) : Prop where
  buf : BufI w.heap.size W v L
  below : Below w.heap.size w W
def RPartU (w : World) (L : List Nat) (E : Int) (e : Ending) (w' : World) : Prop := ∃ v, e = .returned (.tuple #[v, .int .i64 E]) ∧ BufL w.heap.size w' v L ∧ Below w.heap.size w w'
theorem BufI.pushed {B : Nat} {W : World} {v : Value} {L : List Nat} (hv : BufI B W v L) (k : Nat) (hn : L.length ≤ 100000) (hB : B ≤ W.heap.size) :
    ∃ po kk cc w', (Builtin.append_ #[35, 35] 35 #[v, .slice (some ⟨W.heap.size, 0, none⟩) 1 1]).run Try.prog (W.alloc (.cells #[.int .i64 (k : Int)] 3)) = .ok (.slice po kk cc) w' ∧ BufI B w' (.slice po kk cc) (L ++ [k]) ∧ Below B W w' := by
  obtain ⟨v', w', hr, h2, h3⟩ := hv.push k hn hB
  obtain ⟨po, kk, cc, rfl⟩ := h2.form3
  exact ⟨po, kk, cc, w', hr, h2, ((Below.refl B W).alloc hB _).grown h3 (by simp; omega) (fun j e => (hv.ge j e).1)⟩
theorem bad_succ (y : Nat → Nat) (m n k : Nat) : (List.range (k + 1)).filter (fun i => !snd y m n i) = (List.range k).filter (fun i => !snd y m n i) ++ (if snd y m n k then [] else [k]) := by
  rw [List.range_succ, List.filter_append]
  by_cases h : snd y m n k = true
  · simp [h]
  · simp [h]
set_option maxRecDepth 100000 in
set_option maxHeartbeats 1000000 in
theorem rbad_ok (p : Option Addr) (m c n : Nat) (y : Nat → Nat) (w : World) (hn : n ≤ 65536) (hm : m ≤ 100000) (hc : m ≤ c) (hp : p = none → m = 0 ∧ c = 0) (hy : StrAt w p m y) (hb : ∀ i, i < m → y i < 256) :
    Calls Try.prog 23 #[.slice p m c, .int .i64 (n : Int)] w (ListAt w (badL y m n)) := by
  have HY := hid hy
  have HB := hid hb
  have HP := hid hp
  have hd : mayB (n : Int) = true := decide_eq_true ⟨by omega, by omega⟩
  have hcn : cnt n ≤ 257 := by unfold cnt; omega
  obtain ⟨C, hC⟩ : ∃ C, cnt n = C := ⟨_, rfl⟩
  have HC := hid hC
  rw [hC] at hcn
  clear hy hb hp hC
  go_enter Try.func23, Try.ntmps23
  go_wp2_with (go_at_call 39; refine (rmay_any _ _).mono ?_; rintro e w5 ⟨rfl, hw⟩; have h3 := hw.symm; subst h3; rw [hd])
  go_loopw [6, 7] (fun v i wr => ∃ k : Nat, k ≤ C ∧ i = .int .i64 (k : Int) ∧ RBaM w wr v ((List.range k).filter fun i => !snd y m n i)) (fun _ i _ => (300 - intOf i).toNat)
  case atStart => exact ⟨0, by omega, rfl, BufI.nil _ _, Below.refl _ _⟩
  case round =>
    obtain ⟨k, hk, rfl, hM⟩ := hrel
    by_cases hlt : k < C
    · have hlt' : (k : Int) < (C : Int) := by omega
      have HST := hid (fun W' (hW' : Below w.heap.size w W') => rstands_any p m c y n k W' hn (by rw [HC.out]; exact hlt) hm hc HP.out (HY.out.below hW') HB.out)
      have HSU := hid (bad_succ y m n k)
      have HLL : Hid (((List.range k).filter fun i => !snd y m n i).length ≤ 300) := by
        show _ ≤ _
        exact Nat.le_trans (List.length_filter_le _ _) (by simp; omega)
      obtain ⟨po, k0, cc, hv⟩ := hM.buf.form3
      have HM := hid hM
      subst hv
      clear hM
      go_upto_region 8 with (first
        | (go_at_call 37; refine (rblocks_any n (by omega) _).mono ?_; rintro e w5 ⟨rfl, hw⟩; have h3 := hw.symm; subst h3; rw [HC.out])
        | (go_at_call 42; refine (HST.out _ HM.out.below).mono ?_; rintro e w5 ⟨p2, k2, c2, rfl, hbw, _⟩; have HB5 := hid hbw; clear hbw))
      have HM5 : Hid (RBaM w w5 (.slice po k0 cc) ((List.range k).filter fun i => !snd y m n i)) := ⟨HM.out.buf.below HB5.out, HM.out.below.trans (HB5.out.mono HM.out.below.size)⟩
      obtain ⟨s, hs⟩ : ∃ s, snd y m n k = s := ⟨_, rfl⟩
      rw [hs] at HSU ⊢
      clear hs HST
      cases s with
      | true =>
        go_wp2
        go_roundw
        case rel => exact ⟨k + 1, by omega, by go_num, by rw [HSU.out]; simpa using HM5.out⟩
        case measure => simp [intOf]; omega
      | false =>
        obtain ⟨po8, k8, c8, w8, r8, f8, b8⟩ := HM5.out.buf.pushed k (by have := HLL.out; omega) HM5.out.below.size
        have HR8 := hid r8
        have HM8 : Hid (RBaM w w8 (.slice po8 k8 c8) (((List.range k).filter fun i => !snd y m n i) ++ [k])) := ⟨f8, HM5.out.below.trans b8⟩
        clear r8 f8 b8
        go_wp2_with (refine wpList_append_eq rfl _ _ 35 rfl _ _ rfl rfl _ _ HR8.out ?_)
        go_roundw
        case rel => exact ⟨k + 1, by omega, by go_num, by rw [HSU.out]; exact HM8.out⟩
        case measure => simp [intOf]; omega
    · have hlt' : ¬ (k : Int) < (C : Int) := by omega
      have hkC : k = C := by omega
      have HM := hid hM
      clear hM
      go_wp2_with (go_at_call 37; refine (rblocks_any n (by omega) _).mono ?_; rintro e w5 ⟨rfl, hw⟩; have h3 := hw.symm; subst h3; rw [HC.out])
      go_ret2
      exact ⟨_, rfl, by unfold badL; rw [HC.out, ← hkC]; exact HM.out.buf, HM.out.below⟩
theorem rbad_any (p : Option Addr) (m c : Nat) (y : Nat → Nat) (z : Int) (w : World) (hm : m ≤ 100000) (hc : m ≤ c) (hp : p = none → m = 0 ∧ c = 0) (hy : StrAt w p m y) (hb : ∀ i, i < m → y i < 256) :
    Calls Try.prog 23 #[.slice p m c, .int .i64 z] w (BadU w (bdL y m z) (szE z)) := by
  by_cases h : 0 ≤ z ∧ z ≤ 65536
  · obtain ⟨n, rfl⟩ : ∃ n : Nat, z = n := ⟨z.toNat, by omega⟩
    have hL : bdL y m n = badL y m n := by unfold bdL; rw [if_pos h]; rfl
    rw [hL, szE_nat n (by omega)]
    exact rbad_ok p m c n y w (by omega) hm hc hp hy hb
  · have hL : bdL y m z = [] := by unfold bdL; rw [if_neg h]
    have hE : szE z = 5 := by unfold szE; rw [if_neg h]
    have hd : mayB z = false := decide_eq_false h
    rw [hL, hE]
    go_enter Try.func23, Try.ntmps23
    go_wp2_with (go_at_call 39; refine (rmay_any _ _).mono ?_; rintro e w5 ⟨rfl, hw⟩; have h3 := hw.symm; subst h3; rw [hd])
    go_ret2
    exact ⟨_, rfl, BufI.nil _ _, Below.refl _ _⟩
end Go.Proofs.Ytgmehiidnclgmaa
