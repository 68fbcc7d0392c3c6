/- Contracts of blocks, may, Size and Lay of the document's own answer. -/
import Derived.Test.YtgmehiidnclgmaaFd
namespace Go.Proofs.Ytgmehiidnclgmaa
open Go Go.RowKit

theorem rblocks_any (n : Nat) (hn : n ≤ 1000000) (w : World) : Calls Try.prog 37 #[.int .i64 (n : Int)] w fun e w' => e = .returned (.int .i64 ((cnt n : Nat) : Int)) ∧ w' = w := by
  have e1 : IntKind.i64.wrap ((n : Int) + 256) = (n : Int) + 256 := IntWalk.i64_in _ ⟨by omega, by omega⟩
  have e2 : IntKind.i64.wrap ((n : Int) + 256 - 1) = (n : Int) + 255 := by rw [IntWalk.i64_in _ ⟨by omega, by omega⟩]; omega
  have e3 : IntKind.i64.wrap (((n : Int) + 255).tdiv 256) = ((cnt n : Nat) : Int) := by rw [IntWalk.i64_quo _ _ ⟨by omega, by omega, by omega⟩]; unfold cnt; omega
  go_enter Try.func37, Try.ntmps37
  go_wp2
  go_ret
  exact ⟨rfl, rfl⟩
def mayB (z : Int) : Bool := decide (0 ≤ z ∧ z ≤ 65536)
theorem rmay_any (z : Int) (w : World) : Calls Try.prog 39 #[.int .i64 z] w fun e w' => e = .returned (.bool (mayB z)) ∧ w' = w := by
  have hd : mayB z = decide (0 ≤ z ∧ z ≤ 65536) := rfl
  by_cases h : 0 ≤ z
  · by_cases h2 : z ≤ 65536
    · rw [decide_eq_true ⟨h, h2⟩] at hd
      go_enter Try.func39, Try.ntmps39
      go_wp2
      go_ret
      try rw [hd]
      exact ⟨rfl, rfl⟩
    · rw [decide_eq_false (fun q => h2 q.2)] at hd
      go_enter Try.func39, Try.ntmps39
      go_wp2
      go_ret
      try rw [hd]
      exact ⟨rfl, rfl⟩
  · rw [decide_eq_false (fun q => h q.1)] at hd
    go_enter Try.func39, Try.ntmps39
    go_wp2
    go_ret
    try rw [hd]
    exact ⟨rfl, rfl⟩
theorem rsize_any (z : Int) (w : World) : Calls Try.prog 13 #[.int .i64 z] w fun e w' => e = .returned (.tuple #[.int .i64 (szV z), .int .i64 (szE z)]) ∧ w' = w := by
  by_cases h : 0 ≤ z ∧ z ≤ 65536
  · obtain ⟨n, rfl⟩ : ∃ n : Nat, z = n := ⟨z.toNat, by omega⟩
    have hn : n ≤ 65536 := by omega
    have hd : mayB (n : Int) = true := decide_eq_true h
    rw [szV_nat n hn, szE_nat n hn]
    have hcn : cnt n ≤ 256 := by unfold cnt; omega
    have HE := hid (rfl : cnt n = cnt n)
    obtain ⟨k, hk⟩ : ∃ k, cnt n = k := ⟨_, rfl⟩
    rw [hk] at hcn ⊢
    have e4 : IntKind.i64.wrap (32 * (k : Int)) = 32 * (k : Int) := IntWalk.i64_in _ ⟨by omega, by omega⟩
    have e5 : IntKind.i64.wrap ((n : Int) + 32 * (k : Int)) = ((n + 32 * k : Nat) : Int) := by rw [IntWalk.i64_in _ ⟨by omega, by omega⟩]; omega
    go_enter Try.func13, Try.ntmps13
    go_wp2_with (first
      | (go_at_call 39; refine (rmay_any _ _).mono ?_; rintro e w5 ⟨rfl, rfl⟩; rw [hd])
      | (go_at_call 37; refine (rblocks_any n (by omega) _).mono ?_; rintro e w5 ⟨rfl, rfl⟩; rw [hk]))
    go_ret2
    refine ⟨?_, rfl⟩
    simp
  · have hd : mayB z = false := decide_eq_false h
    have hV : szV z = 0 := by unfold szV; rw [if_neg h]
    have hE : szE z = 5 := by unfold szE; rw [if_neg h]
    rw [hV, hE]
    go_enter Try.func13, Try.ntmps13
    go_wp2_with (go_at_call 39; refine (rmay_any _ _).mono ?_; rintro e w5 ⟨rfl, rfl⟩; rw [hd])
    go_ret2
    exact ⟨rfl, rfl⟩
structure RLayM (w W : World) (v : Value) (L : List Nat) : Prop where
  buf : BufL w.heap.size W v L
  below : Below w.heap.size w W
def RLaidAt (w : World) (L : List Nat) (e : Ending) (w' : World) : Prop := ∃ v, e = .returned (.tuple #[v, .int .i64 0]) ∧ BufL w.heap.size w' v L ∧ Below w.heap.size w w'
theorem flat_len (n : Nat) (x : Nat → Nat) : ∀ k, ((List.range k).flatMap (blkL n x)).length ≤ 288 * k
  | 0 => by simp
  | k + 1 => by
    have := flat_len n x k
    have h := blkL_le n x k
    rw [List.range_succ, List.flatMap_append, List.length_append]
    simp only [List.flatMap_cons, List.flatMap_nil, List.append_nil]
    omega
theorem flat_succ (n : Nat) (x : Nat → Nat) (k : Nat) : (List.range (k + 1)).flatMap (blkL n x) = (List.range k).flatMap (blkL n x) ++ blkL n x k := by
  rw [List.range_succ, List.flatMap_append]; simp
set_option maxRecDepth 100000 in
set_option maxHeartbeats 1000000 in
theorem rlay_ok (p : Option Addr) (n c : Nat) (x : Nat → Nat) (w : World) (hn : n ≤ 65536) (hc : n ≤ c) (hp : p = none → n = 0 ∧ c = 0) (hx : StrAt w p n x) (hb : ∀ i, i < n → x i < 256) :
    Calls Try.prog 11 #[.slice p n c] w (RLaidAt w (fileL n x)) := by
  have HX := hid hx
  have HB := hid hb
  have HP := hid hp
  have hcn : cnt n = (n + 255) / 256 := rfl
  have HCN := hid hcn
  obtain ⟨C, hC⟩ : ∃ C, cnt n = C := ⟨_, rfl⟩
  have hn' : (n : Int) ≤ 65536 := by omega
  rw [hC] at hcn
  have HCE := hid hcn
  have HC := hid hC
  clear hx hb hp hC
  go_enter Try.func11, Try.ntmps11
  go_wp2
  go_loopw [4, 5] (fun v y wr => ∃ k : Nat, k ≤ C ∧ y = .int .i64 (k : Int) ∧ RLayM w wr v ((List.range k).flatMap (blkL n x))) (fun _ y _ => (300 - intOf y).toNat)
  case atStart => exact ⟨0, by omega, rfl, BufL.nil _ _, Below.refl _ _⟩
  case round =>
    obtain ⟨k, hk, rfl, hM⟩ := hrel
    by_cases hlt : k < C
    · obtain ⟨q, hq⟩ : ∃ q, 256 * k = q := ⟨_, rfl⟩
      obtain ⟨r, hr⟩ : ∃ r, bend n k = r := ⟨_, rfl⟩
      have hqr : q ≤ r ∧ r ≤ n ∧ r - q ≤ 256 := by unfold bend at hr; omega
      have hr2 : r = min (q + 256) n := by unfold bend at hr; omega
      obtain ⟨po, k0, cc, hv⟩ := hM.buf.form3
      have HM := hid hM
      have HQR := hid hqr
      clear hM
      obtain ⟨L, hL⟩ : ∃ L, (List.range k).flatMap (blkL n x) = L := ⟨_, rfl⟩
      rw [hL] at HM
      subst hv
      have HLE := hid hL
      clear hL
      obtain ⟨y, hy⟩ : ∃ y : Nat → Nat, (fun j => x (q + j)) = y := ⟨_, rfl⟩
      obtain ⟨dg, hdg⟩ : ∃ dg, sha (r - q) y = dg := ⟨_, rfl⟩
      have hblk : blkL n x k = (List.range 32).map dg ++ (List.range (r - q)).map y := by unfold blkL; rw [hq, hr, hy, hdg]
      have HDG := hid hdg
      clear hdg
      have HBK := hid hblk
      have HL := hid (flat_len n x k)
      have HFS := hid (flat_succ n x k)
      obtain ⟨p2, hcut, hp2, hp3⟩ := run_cut p n c q r hqr.1 (by omega)
      have HS2 : Hid (∀ W', Below w.heap.size w W' → StrAt W' p2 (r - q) y) := fun W' hW' => hy ▸ (HX.out.below hW').cut hc hqr.2.1 hp2
      have HP2 : Hid (p2 = none → r - q = 0 ∧ c - q = 0) := fun h => by have := HP.out (hp3 h); omega
      have HBX : Hid (∀ j, j < r - q → y j < 256) := fun j hj => hy ▸ HB.out (q + j) (by omega)
      have HSUM : Hid (∀ W', Below w.heap.size w W' → Calls Try.prog 38 #[.slice p2 (r - q) (c - q)] W' fun e w' => e = .returned (.agg (aB 32 dg)) ∧ Below W'.heap.size W' w') := fun W' hW' => by
        rw [← HDG.out]; exact rsum_any _ _ _ y _ (by omega) HP2.out (HS2.out _ hW') HBX.out
      have hlt' : (k : Int) < (C : Int) := by omega
      have e1 : IntKind.i64.wrap ((k : Int) * 256) = (q : Int) := by rw [IntWalk.i64_in _ ⟨by omega, by omega⟩]; omega
      have e2 : IntKind.i64.wrap ((k : Int) + 1) = (k : Int) + 1 := IntWalk.i64_in _ ⟨by omega, by omega⟩
      have e3 : IntKind.i64.wrap (((k : Int) + 1) * 256) = (q : Int) + 256 := by rw [IntWalk.i64_in _ ⟨by omega, by omega⟩]; omega
      have e4 : (if (n : Int) < (q : Int) + 256 then (n : Int) else (q : Int) + 256) = (r : Int) := by split <;> omega
      clear hy hqr hblk hp2 hp3 hr hr2
      go_upto_region 9 with (first
        | (go_at_call 37; refine (rblocks_any n (by omega) _).mono ?_; rintro e w5 ⟨rfl, hw⟩; have h2 := hw.symm; subst h2; rw [HC.out])
        | (go_at_call 38; refine (HSUM.out _ HM.out.below).mono ?_; rintro e w5 ⟨rfl, hbw⟩; have HB5 := hid hbw; clear hbw)
        | refine wpList_alloc_row rfl 61 rfl _ zero32 ?_
        | refine wpList_store_row rfl 61 _ _ rfl _ _ rfl rfl _ _ (CAt.new _ _ _) (size32 _) (by simp only [aB_size]) (aB_one _ _) ?_)
      have hb6 : Below wr.heap.size wr ((w5.alloc (.cells (aB 32 zB) 61)).setRow w5.heap.size (aB 32 dg)) := below_setRow (HB5.out.alloc HB5.out.size _) HB5.out.size _
      have hd : CAt ((w5.alloc (.cells (aB 32 zB) 61)).setRow w5.heap.size (aB 32 dg)) w5.heap.size (aB 32 dg) 61 := (CAt.new _ _ _).row _
      generalize ((w5.alloc (.cells (aB 32 zB) 61)).setRow w5.heap.size (aB 32 dg)) = W6 at *
      have hb7 := HM.out.below.trans (hb6.mono HM.out.below.size)
      have hL4 : L.length ≤ 80000 := by have := HL.out; rw [HLE.out] at this; omega
      obtain ⟨v7, W7, r7, f7, g7, _⟩ := (HM.out.buf.below hb6).app (some ⟨w5.heap.size, 0, none⟩) 32 32 dg (.inr ⟨_, 0, rfl, fun i hi => by rw [Nat.zero_add]; exact hd.cellB i hi⟩) (fun h => by cases h) (by omega) hb7.size
      have hb8 := hb7.grown g7 hb7.size (fun k' e => ((HM.out.buf.below hb6).ge k' e).1)
      obtain ⟨po7, k7, cc7, hv7⟩ := f7.form3
      obtain ⟨v8, W8, r8, f8, g8, _⟩ := f7.app p2 (r - q) (c - q) y (HS2.out _ hb8) HP2.out (by have := HQR.out; simp; omega) hb8.size
      have hb9 := hb8.grown g8 hb8.size (fun k' e => (f7.ge k' e).1)
      obtain ⟨po8, k8, cc8, hv8⟩ := f8.form3
      have HM9 := hid (RLayM.mk f8 hb9)
      subst hv7 hv8
      have HR7 := hid r7
      have HR8 := hid r8
      clear hb6 hd hb7 r7 f7 g7 hb8 r8 f8 g8 hb9
      go_wp2_with (first
        | refine wpList_append_eq rfl _ _ 22 rfl _ _ rfl rfl _ _ HR7.out ?_
        | refine wpList_append_eq rfl _ _ 22 rfl _ _ rfl rfl _ _ HR8.out ?_)
      go_roundw
      case rel => exact ⟨k + 1, by omega, by go_num, by rw [HFS.out, HBK.out, HLE.out, ← List.append_assoc]; exact HM9.out⟩
      case measure => simp [intOf]; omega
    · have hlt' : ¬ (k : Int) < (C : Int) := by omega
      have hkC : k = C := by omega
      have HM := hid hM
      clear hM
      go_wp2_with (go_at_call 37; refine (rblocks_any n (by omega) _).mono ?_; rintro e w5 ⟨rfl, hw⟩; have h2 := hw.symm; subst h2; rw [HC.out])
      go_ret2
      exact ⟨_, rfl, by unfold fileL; rw [HC.out, ← hkC]; exact HM.out.buf, HM.out.below⟩
theorem rlay_bad (p : Option Addr) (n c : Nat) (w : World) (hn : 65536 < n) (hn2 : n ≤ 1000000) :
    Calls Try.prog 11 #[.slice p n c] w fun e w' => e = .returned (.tuple #[.slice none 0 0, .int .i64 3]) ∧ w' = w := by
  have hn' : (n : Int) > 65536 := by omega
  go_enter Try.func11, Try.ntmps11
  go_wp2
  go_ret2
  exact ⟨rfl, rfl⟩
end Go.Proofs.Ytgmehiidnclgmaa
