/- Contracts of Hex and Tag of package digest: a digest's digits; the tag of bytes. -/
import Derived.Test.YtfhjioedelpgiaaDoorSh
namespace Go.Proofs.YtfhjioedelpgiaaDoor
open Go Go.RowKit

theorem zeroHx : (Tryd.prog.info? 49).map (·.zero) = some (some (.agg (aB 64 zB))) := by kernel_rfl
/-- The digit that stands for a number. -/
def dig (v : Nat) : Nat := if v < 10 then 48 + v else 87 + v
def hexF (x : Nat → Nat) (i : Nat) : Nat := if i % 2 = 0 then dig (x (i / 2) / 16) else dig (x (i / 2) % 16)
theorem run_index_dig (w : World) : ∀ v : Nat, v < 16 → (Instr.index 9 (.string ⟨#[48, 49, 50, 51, 52, 53, 54, 55, 56, 57, 97, 98, 99, 100, 101, 102]⟩) (.int .u8 (v : Int))).run Tryd.prog w = .ok (.int .u8 ((dig v : Nat) : Int)) w
  | 0, _ => by kernel_rfl
  | 1, _ => by kernel_rfl
  | 2, _ => by kernel_rfl
  | 3, _ => by kernel_rfl
  | 4, _ => by kernel_rfl
  | 5, _ => by kernel_rfl
  | 6, _ => by kernel_rfl
  | 7, _ => by kernel_rfl
  | 8, _ => by kernel_rfl
  | 9, _ => by kernel_rfl
  | 10, _ => by kernel_rfl
  | 11, _ => by kernel_rfl
  | 12, _ => by kernel_rfl
  | 13, _ => by kernel_rfl
  | 14, _ => by kernel_rfl
  | 15, _ => by kernel_rfl
  | n + 16, h => by omega
theorem run_index_d32 (x : Nat → Nat) (k : Nat) (hk : k < 32) (w : World) : (Instr.index 24 (.agg (aB 32 x)) (.int .i64 (k : Int))).run Tryd.prog w = .ok (.int .u8 ((x k : Nat) : Int)) w :=
  run_index_row 24 5 32 _ k _ Tryd.underlying24 hk (aB_get 32 x k hk) (by kernel_rfl) (fun _ => by kernel_rfl) w
theorem low4 (v : Nat) (h : v < 256) : bits .and .u8 (v : Int) 15 = (v : Int) % 16 := by
  have h2 : ∀ v : Fin 256, bits .and .u8 (v.val : Int) 15 = (v.val : Int) % 16 := by decide +kernel
  exact h2 ⟨v, h⟩
set_option maxRecDepth 100000 in
set_option maxHeartbeats 400000 in
theorem hex_any (x : Nat → Nat) (hx : ∀ i, i < 32 → x i < 256) (w : World) :
    Calls Tryd.prog 14 #[.agg (aB 32 x)] w fun e w' => e = .returned (.string (strN 64 (hexF x))) ∧ Below w.heap.size w w' := by
  have HX := hid hx
  clear hx
  go_enter Tryd.func14, Tryd.ntmps14
  go_wp2_with (first
    | refine wpList_alloc_row rfl 49 rfl _ zeroHx ?_
    | refine wpList_load_row rfl 24 _ rfl _ rfl _ _ _ _ ((CAt.new w (aB 32 x) 24).alloc _) Tryd.underlying24 rfl (size32 x) ?_)
  go_loopw [7] (fun v wr => ∃ k : Nat, k ≤ 32 ∧ v = .int .i64 k ∧ CAt wr (w.heap.size + 1) (aB 64 (upTo (hexF x) (2 * k))) 49 ∧ Below w.heap.size w wr) (fun v _ => (32 - intOf v).toNat)
  case atStart =>
    refine ⟨0, by omega, rfl, ?_, (((Below.refl _ _).alloc (by omega) _).alloc (by simp) _)⟩
    exact (CAt.new' (w.alloc (.cells (aB 32 x) 24)) (aB 64 zB) 49 _ (by simp)).congr (aB_congr 64 fun i _ => upTo_zero _ i)
  case round =>
    obtain ⟨k, hk, rfl, hc, hb⟩ := hrel
    by_cases hlt : k < 32
    · have hix := run_index_d32 x k hlt
      have hxk := HX.out k hlt
      generalize hv : x k = v at *
      have hd1 := fun w => run_index_dig w (v / 16) (by omega)
      have hd2 := fun w => run_index_dig w (v % 16) (by omega)
      rw [show ((v / 16 : Nat) : Int) = (v : Int) / 16 by omega] at hd1
      rw [show ((v % 16 : Nat) : Int) = (v : Int) % 16 by omega] at hd2
      have hl4 := low4 v hxk
      have hc1 : CAt (wr.setCell ⟨w.heap.size + 1, 2 * k, none⟩ (.int .u8 ((dig (v / 16) : Nat) : Int))) (w.heap.size + 1) (aB 64 (upTo (hexF x) (2 * k + 1))) 49 :=
        (hc.setB (2 * k) _).congr (aB_congr 64 fun i _ => by
          have := upTo_step (hexF x) (2 * k) i
          rw [← this]
          congr 1
          unfold hexF
          rw [if_pos (by omega), show 2 * k / 2 = k by omega, hv])
      have c1 := hc.cellB (2 * k) (by omega)
      have c2 := hc.free (2 * k)
      have c3 := hc1.cellB (2 * k + 1) (by omega)
      have c4 := hc1.free (2 * k + 1)
      have HC := hid hc1
      have HB := hid hb
      have HV := hid hv
      have hlt' : (k : Int) < 32 := by omega
      clear hc hc1 hb hv
      go_wp2
      go_roundw
      case rel =>
        refine ⟨k + 1, by omega, by go_num, (HC.out.setB (2 * k + 1) _).congr (aB_congr 64 fun i _ => ?_), (HB.out.setCell (by simp) _).setCell (by simp) _⟩
        have := upTo_step (hexF x) (2 * k + 1) i
        rw [show 2 * (k + 1) = 2 * k + 1 + 1 by omega, ← this]
        congr 1
        unfold hexF
        rw [if_neg (by omega), show (2 * k + 1) / 2 = k by omega, HV.out]
      case measure => simp [intOf]; omega
    · have e : 2 * k = 64 := by omega
      have hst : StrAt wr (some ⟨w.heap.size + 1, 0, none⟩) 64 (hexF x) := .inr ⟨_, _, rfl, fun i hi => by
        rw [Nat.zero_add, hc.cellB i hi, upTo_at _ _ _ (by omega)]⟩
      have hcv := conv_str wr _ 64 64 _ hst
      have HB := hid hb
      have hge : ¬ (k : Int) < 32 := by omega
      clear hc hb e hst
      go_wp2
      go_ret
      exact ⟨rfl, HB.out⟩

theorem strN_size (n : Nat) (x : Nat → Nat) : (strN n x).size = n := by
  unfold strN strOfNums; simp [ByteArray.size]
theorem str_take (n m : Nat) (x : Nat → Nat) (h : m ≤ n) : (strN n x).extract 0 m = strN m x := by
  apply ByteArray.ext
  rw [ByteArray.data_extract]
  unfold strN strOfNums
  apply Array.ext
  · simp; omega
  · intro i h1 h2
    simp
set_option maxHeartbeats 400000 in
theorem tag_any (p : Option Addr) (n c : Nat) (x : Nat → Nat) (w : World) (hn : n ≤ 1000000) (hc : n ≤ c) (hx : StrAt w p n x) (hb : ∀ i, i < n → x i < 256) :
    Calls Tryd.prog 21 #[.slice p n c] w fun e w' => e = .returned (.string (strN 32 (hexF (sha n x)))) ∧ Below w.heap.size w w' := by
  have HX := hid hx
  have HB := hid hb
  have HN := hid hn
  have HC := hid hc
  clear hx hb hn hc
  have hsz := strN_size 64 (hexF (sha n x))
  go_enter Tryd.func21, Tryd.ntmps21
  go_wp2_with (first
    | (go_at_call 20; refine (sum_any p n c x _ HN.out HC.out HX.out HB.out).mono ?_; rintro e w1 ⟨rfl, hb1⟩; have HB1 := hid hb1; clear hb1)
    | (go_at_call 14; refine (hex_any _ (fun i _ => sha_lt n x i) _).mono ?_; rintro e w2 ⟨rfl, hb2⟩; have HB2 := hid (HB1.out.trans (hb2.mono HB1.out.size)); clear hb2))
  go_ret
  refine ⟨?_, HB2.out⟩
  rw [← str_take 64 32 _ (by omega)]
  rfl
end Go.Proofs.YtfhjioedelpgiaaDoor
