/- Contracts of Digits, Hex and Tag of the document's own answer. -/
import Derived.Test.YtfhjioedelpgiaaDoorRb
import Derived.Test.YtfhjioedelpgiaaDoorSi
namespace Go.Proofs.YtfhjioedelpgiaaDoor
open Go Go.RowKit

def d1 (v : Nat) : ByteArray := ⟨#[UInt8.ofNat (dig v)]⟩
theorem run_slice_dig (w : World) : ∀ v : Nat, v < 16 → (Instr.slice 9 (.string ⟨#[48, 49, 50, 51, 52, 53, 54, 55, 56, 57, 97, 98, 99, 100, 101, 102]⟩) (some (.int .u8 (v : Int))) (some (.int .u8 ((v : Int) + 1))) none).run Tryd.prog w = .ok (.string (d1 v)) w
  | 0, _ => by kernel_rfl
  | 1, _ => by kernel_rfl
  | 2, _ => by kernel_rfl
  | 3, _ => by kernel_rfl
  | 4, _ => by kernel_rfl
  | 5, _ => by kernel_rfl
  | 6, _ => by kernel_rfl
  | 7, _ => by kernel_rfl
  | 8, _ => by kernel_rfl
  | 9, _ => by kernel_rfl
  | 10, _ => by kernel_rfl
  | 11, _ => by kernel_rfl
  | 12, _ => by kernel_rfl
  | 13, _ => by kernel_rfl
  | 14, _ => by kernel_rfl
  | 15, _ => by kernel_rfl
  | n + 16, h => by omega
theorem strN_snoc (n : Nat) (x : Nat → Nat) : strN n x ++ (⟨#[UInt8.ofNat (x n)]⟩ : ByteArray) = strN (n + 1) x := by
  apply ByteArray.ext
  rw [ByteArray.data_append]
  unfold strN strOfNums
  simp [List.range_succ]
theorem dig_two (x : Nat → Nat) (k : Nat) : strN (2 * k) (hexF x) ++ d1 (x k / 16) ++ d1 (x k % 16) = strN (2 * (k + 1)) (hexF x) := by
  have h1 : d1 (x k / 16) = (⟨#[UInt8.ofNat (hexF x (2 * k))]⟩ : ByteArray) := by unfold d1 hexF; rw [if_pos (by omega), show 2 * k / 2 = k by omega]
  have h2 : d1 (x k % 16) = (⟨#[UInt8.ofNat (hexF x (2 * k + 1))]⟩ : ByteArray) := by unfold d1 hexF; rw [if_neg (by omega), show (2 * k + 1) / 2 = k by omega]
  rw [h1, h2, strN_snoc, strN_snoc]; rfl
set_option maxRecDepth 100000 in
set_option maxHeartbeats 1000000 in
theorem rdigits_any (b o n c : Nat) (x : Nat → Nat) (w : World) (hn : n ≤ 1000) (hr : RowAt w b o n x) (hb : ∀ i, i < n → x i < 256) :
    Calls Tryd.prog 29 #[.slice (some ⟨b, o, none⟩) n c] w fun e w' => e = .returned (.string (strN (2 * n) (hexF x))) ∧ ∃ m, w' = w.drewN m := by
  have HR := hid hr
  have HX := hid hb
  have hn' : (n : Int) ≤ 1000 := by omega
  clear hr hb
  go_enter Tryd.func29, Tryd.ntmps29
  go_wp2
  go_loopw [3, 4] (fun v i wr => ∃ k : Nat, k ≤ n ∧ i = .int .i64 k ∧ v = .string (strN (2 * k) (hexF x)) ∧ ∃ m, wr = w.drewN m) (fun _ i _ => (n - intOf i).toNat)
  case atStart => exact ⟨0, by omega, rfl, rfl, 0, rfl⟩
  case round =>
    obtain ⟨k, hk, rfl, rfl, m, rfl⟩ := hrel
    by_cases hlt : k < n
    · have hlt' : (k : Int) < (n : Int) := by omega
      have c1 : (w.drewN m).cell? ⟨b, o + k, none⟩ = some (.int .u8 ((x k : Nat) : Int)) := HR.out k hlt
      have hv := HX.out k hlt
      have hz := strN_size (2 * k) (hexF x)
      have hd := dig_two x k
      generalize hxv : x k = v at *
      have h1 := fun w => run_slice_dig w (v / 16) (by omega)
      have h2 := fun w => run_slice_dig w (v % 16) (by omega)
      rw [show ((v / 16 : Nat) : Int) = (v : Int) / 16 by omega] at h1
      rw [show ((v % 16 : Nat) : Int) = (v : Int) % 16 by omega] at h2
      have z1 : (d1 (v / 16)).size = 1 := rfl
      have z2 : (d1 (v % 16)).size = 1 := rfl
      generalize d1 (v / 16) = D1 at *
      generalize d1 (v % 16) = D2 at *
      have HD := hid hd
      have HXV := hid hxv
      generalize hwr : w.drewN m = wr at *
      have HWR := hid hwr
      clear hd hxv hwr
      go_wp2_with fail
      go_quiet (fail)
      go_wp2
      go_roundw
      case rel => exact ⟨k + 1, by omega, by go_num, by rw [HD.out], m + nq, by rw [← HWR.out, World.drewN_drewN]⟩
      case measure => simp [intOf]; omega
    · have e : k = n := by omega
      have hge : ¬ (k : Int) < (n : Int) := by omega
      have HE := hid e
      clear e
      go_wp2
      go_ret
      refine ⟨?_, m, rfl⟩
      rw [← HE.out]; rfl
set_option maxHeartbeats 1000000 in
theorem rhex_any (x : Nat → Nat) (hx : ∀ i, i < 32 → x i < 256) (w : World) :
    Calls Tryd.prog 15 #[.agg (aB 32 x)] w fun e w' => e = .returned (.string (strN 64 (hexF x))) ∧ Below w.heap.size w w' := by
  have hr : RowAt (w.alloc (.cells (aB 32 x) 24)) w.heap.size 0 32 x := fun i hi => by rw [Nat.zero_add]; exact (CAt.new w (aB 32 x) 24).cellB i hi
  have HR := hid hr
  have HX := hid hx
  have HB : Hid (Below w.heap.size w (w.alloc (.cells (aB 32 x) 24))) := (Below.refl _ _).alloc (by omega) _
  clear hr hx
  go_enter Tryd.func15, Tryd.ntmps15
  go_wp2_with (go_at_call 29; refine (rdigits_any _ _ 32 _ x _ (by omega) HR.out HX.out).mono ?_; rintro e w1 ⟨rfl, m, rfl⟩)
  go_ret
  exact ⟨rfl, Below.drewN' HB.out m⟩
set_option maxHeartbeats 400000 in
theorem rtag_any (p : Option Addr) (n c : Nat) (x : Nat → Nat) (w : World) (hn : n ≤ 500000) (hp : p = none → n = 0 ∧ c = 0) (hx : StrAt w p n x) (hb : ∀ i, i < n → x i < 256) :
    Calls Tryd.prog 27 #[.slice p n c] w fun e w' => e = .returned (.string (strN 32 (hexF (sha n x)))) ∧ Below w.heap.size w w' := by
  have HX := hid hx
  have HB := hid hb
  have HN := hid hn
  have HP := hid hp
  clear hx hb hn hp
  have hsz := strN_size 64 (hexF (sha n x))
  go_enter Tryd.func27, Tryd.ntmps27
  go_wp2_with (first
    | (go_at_call 23; refine (rsum_any p n c x _ HN.out HP.out HX.out HB.out).mono ?_; rintro e w1 ⟨rfl, hb1⟩; have HB1 := hid hb1; clear hb1)
    | (go_at_call 15; refine (rhex_any _ (fun i _ => sha_lt n x i) _).mono ?_; rintro e w2 ⟨rfl, hb2⟩; have HB2 := hid (HB1.out.trans (hb2.mono HB1.out.size)); clear hb2))
  go_ret
  refine ⟨?_, HB2.out⟩
  rw [← str_take 64 32 _ (by omega)]
  rfl
end Go.Proofs.YtfhjioedelpgiaaDoor
