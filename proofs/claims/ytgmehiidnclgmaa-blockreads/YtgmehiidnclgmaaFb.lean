/- Blocks of bytes: how many there are, where each begins and ends; and the iterator over them. -/
import Derived.Test.YtgmehiidnclgmaaFa
import Derived.Test.YtgmehiidnclgmaaLa
import Derived.Shelf.Abstract
import Derived.WalkKit
import Derived.OwnWalkIn
import Derived.TacticsInMore
import Derived.LoopNIn
import Derived.LoopIn
import Derived.Test.YtgmehiidnclgmaaProg
namespace Go.Proofs.Ytgmehiidnclgmaa
open Go Go.RowKit Go.Shelf

def cnt (n : Nat) : Nat := (n + 255) / 256
def bend (n i : Nat) : Nat := min (256 * i + 256) n
def bEnc (n : Nat) (i : Fin (cnt n)) : Array Value := #[.int .i64 ((256 * i.val : Nat) : Int), .int .i64 ((bend n i.val : Nat) : Int)]
theorem take_snoc (c k : Nat) (h : k < c) : (List.finRange c).take (k + 1) = (List.finRange c).take k ++ [⟨k, h⟩] := by
  rw [List.take_add_one]; simp [h]
def keepsAt (B : Nat) (X Y : World) : Prop := Y.heap[B]? = X.heap[B]?
theorem keepsAt_t {B : Nat} {X Y Z : World} (h : keepsAt B X Y) (k : keepsAt B Y Z) : keepsAt B X Z := Eq.trans k h
theorem keepsAt_b {B : Nat} {w : World} (hB : B < w.heap.size) (W : World) (l : Nat) (o o' : Obj) (hl : w.heap.size ≤ l) (_ : W.heap[l]? = some o) (_ : o.isCells = false) (_ : o.isWalk = false) : keepsAt B W (W.putObj l o') :=
  World.putObj_heap_other (by omega)

/-- Contract of the closure that blocks makes. -/
theorem blocks1_in (l Bn n : Nat) (hn : n ≤ 65536) (J Jx : List (Fin (cnt n)) → World → Prop) (d : Nat)
    (hY : ∀ pre x W, J pre W → pre.length < cnt n → YieldAt Fence.wide d Try.prog l (bEnc n x) W fun e W' =>
      (e = .returned (.bool true) ∧ J (pre ++ [x]) W' ∧ keepsAt Bn W W') ∨ (e = .returned (.bool false) ∧ Jx (pre ++ [x]) W'))
    (W : World) (hBn : Boxed W Bn 3 (.int .i64 (n : Int))) (h0 : J [] W) :
    CallsIn Fence.wide (d + 1) Try.prog 48 #[.func (.yield l) #[] #[], .pointer (some ⟨Bn, 0, none⟩)] W fun e W' => (∃ v, e = .returned v) ∧
      ((∃ ys, ys = List.finRange (cnt n) ∧ J ys W') ∨ (∃ pre, pre <+: List.finRange (cnt n) ∧ Jx pre W')) := by
  have HN := hid hn
  refine callsIn_of_wp Try.func48 rfl trivial ?_ rfl
  simp only [Try.ntmps48, List.size_toArray, List.length_cons, List.length_nil, Nat.reduceAdd, Nat.reduceSub, Array.replicate_succ, Array.replicate_zero, List.push_toArray, List.append_toArray, List.nil_append, List.cons_append]
  gi_wp2
  gi_loopw [3] (fun p wr => ∃ k : Nat, k ≤ cnt n ∧ p = .int .i64 ((256 * k : Nat) : Int) ∧ Boxed wr Bn 3 (.int .i64 (n : Int)) ∧ J ((List.finRange (cnt n)).take k) wr)
    (fun p _ => (65536 + 256 - intOf p).toNat)
  case atStart => exact ⟨0, by omega, rfl, hBn, by simpa using h0⟩
  case round =>
    obtain ⟨k, hk, rfl, hb, hJ⟩ := hrel
    have hc := hb.cell
    have hcn : cnt n = (n + 255) / 256 := rfl
    by_cases hlt : k < cnt n
    · have hq : 256 * k < n := by omega
      have hlen : ((List.finRange (cnt n)).take k).length < cnt n := by simp; omega
      obtain ⟨fn, tmps, assign, body, hy, hR⟩ := hY _ ⟨k, hlt⟩ wr hJ hlen
      obtain ⟨q, hqe⟩ : ∃ q, 256 * k = q := ⟨_, rfl⟩
      have HQ := hid hqe
      simp only [bEnc, bend, hqe] at hy
      rw [hqe] at hq ⊢
      clear hqe
      have hq' : (q : Int) < (n : Int) := by omega
      have hw : IntKind.i64.wrap ((q : Int) + 256) = (q : Int) + 256 := IntWalk.i64_in _ ⟨by omega, by omega⟩
      by_cases hm : n < q + 256
      · have hm' : (n : Int) < (q : Int) + 256 := by omega
        rw [Nat.min_eq_right (by omega)] at hy
        gi_wp2
        refine hR.mono ?_
        rintro e W3 (⟨rfl, hJ3, hk3⟩ | ⟨rfl, hJx3⟩)
        · gi_wp2
          go_roundw
          case rel => exact ⟨k + 1, hlt, by have := HQ.out; congr 1; omega, hk3.trans hb, by rw [take_snoc _ _ hlt]; exact hJ3⟩
          case measure => simp [intOf]; omega
        · gi_wp2
          refine bodyPost_ret (results_none rfl _ _ _) rfl ?_
          exact ⟨⟨_, rfl⟩, .inr ⟨_, by rw [← take_snoc _ _ hlt]; exact List.take_prefix _ _, hJx3⟩⟩
      · have hm' : ¬ (n : Int) < (q : Int) + 256 := by omega
        rw [Nat.min_eq_left (by omega)] at hy
        have e2 : ((q + 256 : Nat) : Int) = (q : Int) + 256 := by omega
        rw [e2] at hy
        clear e2
        gi_wp2
        refine hR.mono ?_
        rintro e W3 (⟨rfl, hJ3, hk3⟩ | ⟨rfl, hJx3⟩)
        · gi_wp2
          go_roundw
          case rel => exact ⟨k + 1, hlt, by have := HQ.out; congr 1; omega, hk3.trans hb, by rw [take_snoc _ _ hlt]; exact hJ3⟩
          case measure => simp [intOf]; omega
        · gi_wp2
          refine bodyPost_ret (results_none rfl _ _ _) rfl ?_
          exact ⟨⟨_, rfl⟩, .inr ⟨_, by rw [← take_snoc _ _ hlt]; exact List.take_prefix _ _, hJx3⟩⟩
    · have hq : n ≤ 256 * k := by omega
      have hk' : k = cnt n := by omega
      gi_wp2
      go_end0
      exact ⟨⟨_, rfl⟩, .inl ⟨(List.finRange (cnt n)).take k, by rw [hk']; exact List.take_of_length_le (by simp), hJ⟩⟩
theorem blocks_stops (d Bn n : Nat) (hn : n ≤ 65536) (w : World) (hc : Boxed w Bn 3 (.int .i64 (n : Int))) :
    SeqStopsK Fence.wide (d + 1) Try.prog 48 #[.pointer (some ⟨Bn, 0, none⟩)] (bEnc n) (keepsAt Bn) (fun ys => ys = List.finRange (cnt n)) (fun pre => pre <+: List.finRange (cnt n)) (cnt n) w :=
  fun l J Jx W hW _ _ hY h0 => blocks1_in l Bn n hn J Jx d hY W ((hW.block Bn hc.lt).trans hc) h0
theorem blocks_any (n : Nat) (w : World) : Calls Try.prog 35 #[.int .i64 (n : Int)] w fun e w' => e = .returned (.func (.func 48) #[] #[.pointer (some ⟨w.heap.size, 0, none⟩)]) ∧ w' = w.alloc (.cells #[.int .i64 (n : Int)] 3) := by
  go_enter Try.func35, Try.ntmps35
  have hmf : ∀ (fn : Fn) (first cap : Array Value) (w : World), (Instr.makeFunc fn first cap).run Try.prog w = .ok (.func fn first cap) w := fun _ _ _ _ => rfl
  go_wp2
  go_ret
  exact ⟨rfl, rfl⟩
/-- How many bytes a file has, and the error. -/
def szV (z : Int) : Int := if 0 ≤ z ∧ z ≤ 65536 then z + 32 * ((z + 255) / 256) else 0
def szE (z : Int) : Int := if 0 ≤ z ∧ z ≤ 65536 then 0 else 5
theorem szV_nat (n : Nat) (hn : n ≤ 65536) : szV n = ((n + 32 * cnt n : Nat) : Int) := by
  unfold szV cnt; rw [if_pos (by omega)]; omega
theorem szE_nat (n : Nat) (hn : n ≤ 65536) : szE n = 0 := by unfold szE; rw [if_pos (by omega)]
theorem size_any (z : Int) (w : World) : Calls Try.prog 12 #[.int .i64 z] w fun e w' => e = .returned (.tuple #[.int .i64 (szV z), .int .i64 (szE z)]) ∧ w' = w := by
  have hV : szV z = if 0 ≤ z ∧ z ≤ 65536 then z + 32 * ((z + 255) / 256) else 0 := rfl
  have hE : szE z = if 0 ≤ z ∧ z ≤ 65536 then 0 else 5 := rfl
  by_cases h : 0 ≤ z ∧ z ≤ 65536
  · rw [if_pos h] at hV hE
    have h1 : ¬ z < 0 := by omega
    have h2 : ¬ z > 65536 := by omega
    have e1 : IntKind.i64.wrap (z + 256) = z + 256 := IntWalk.i64_in _ ⟨by omega, by omega⟩
    have e2 : IntKind.i64.wrap (z + 256 - 1) = z + 255 := by rw [IntWalk.i64_in _ ⟨by omega, by omega⟩]; omega
    have e3 : IntKind.i64.wrap ((z + 255).tdiv 256) = (z + 255) / 256 := IntWalk.i64_quo _ _ ⟨by omega, by omega, by omega⟩
    have e4 : IntKind.i64.wrap ((z + 255) / 256 * 32) = 32 * ((z + 255) / 256) := by rw [IntWalk.i64_in _ ⟨by omega, by omega⟩]; omega
    have e5 : IntKind.i64.wrap (z + 32 * ((z + 255) / 256)) = z + 32 * ((z + 255) / 256) := IntWalk.i64_in _ ⟨by omega, by omega⟩
    go_enter Try.func12, Try.ntmps12
    go_wp2
    go_ret2
    try rw [hV, hE]
    exact ⟨rfl, rfl⟩
  · rw [if_neg h] at hV hE
    by_cases h1 : z < 0
    · go_enter Try.func12, Try.ntmps12
      go_wp2
      go_ret2
      try rw [hV, hE]
      exact ⟨rfl, rfl⟩
    · have h2 : z > 65536 := by omega
      go_enter Try.func12, Try.ntmps12
      go_wp2
      go_ret2
      try rw [hV, hE]
      exact ⟨rfl, rfl⟩
theorem place_any (i k : Nat) (hi : i ≤ 65536) (hk : i / 256 = k) (w : World) : Calls Try.prog 41 #[.int .i64 (i : Int)] w fun e w' => e = .returned (.int .i64 ((i + 32 * k + 32 : Nat) : Int)) ∧ w' = w := by
  have e3 : IntKind.i64.wrap ((i : Int).tdiv 256) = (k : Int) := by rw [IntWalk.i64_quo _ _ ⟨by omega, by omega, by omega⟩]; omega
  have e4 : IntKind.i64.wrap ((k : Int) + 1) = (k : Int) + 1 := IntWalk.i64_in _ ⟨by omega, by omega⟩
  have e5 : IntKind.i64.wrap (((k : Int) + 1) * 32) = 32 * (k : Int) + 32 := by rw [IntWalk.i64_in _ ⟨by omega, by omega⟩]; omega
  have e6 : IntKind.i64.wrap ((i : Int) + (32 * (k : Int) + 32)) = ((i + 32 * k + 32 : Nat) : Int) := by rw [IntWalk.i64_in _ ⟨by omega, by omega⟩]; omega
  go_enter Try.func41, Try.ntmps41
  go_wp2
  go_ret
  simp
  try omega
end Go.Proofs.Ytgmehiidnclgmaa
