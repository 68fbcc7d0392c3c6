/- Texts laid into one, cut to what is needed: the remark ahead of each part says what is proved there. -/
import Derived.Test.YtdohmokhfajjpaaGreatDoorPac
import Derived.Shelf.Abstract
import Derived.WalkKit
import Derived.OwnWalkIn
import Derived.TacticsInMore
import Derived.LoopNIn
import Derived.LoopIn
import Derived.Test.YtdohmokhfajjpaaGreatDoorProg
import Derived.Test.YtdohmokhfajjpaaGreatDoorPab
/- Blocks of bytes: how many there are, where each begins and ends; and the iterator over them. -/
namespace Go.Proofs.YtdohmokhfajjpaaGreatDoor.H
open Go Go.RowKit Go.Shelf

def cnt (n : Nat) : Nat := (n + 255) / 256
def bend (n i : Nat) : Nat := min (256 * i + 256) n
def bEnc (n : Nat) (i : Fin (cnt n)) : Array Value := #[.int .i64 ((256 * i.val : Nat) : Int), .int .i64 ((bend n i.val : Nat) : Int)]
theorem take_snoc (c k : Nat) (h : k < c) : (List.finRange c).take (k + 1) = (List.finRange c).take k ++ [⟨k, h⟩] := by
 rw [List.take_add_one]; simp [h]
def keepsAt (B : Nat) (X Y : World) : Prop := Y.heap[B]? = X.heap[B]?
theorem keepsAt_t {B : Nat} {X Y Z : World} (h : keepsAt B X Y) (k : keepsAt B Y Z) : keepsAt B X Z := Eq.trans k h
theorem keepsAt_b {B : Nat} {w : World} (hB : B < w.heap.size) (W : World) (l : Nat) (o o' : Obj) (hl : w.heap.size ≤ l) (_ : W.heap[l]? = some o) (_ : o.isCells = false) (_ : o.isWalk = false) : keepsAt B W (W.putObj l o') :=
 World.putObj_heap_other (by omega)

/-- Contract of the closure that blocks makes. -/
theorem blocks1_in (l Bn n : Nat) (hn : n ≤ 65536) (J Jx : List (Fin (cnt n)) → World → Prop) (d : Nat)
  (hY : ∀ pre x W, J pre W → pre.length < cnt n → YieldAt Fence.wide d Tryz.prog l (bEnc n x) W fun e W' =>
   (e = .returned (.bool true) ∧ J (pre ++ [x]) W' ∧ keepsAt Bn W W') ∨ (e = .returned (.bool false) ∧ Jx (pre ++ [x]) W'))
  (W : World) (hBn : Boxed W Bn 3 (.int .i64 (n : Int))) (h0 : J [] W) :
  CallsIn Fence.wide (d + 1) Tryz.prog 43 #[.func (.yield l) #[] #[], .pointer (some ⟨Bn, 0, none⟩)] W fun e W' => (∃ v, e = .returned v) ∧
   ((∃ ys, ys = List.finRange (cnt n) ∧ J ys W') ∨ (∃ pre, pre <+: List.finRange (cnt n) ∧ Jx pre W')) := by
 have HN := hid hn
 refine callsIn_of_wp Tryz.func43 rfl trivial ?_ rfl
 simp only [Tryz.ntmps43, List.size_toArray, List.length_cons, List.length_nil, Nat.reduceAdd, Nat.reduceSub, Array.replicate_succ, Array.replicate_zero, List.push_toArray, List.append_toArray, List.nil_append, List.cons_append]
 gi_wp2
 gi_loopw [3] (fun p wr => ∃ k : Nat, k ≤ cnt n ∧ p = .int .i64 ((256 * k : Nat) : Int) ∧ Boxed wr Bn 3 (.int .i64 (n : Int)) ∧ J ((List.finRange (cnt n)).take k) wr)
  (fun p _ => (65536 + 256 - intOf p).toNat)
 case atStart => exact ⟨0, by omega, rfl, hBn, by simpa using h0⟩
 case round =>
  obtain ⟨k, hk, rfl, hb, hJ⟩ := hrel
  have hc := hb.cell
  have hcn : cnt n = (n + 255) / 256 := rfl
  by_cases hlt : k < cnt n
  ·have hq : 256 * k < n := by omega
   have hlen : ((List.finRange (cnt n)).take k).length < cnt n := by simp; omega
   obtain ⟨fn, tmps, assign, body, hy, hR⟩ := hY _ ⟨k, hlt⟩ wr hJ hlen
   obtain ⟨q, hqe⟩ : ∃ q, 256 * k = q := ⟨_, rfl⟩
   have HQ := hid hqe
   simp only [bEnc, bend, hqe] at hy
   rw [hqe] at hq ⊢
   clear hqe
   have hq' : (q : Int) < (n : Int) := by omega
   have hw : IntKind.i64.wrap ((q : Int) + 256) = (q : Int) + 256 := IntWalk.i64_in _ ⟨by omega, by omega⟩
   by_cases hm : n < q + 256
   ·have hm' : (n : Int) < (q : Int) + 256 := by omega
    rw [Nat.min_eq_right (by omega)] at hy
    gi_wp2
    refine hR.mono ?_
    rintro e W3 (⟨rfl, hJ3, hk3⟩ | ⟨rfl, hJx3⟩)
    ·gi_wp2
     go_roundw
     case rel => exact ⟨k + 1, hlt, by have := HQ.out; congr 1; omega, hk3.trans hb, by rw [take_snoc _ _ hlt]; exact hJ3⟩
     case measure => simp [intOf]; omega
    ·gi_wp2
     refine bodyPost_ret (results_none rfl _ _ _) rfl ?_
     exact ⟨⟨_, rfl⟩, .inr ⟨_, by rw [← take_snoc _ _ hlt]; exact List.take_prefix _ _, hJx3⟩⟩
   ·have hm' : ¬ (n : Int) < (q : Int) + 256 := by omega
    rw [Nat.min_eq_left (by omega)] at hy
    have e2 : ((q + 256 : Nat) : Int) = (q : Int) + 256 := by omega
    rw [e2] at hy
    clear e2
    gi_wp2
    refine hR.mono ?_
    rintro e W3 (⟨rfl, hJ3, hk3⟩ | ⟨rfl, hJx3⟩)
    ·gi_wp2
     go_roundw
     case rel => exact ⟨k + 1, hlt, by have := HQ.out; congr 1; omega, hk3.trans hb, by rw [take_snoc _ _ hlt]; exact hJ3⟩
     case measure => simp [intOf]; omega
    ·gi_wp2
     refine bodyPost_ret (results_none rfl _ _ _) rfl ?_
     exact ⟨⟨_, rfl⟩, .inr ⟨_, by rw [← take_snoc _ _ hlt]; exact List.take_prefix _ _, hJx3⟩⟩
  ·have hq : n ≤ 256 * k := by omega
   have hk' : k = cnt n := by omega
   gi_wp2
   go_end0
   exact ⟨⟨_, rfl⟩, .inl ⟨(List.finRange (cnt n)).take k, by rw [hk']; exact List.take_of_length_le (by simp), hJ⟩⟩
theorem blocks_stops (d Bn n : Nat) (hn : n ≤ 65536) (w : World) (hc : Boxed w Bn 3 (.int .i64 (n : Int))) :
  SeqStopsK Fence.wide (d + 1) Tryz.prog 43 #[.pointer (some ⟨Bn, 0, none⟩)] (bEnc n) (keepsAt Bn) (fun ys => ys = List.finRange (cnt n)) (fun pre => pre <+: List.finRange (cnt n)) (cnt n) w :=
 fun l J Jx W hW _ _ hY h0 => blocks1_in l Bn n hn J Jx d hY W ((hW.block Bn hc.lt).trans hc) h0
theorem blocks_any (n : Nat) (w : World) : Calls Tryz.prog 30 #[.int .i64 (n : Int)] w fun e w' => e = .returned (.func (.func 43) #[] #[.pointer (some ⟨w.heap.size, 0, none⟩)]) ∧ w' = w.alloc (.cells #[.int .i64 (n : Int)] 3) := by
 go_enter Tryz.func30, Tryz.ntmps30
 have hmf : ∀ (fn : Fn) (first cap : Array Value) (w : World), (Instr.makeFunc fn first cap).run Tryz.prog w = .ok (.func fn first cap) w := fun _ _ _ _ => rfl
 go_wp2
 go_ret
 exact ⟨rfl, rfl⟩
/-- How many bytes a file has, and the error. -/
def szV (z : Int) : Int := if 0 ≤ z ∧ z ≤ 65536 then z + 32 * ((z + 255) / 256) else 0
def szE (z : Int) : Int := if 0 ≤ z ∧ z ≤ 65536 then 0 else 5
theorem szV_nat (n : Nat) (hn : n ≤ 65536) : szV n = ((n + 32 * cnt n : Nat) : Int) := by
 unfold szV cnt; rw [if_pos (by omega)]; omega
theorem szE_nat (n : Nat) (hn : n ≤ 65536) : szE n = 0 := by unfold szE; rw [if_pos (by omega)]
theorem size_any (z : Int) (w : World) : Calls Tryz.prog 29 #[.int .i64 z] w fun e w' => e = .returned (.tuple #[.int .i64 (szV z), .int .i64 (szE z)]) ∧ w' = w := by
 have hV : szV z = if 0 ≤ z ∧ z ≤ 65536 then z + 32 * ((z + 255) / 256) else 0 := rfl
 have hE : szE z = if 0 ≤ z ∧ z ≤ 65536 then 0 else 5 := rfl
 by_cases h : 0 ≤ z ∧ z ≤ 65536
 ·rw [if_pos h] at hV hE
  have h1 : ¬ z < 0 := by omega
  have h2 : ¬ z > 65536 := by omega
  have e1 : IntKind.i64.wrap (z + 256) = z + 256 := IntWalk.i64_in _ ⟨by omega, by omega⟩
  have e2 : IntKind.i64.wrap (z + 256 - 1) = z + 255 := by rw [IntWalk.i64_in _ ⟨by omega, by omega⟩]; omega
  have e3 : IntKind.i64.wrap ((z + 255).tdiv 256) = (z + 255) / 256 := IntWalk.i64_quo _ _ ⟨by omega, by omega, by omega⟩
  have e4 : IntKind.i64.wrap ((z + 255) / 256 * 32) = 32 * ((z + 255) / 256) := by rw [IntWalk.i64_in _ ⟨by omega, by omega⟩]; omega
  have e5 : IntKind.i64.wrap (z + 32 * ((z + 255) / 256)) = z + 32 * ((z + 255) / 256) := IntWalk.i64_in _ ⟨by omega, by omega⟩
  go_enter Tryz.func29, Tryz.ntmps29
  go_wp2
  go_ret2
  try rw [hV, hE]
  exact ⟨rfl, rfl⟩
 ·rw [if_neg h] at hV hE
  by_cases h1 : z < 0
  ·go_enter Tryz.func29, Tryz.ntmps29
   go_wp2
   go_ret2
   try rw [hV, hE]
   exact ⟨rfl, rfl⟩
  ·have h2 : z > 65536 := by omega
   go_enter Tryz.func29, Tryz.ntmps29
   go_wp2
   go_ret2
   try rw [hV, hE]
   exact ⟨rfl, rfl⟩
theorem place_any (i k : Nat) (hi : i ≤ 65536) (hk : i / 256 = k) (w : World) : Calls Tryz.prog 104 #[.int .i64 (i : Int)] w fun e w' => e = .returned (.int .i64 ((i + 32 * k + 32 : Nat) : Int)) ∧ w' = w := by
 have e3 : IntKind.i64.wrap ((i : Int).tdiv 256) = (k : Int) := by rw [IntWalk.i64_quo _ _ ⟨by omega, by omega, by omega⟩]; omega
 have e4 : IntKind.i64.wrap ((k : Int) + 1) = (k : Int) + 1 := IntWalk.i64_in _ ⟨by omega, by omega⟩
 have e5 : IntKind.i64.wrap (((k : Int) + 1) * 32) = 32 * (k : Int) + 32 := by rw [IntWalk.i64_in _ ⟨by omega, by omega⟩]; omega
 have e6 : IntKind.i64.wrap ((i : Int) + (32 * (k : Int) + 32)) = ((i + 32 * k + 32 : Nat) : Int) := by rw [IntWalk.i64_in _ ⟨by omega, by omega⟩]; omega
 go_enter Tryz.func104, Tryz.ntmps104
 go_wp2
 go_ret
 simp
 try omega
end Go.Proofs.YtdohmokhfajjpaaGreatDoor.H

/- Contract of spread of package digest: a block's words, and those that follow from them; what was there is as it was. -/
namespace Go.Proofs.YtdohmokhfajjpaaGreatDoor.H
open Go.RowKit

def spTo (x : Nat → Nat) (k i : Nat) : BitVec 32 := wpart x i (min (k - 4 * i) 4)
theorem spTo_step (x : Nat → Nat) (k i : Nat) : upW (spTo x k) (k / 4) ((spTo x k (k / 4) <<< 8) ||| BitVec.ofNat 32 (x k)) i = spTo x (k + 1) i := by
 unfold upW spTo
 by_cases e : i = k / 4
 ·rw [if_pos e, e, show min (k - 4 * (k / 4)) 4 = k % 4 by omega, show min (k + 1 - 4 * (k / 4)) 4 = k % 4 + 1 by omega, wpart, show 4 * (k / 4) + k % 4 = k by omega]
 ·rw [if_neg e]
  rcases Nat.lt_or_ge i (k / 4) with h | h
  ·rw [show min (k - 4 * i) 4 = 4 by omega, show min (k + 1 - 4 * i) 4 = 4 by omega]
  ·rw [show min (k - 4 * i) 4 = 0 by omega, show min (k + 1 - 4 * i) 4 = 0 by omega]
def schTo (x : Nat → Nat) (t i : Nat) : BitVec 32 := if i < t then sch x i else 0
theorem spTo_end (x : Nat → Nat) (i : Nat) : spTo x 64 i = schTo x 16 i := by
 unfold spTo schTo
 by_cases h : i < 16
 ·rw [if_pos h, sch_low x i h, show min (64 - 4 * i) 4 = 4 by omega]; rfl
 ·rw [if_neg h, show min (64 - 4 * i) 4 = 0 by omega]; rfl
theorem schTo_at (x : Nat → Nat) (t i : Nat) (h : i < t) : schTo x t i = sch x i := by unfold schTo; rw [if_pos h]
theorem schTo_step (x : Nat → Nat) (t : Nat) (h : 16 ≤ t) (i : Nat) : upW (schTo x t) t (sg1 (schTo x t (t - 2)) + schTo x t (t - 7) + sg0 (schTo x t (t - 15)) + schTo x t (t - 16)) i = schTo x (t + 1) i := by
 rw [schTo_at x t (t - 2) (by omega), schTo_at x t (t - 7) (by omega), schTo_at x t (t - 15) (by omega), schTo_at x t (t - 16) (by omega), ← sch_high x t h]
 unfold upW schTo
 by_cases e : i = t
 ·rw [if_pos e, if_pos (by omega), e]
 ·rw [if_neg e]
  by_cases q : i < t
  ·rw [if_pos q, if_pos (by omega)]
  ·rw [if_neg q, if_neg (by omega)]
theorem byte_word (n : Nat) (h : n < 256) : ((n : Nat) : Int) = wv (BitVec.ofNat 32 n) := by
 unfold wv; rw [BitVec.toNat_ofNat]; omega
theorem size64B (x : Nat → Nat) : (Tryz.prog.info? 84).map (·.size) = some (aB 64 x).size := by rw [aB_size]; kernel_rfl

theorem run_index_blk (x : Nat → Nat) (k : Nat) (hk : k < 64) (w : World) : (Instr.index 84 (.agg (aB 64 x)) (.int .i64 (k : Int))).run Tryz.prog w = .ok (.int .u8 ((x k : Nat) : Int)) w :=
 run_index_row 84 5 64 _ k _ Tryz.underlying84 hk (aB_get 64 x k hk) (by kernel_rfl) (fun _ => by kernel_rfl) w
set_option maxRecDepth 100000 in
set_option maxHeartbeats 400000 in
theorem spread_any (x : Nat → Nat) (hx : ∀ i, i < 64 → x i < 256) (w : World) :
  Calls Tryz.prog 56 #[.agg (aB 64 x)] w fun e w' => e = .returned (.agg (aW 64 (sch x))) ∧ Below w.heap.size w w' := by
 have HX := hid hx
 clear hx
 go_enter Tryz.func56, Tryz.ntmps56
 go_wp2_with (first
  | refine wpList_alloc_row rfl 117 rfl _ zero64 ?_
  | refine wpList_load_row rfl 84 _ rfl _ rfl _ _ _ _ (((CAt.new w (aB 64 x) 84).alloc (.cells (aW 64 zW) 117)).alloc (.cells (aW 64 zW) 117)) Tryz.underlying84 rfl (size64B x) ?_)
 go_loopw [12] (fun v wr => ∃ k : Nat, k ≤ 64 ∧ v = .int .i64 k ∧ CAt wr (w.heap.size + 1 + 1) (aW 64 (spTo x k)) 117 ∧ CAt wr (w.heap.size + 1) (aW 64 zW) 117 ∧ Below w.heap.size w wr) (fun v _ => (64 - intOf v).toNat)
 case atStart =>
  refine ⟨0, by omega, rfl, ?_, ?_, ?_⟩
  ·exact (CAt.new' ((w.alloc (.cells (aB 64 x) 84)).alloc (.cells (aW 64 zW) 117)) (aW 64 zW) 117 _ (by simp)).congr (aW_congr 64 fun i _ => by show (0 : BitVec 32) = wpart x i (min (0 - 4 * i) 4); rw [show min (0 - 4 * i) 4 = 0 by omega]; rfl)
  ·exact (CAt.new' (w.alloc (.cells (aB 64 x) 84)) (aW 64 zW) 117 _ (by simp)).alloc _
  ·exact (((Below.refl _ _).alloc (by omega) _).alloc (by simp) _).alloc (by simp; omega) _
 case round =>
  obtain ⟨k, hk, rfl, hc, hz, hb⟩ := hrel
  by_cases hlt : k < 64
  ·have hix := run_index_blk x k hlt
   have c1 := hc.cellW (k / 4) (by omega)
   have c2 := hc.free (k / 4)
   have hxk := byte_word (x k) (HX.out k hlt)
   have HC := hid hc
   have HZ := hid hz
   have HB := hid hb
   clear hc hz hb
   have e1 := wshl (spTo x k (k / 4)) 8
   simp only [Int.reducePow] at e1
   have e2 := wmod (BitVec.ofNat 32 (x k))
   have e3 := wor (spTo x k (k / 4) <<< 8) (BitVec.ofNat 32 (x k))
   go_wp2
   go_roundw
   case rel =>
    exact ⟨k + 1, by omega, by go_num, (HC.out.setW (k / 4) _).congr (aW_congr 64 fun i _ => spTo_step x k i), HZ.out.other _ _ (by simp), HB.out.setCell (by simp; omega) _⟩
   case measure => simp [intOf]; omega
  ·have e : k = 64 := by omega
   have HC := hid (hc.congr (cs' := aW 64 (schTo x 16)) (aW_congr 64 fun i _ => (by rw [e]; exact spTo_end x i)))
   clear e
   have HZ := hid hz
   have HB := hid hb
   clear hc hz hb HX
   go_wp2
   go_loopw [6] (fun v wr => ∃ t : Nat, 16 ≤ t ∧ t ≤ 64 ∧ v = .int .i64 t ∧ CAt wr (w.heap.size + 1 + 1) (aW 64 (schTo x t)) 117 ∧ CAt wr (w.heap.size + 1) (aW 64 zW) 117 ∧ Below w.heap.size w wr) (fun v _ => (64 - intOf v).toNat)
   case atStart => exact ⟨16, by omega, by omega, rfl, HC.out, HZ.out, HB.out⟩
   case round =>
    clear HC HZ HB
    obtain ⟨t, ht0, ht, rfl, hc, hz, hb⟩ := hrel
    by_cases hlt : t < 64
    ·have c1 := hc.cellW (t - 2) (by omega)
     have c2 := hc.cellW (t - 7) (by omega)
     have c3 := hc.cellW (t - 15) (by omega)
     have c4 := hc.cellW (t - 16) (by omega)
     have c5 := hc.free t
     have HC := hid hc
     have HZ := hid hz
     have HB := hid hb
     clear hc hz hb
     go_wp2_with fail
     go_quiet (fail)
     have a1 := wadd
     have a2 := wxor
     have a3 := wshr (schTo x t (t - 2)) 10
     have a4 := wshr (schTo x t (t - 15)) 3
     simp only [Int.reducePow] at a3 a4
     go_wp2_with (go_at_call 57; refine (right_i _ _ (by decide) (by decide) _).mono ?_; rintro e w' ⟨rfl, rfl⟩)
     have HC := hid (HC.out.drewN nq)
     have HZ := hid (HZ.out.drewN nq)
     have HB := hid (Below.drewN' HB.out nq)
     clear c1 c2 c3 c4 c5
     generalize wr.drewN nq = w5 at *
     have c7 := HC.out.cellW (t - 7) (by omega)
     have c8 := HC.out.cellW (t - 16) (by omega)
     have c9 := HC.out.free t
     refine wp_region_last_lit (by kernel_rfl) (by kernel_rfl) ?_
     dsimp only [List.dropLast, List.getLast]
     repeat (go_big_quiet_step (fail))
     refine wpQuiet_nil ?_
     intro nr
     have HC := hid (HC.out.drewN nr)
     have HZ := hid (HZ.out.drewN nr)
     have HB := hid (Below.drewN' HB.out nr)
     clear c7 c8 c9
     generalize w5.drewN nr = w6 at *
     have c9 := HC.out.free t
     have c10 := HC.out.cellW t hlt
     go_wp2
     go_roundw
     case rel => exact ⟨t + 1, by omega, by omega, by go_num, (HC.out.setW t _).congr (aW_congr 64 fun i _ => schTo_step x t ht0 i), HZ.out.other _ _ (by simp), HB.out.setCell (by simp; omega) _⟩
     case measure => simp [intOf]; omega
    ·have e : t = 64 := by omega
     subst e
     have HC := hid hc
     have HZ := hid hz
     have HB := hid hb
     clear hc hz hb
     go_wp2_with (first
      | refine wpList_load_row rfl 117 _ rfl _ rfl _ _ _ _ HC.out Tryz.underlying117 rfl (size64 _) ?_
      | refine wpList_store_row rfl 117 _ _ rfl _ _ rfl rfl _ _ HZ.out (size64 _) (by rw [aW_size, aW_size]) (aW_one _ _) ?_)
     refine ret_row rfl _ _ _ _ _ rfl rfl (HZ.out.row _) Tryz.underlying117 rfl (size64 _) ⟨?_, below_setRow HB.out (by omega) _⟩
     rw [aW_congr 64 (fun i hi => schTo_at x 64 i hi)]
end Go.Proofs.YtdohmokhfajjpaaGreatDoor.H

/- A region that draws its order, walked by what holds whenever some of its operations have come up. -/
namespace Go.Proofs.YtdohmokhfajjpaaGreatDoor.H
open Go Go.RowKit

section
variable {P : Program} {ops : Array Oper} {md : Region.Mode}
theorem count_set : ∀ (l : List Bool) (i : Nat), l[i]? = some false → (l.set i true).count false + 1 = l.count false
 | [], i, h => by simp at h
 | b :: l, 0, h => by
  simp at h; subst h; simp
 | b :: l, i + 1, h => by
  simp only [List.set_cons_succ, List.count_cons]
  have := count_set l i (by simpa using h)
  omega
theorem wpAny_inv {Q : Exit → Act → World → Prop} (Inv : Array Bool → Act → World → Prop)
  (hstep : ∀ listed a w i, Inv listed a w → i ∈ Region.ready md ops listed → wpOp P ops Q i (Inv (listed.setIfInBounds i true)) a w)
  (hend : ∀ listed a w, Inv listed a w → Region.ready md ops listed = [] → Q .normal a w) :
  ∀ (fuel : Nat) (listed : Array Bool) (a : Act) (w : World), listed.toList.count false ≤ fuel → Inv listed a w → wpAny P md ops Q fuel listed a w
 | 0, listed, a, w, hc, h => by
  have hr : Region.ready md ops listed = [] := by
   apply List.eq_nil_iff_forall_not_mem.2
   intro i hi
   have h0 := (mem_ready.1 hi).1
   rcases Nat.lt_or_ge i listed.size with h' | h'
   ·have h1 : listed.toList[i]? = some false := by simp [h'] at h0 ⊢; exact h0
    have := count_set _ _ h1
    omega
   ·simp [Array.getElem?_eq_none h'] at h0
  exact ⟨hr, hend _ _ _ h hr⟩
 | fuel + 1, listed, a, w, hc, h => by
  refine ⟨fun hr => hend _ _ _ h hr, fun i hi => wpOp_mono (fun a' w' h' => wpAny_inv Inv hstep hend fuel _ a' w' ?_ h') (hstep _ _ _ _ h hi)⟩
  have h0 := (mem_ready.1 hi).1
  rcases Nat.lt_or_ge i listed.size with h1 | h1
  ·have h2 : listed.toList[i]? = some false := by simp [h1] at h0 ⊢; exact h0
   have := count_set _ _ h2
   rw [Array.toList_setIfInBounds]
   omega
  ·simp [Array.getElem?_eq_none h1] at h0
theorem wp_enter {o : Oper} {a : Act} {w : World} {K : Act → World → Prop} {Q : Exit → Act → World → Prop} (f : FuncId) (vs : Array Value) (hrun : (execOp a.eval o).run P w = .ok (.enter f vs) w)
  (h : Calls P f vs w fun e w' => ∃ v, e = .returned v ∧ K (a.put o.dst v) w') : o.wp P a w K Q := by
 unfold Oper.wp; rw [hrun]
 exact h.mono (by rintro e w' ⟨v, rfl, hk⟩; exact hk)
theorem wp_alloc_row {o : Oper} {a : Act} {w : World} {K : Act → World → Prop} {Q : Exit → Act → World → Prop} (t : TypeId) (ho : o.op = .alloc t) (cs : Array Value)
  (hz : (P.info? t).map (·.zero) = some (some (.agg cs))) (h : K (a.put o.dst (.pointer (some ⟨w.heap.size, 0, none⟩))) (w.alloc (.cells cs t))) : o.wp P a w K Q := by
 cases hq : P.info? t with
 | none => simp [hq] at hz
 | some i =>
  have hz' : i.zero = some (.agg cs) := by simpa [hq] using hz
  unfold Oper.wp execOp
  simp only [ho, Instr.alloc, zeroValue, typeInfo, Sem.run_bind, newVar, newRow]
  simp [hq, hz', Value.cells]
  exact h
end
end Go.Proofs.YtdohmokhfajjpaaGreatDoor.H

/- The region of 'k, w := f(), g(b)' over arrays: two calls, a load, two new variables and two stores, in whatever order. -/
namespace Go.Proofs.YtdohmokhfajjpaaGreatDoor.H
open Go Go.RowKit

theorem put_same (a : Act) (d : Nat) (v u : Value) : (a.put (some d) v).put (some d) u = a.put (some d) u := by
 simp [Act.put, Array.setIfInBounds_setIfInBounds]
theorem eval_put_same (a : Act) (d : Nat) (v : Value) (h : d < a.tmps.size) : (a.put (some d) v).eval (.tmp d) = v := by
 simp [Act.put, Act.eval, h]
theorem eval_put_ne (a : Act) (d k : Nat) (v : Value) (h : d ≠ k) : (a.put (some d) v).eval (.tmp k) = a.eval (.tmp k) := by
 simp [Act.put, Act.eval, Array.getElem?_setIfInBounds_ne h]
theorem put_size (a : Act) (d : Nat) (v : Value) : (a.put (some d) v).tmps.size = a.tmps.size := by simp [Act.put]
theorem wpOp_in {P : Program} {ops : Array Oper} {Q : Exit → Act → World → Prop} {i : Nat} {K : Act → World → Prop} {a : Act} {w : World} {o : Oper} (ho : ops[i]? = some o) (hg : o.guard = none) (h : o.wp P a w K Q) : wpOp P ops Q i K a w := by
 unfold wpOp; rw [ho]
 show (if Region.wanted o (yielded ops a.tmps) = true then _ else _)
 rw [if_pos (by unfold Region.wanted; rw [hg])]
 exact .inl h
/-- Five slots of a frame. -/
def fr5 (base : Act) (d0 d1 d2 p q : Nat) (v0 v1 v2 vp vq : Value) : Act := ((((base.put (some d0) v0).put (some d1) v1).put (some d2) v2).put (some p) vp).put (some q) vq
/-- What holds whenever some of the seven operations have come up. -/
def Two (base : Act) (W : World) (d0 d1 d2 p q : Nat) (T : TypeId) (A X B : Array Value) (listed : Array Bool) (a : Act) (w : World) : Prop :=
 ∃ b0 b1 b2 b3 b4 b5 b6 : Bool, listed = #[b0, b1, b2, b3, b4, b5, b6] ∧ ∃ v0 v1 v2 vp vq : Value, a = fr5 base d0 d1 d2 p q v0 v1 v2 vp vq ∧ Below W.heap.size W w ∧
  (b0 = true → v0 = .agg A) ∧ (b1 = true → v1 = .agg X) ∧ (b2 = true → v2 = .agg B) ∧
  (b3 = true → ∃ g cs, vp = .pointer (some ⟨g, 0, none⟩) ∧ W.heap.size ≤ g ∧ CAt w g cs T ∧ cs.size = A.size ∧ (b5 = true → cs = A)) ∧
  (b4 = true → ∃ g cs, vq = .pointer (some ⟨g, 0, none⟩) ∧ W.heap.size ≤ g ∧ CAt w g cs T ∧ cs.size = A.size ∧ (b6 = true → cs = B)) ∧
  (b3 = true → b4 = true → ∀ g g', vp = .pointer (some ⟨g, 0, none⟩) → vq = .pointer (some ⟨g', 0, none⟩) → g ≠ g') ∧ (b5 = true → b3 = true) ∧ (b6 = true → b4 = true)

def aggB (d : TypeDesc) : Bool := match d with | .struct _ | .array _ _ => true | _ => false
def okTwo (i : Nat) (b0 b1 b2 b3 b4 b5 b6 : Bool) : Bool :=
 match i with
 | 0 => !b0
 | 1 => !b1
 | 2 => !b2 && b0 && b1
 | 3 => !b3 && !b5
 | 4 => !b4 && !b6
 | 5 => !b5 && b0 && b3
 | 6 => !b6 && b2 && b4
 | _ => false

set_option maxHeartbeats 1000000 in
theorem region_two {P : Program} {ops : Array Oper} {Q : Exit → Act → World → Prop} {base : Act} {W : World} (d0 d1 d2 p q src : Nat) (T TB : TypeId) (A X B Z : Array Value) (f g gx : Nat)
  (hR : ∀ b0 b1 b2 b3 b4 b5 b6 : Bool, (b5 = true → b3 = true) → (b6 = true → b4 = true) → ((Region.ready .any ops #[b0, b1, b2, b3, b4, b5, b6]).all fun i => okTwo i b0 b1 b2 b3 b4 b5 b6) = true)
  (hE : ∀ b0 b1 b2 b3 b4 b5 b6 : Bool, Region.ready .any ops #[b0, b1, b2, b3, b4, b5, b6] = [] → (b0 && b1 && b2 && b3 && b4 && b5 && b6) = true)
  (hdist : [d0, d1, d2, p, q, src].Nodup) (N : Nat) (hN : base.tmps.size = N) (hsz : ∀ d ∈ [d0, d1, d2, p, q], d < N) {o0 o1 o2 o3 o4 o5 o6 : Oper}
  (h0 : ops[0]? = some o0) (h1 : ops[1]? = some o1) (h2 : ops[2]? = some o2) (h3 : ops[3]? = some o3) (h4 : ops[4]? = some o4) (h5 : ops[5]? = some o5) (h6 : ops[6]? = some o6)
  (hg : [o0, o1, o2, o3, o4, o5, o6].all (fun o => o.guard.isNone) = true)
  (e0 : o0.dst = some d0) (e1 : o1.dst = some d1) (e2 : o2.dst = some d2) (e3 : o3.dst = some p) (e4 : o4.dst = some q) (e5 : o5.dst = none) (e6 : o6.dst = none)
  (r0 : ∀ (a : Act) (w : World), (execOp a.eval o0).run P w = .ok (.enter f #[]) w) (r1 : o1.op = .load TB (.tmp src)) (r2 : ∀ (a : Act) (w : World), (execOp a.eval o2).run P w = .ok (.enter g (#[Operand.tmp d1].map a.eval)) w)
  (r3 : o3.op = .alloc T) (r4 : o4.op = .alloc T) (r5 : o5.op = .store T (.tmp p) (.tmp d0)) (r6 : o6.op = .store T (.tmp q) (.tmp d2))
  (hf : ∀ w, Calls P f #[] w fun e w' => e = .returned (.agg A) ∧ Below w.heap.size w w') (hgc : ∀ w, Calls P g #[.agg X] w fun e w' => e = .returned (.agg B) ∧ Below w.heap.size w w')
  (hsrc : base.eval (.tmp src) = .pointer (some ⟨gx, 0, none⟩)) {tb : TypeId} (hx : CAt W gx X tb) {dB : TypeDesc} (kB : aggB dB = true) (uB : P.underlying TB = some dB) (iB : (P.info? TB).map (·.size) = some X.size)
  (hz : (P.info? T).map (·.zero) = some (some (.agg Z))) (hZs : Z.size = A.size) (hBs : B.size = A.size) (iT : (P.info? T).map (·.size) = some A.size) (oA : A.all (·.oneCell') = true) (oB : B.all (·.oneCell') = true)
  (hend : ∀ gp gq w', Below W.heap.size W w' → CAt w' gp A T → CAt w' gq B T → W.heap.size ≤ gp → W.heap.size ≤ gq → gp ≠ gq → Q .normal (fr5 base d0 d1 d2 p q (.agg A) (.agg X) (.agg B) (.pointer (some ⟨gp, 0, none⟩)) (.pointer (some ⟨gq, 0, none⟩))) w') :
  wpAny P .any ops Q 7 (Array.replicate 7 false) (fr5 base d0 d1 d2 p q undef undef undef undef undef) W := by
 simp only [List.nodup_cons, List.mem_cons, List.not_mem_nil, or_false, not_or, not_false_eq_true, and_true, List.nodup_nil] at hdist
 obtain ⟨⟨n01, n02, n0p, n0q, n0s⟩, ⟨n12, n1p, n1q, n1s⟩, ⟨n2p, n2q, n2s⟩, ⟨npq, nps⟩, nqs⟩ := hdist
 subst hN
 have s0 := hsz d0 (by simp)
 have s1 := hsz d1 (by simp)
 have s2 := hsz d2 (by simp)
 have sp := hsz p (by simp)
 have sq := hsz q (by simp)
 simp only [List.all_cons, List.all_nil, Bool.and_true, Bool.and_eq_true, Option.isNone_iff_eq_none] at hg
 obtain ⟨g0, g1, g2, g3, g4, g5, g6⟩ := hg
 have E0 : ∀ v0 v1 v2 vp vq, (fr5 base d0 d1 d2 p q v0 v1 v2 vp vq).eval (.tmp d0) = v0 := fun v0 v1 v2 vp vq => by
  unfold fr5; rw [eval_put_ne _ _ _ _ (Ne.symm n0q), eval_put_ne _ _ _ _ (Ne.symm n0p), eval_put_ne _ _ _ _ (Ne.symm n02), eval_put_ne _ _ _ _ (Ne.symm n01), eval_put_same _ _ _ s0]
 have E1 : ∀ v0 v1 v2 vp vq, (fr5 base d0 d1 d2 p q v0 v1 v2 vp vq).eval (.tmp d1) = v1 := fun v0 v1 v2 vp vq => by
  unfold fr5; rw [eval_put_ne _ _ _ _ (Ne.symm n1q), eval_put_ne _ _ _ _ (Ne.symm n1p), eval_put_ne _ _ _ _ (Ne.symm n12), eval_put_same _ _ _ (by rw [put_size]; exact s1)]
 have E2 : ∀ v0 v1 v2 vp vq, (fr5 base d0 d1 d2 p q v0 v1 v2 vp vq).eval (.tmp d2) = v2 := fun v0 v1 v2 vp vq => by
  unfold fr5; rw [eval_put_ne _ _ _ _ (Ne.symm n2q), eval_put_ne _ _ _ _ (Ne.symm n2p), eval_put_same _ _ _ (by rw [put_size, put_size]; exact s2)]
 have Ep : ∀ v0 v1 v2 vp vq, (fr5 base d0 d1 d2 p q v0 v1 v2 vp vq).eval (.tmp p) = vp := fun v0 v1 v2 vp vq => by
  unfold fr5; rw [eval_put_ne _ _ _ _ (Ne.symm npq), eval_put_same _ _ _ (by rw [put_size, put_size, put_size]; exact sp)]
 have Eq : ∀ v0 v1 v2 vp vq, (fr5 base d0 d1 d2 p q v0 v1 v2 vp vq).eval (.tmp q) = vq := fun v0 v1 v2 vp vq => by
  unfold fr5; rw [eval_put_same _ _ _ (by rw [put_size, put_size, put_size, put_size]; exact sq)]
 have Es : ∀ v0 v1 v2 vp vq, (fr5 base d0 d1 d2 p q v0 v1 v2 vp vq).eval (.tmp src) = base.eval (.tmp src) := fun v0 v1 v2 vp vq => by
  unfold fr5; rw [eval_put_ne _ _ _ _ nqs, eval_put_ne _ _ _ _ nps, eval_put_ne _ _ _ _ n2s, eval_put_ne _ _ _ _ n1s, eval_put_ne _ _ _ _ n0s]
 have cm : ∀ (a : Act) (x y : Nat) (v u : Value), x ≠ y → (a.put (some x) v).put (some y) u = (a.put (some y) u).put (some x) v := fun a x y v u h =>
  (Act.put_comm a v u (fun d hd => by cases hd; intro hh; cases hh; exact h rfl))
 have P0 : ∀ v0 v1 v2 vp vq u, (fr5 base d0 d1 d2 p q v0 v1 v2 vp vq).put (some d0) u = fr5 base d0 d1 d2 p q u v1 v2 vp vq := fun v0 v1 v2 vp vq u => by
  unfold fr5; rw [cm _ q d0 _ _ (Ne.symm n0q), cm _ p d0 _ _ (Ne.symm n0p), cm _ d2 d0 _ _ (Ne.symm n02), cm _ d1 d0 _ _ (Ne.symm n01), put_same]
 have P1 : ∀ v0 v1 v2 vp vq u, (fr5 base d0 d1 d2 p q v0 v1 v2 vp vq).put (some d1) u = fr5 base d0 d1 d2 p q v0 u v2 vp vq := fun v0 v1 v2 vp vq u => by
  unfold fr5; rw [cm _ q d1 _ _ (Ne.symm n1q), cm _ p d1 _ _ (Ne.symm n1p), cm _ d2 d1 _ _ (Ne.symm n12), put_same]
 have P2 : ∀ v0 v1 v2 vp vq u, (fr5 base d0 d1 d2 p q v0 v1 v2 vp vq).put (some d2) u = fr5 base d0 d1 d2 p q v0 v1 u vp vq := fun v0 v1 v2 vp vq u => by
  unfold fr5; rw [cm _ q d2 _ _ (Ne.symm n2q), cm _ p d2 _ _ (Ne.symm n2p), put_same]
 have Pp : ∀ v0 v1 v2 vp vq u, (fr5 base d0 d1 d2 p q v0 v1 v2 vp vq).put (some p) u = fr5 base d0 d1 d2 p q v0 v1 v2 u vq := fun v0 v1 v2 vp vq u => by
  unfold fr5; rw [cm _ q p _ _ (Ne.symm npq), put_same]
 have Pq : ∀ v0 v1 v2 vp vq u, (fr5 base d0 d1 d2 p q v0 v1 v2 vp vq).put (some q) u = fr5 base d0 d1 d2 p q v0 v1 v2 vp u := fun v0 v1 v2 vp vq u => by
  unfold fr5; rw [put_same]
 refine wpAny_inv (Two base W d0 d1 d2 p q T A X B) ?_ ?_ 7 _ _ _ (by decide) ?_
 ·rintro listed a w i ⟨b0, b1, b2, b3, b4, b5, b6, rfl, v0, v1, v2, vp, vq, rfl, hb, c0, c1, c2, c3, c4, c5, c6, c7⟩ hi
  have hok := List.all_eq_true.1 (hR b0 b1 b2 b3 b4 b5 b6 c6 c7) i hi
  have ks : ∀ {w' : World}, Below w.heap.size w w' → ∀ {g : Nat} {cs : Array Value}, CAt w g cs T → CAt w' g cs T := fun hb' _ _ hc => hc.below hb' hc.lt
  have hbm : ∀ {w' : World}, Below w.heap.size w w' → Below W.heap.size W w' := fun hb' => hb.trans (hb'.mono hb.size)
  match i, hok with
  | 0, hok =>
   refine wpOp_in h0 g0 ?_
   refine (wp_enter f _ (r0 _ _) ((hf w).mono ?_))
   rintro e w' ⟨rfl, hb'⟩
   refine ⟨_, rfl, true, b1, b2, b3, b4, b5, b6, rfl, .agg A, v1, v2, vp, vq, by rw [e0, P0], hbm hb', fun _ => rfl, c1, c2, fun h => ?_, fun h => ?_, c5, c6, c7⟩
   ·obtain ⟨g', cs, k1, k2, k3, k4⟩ := c3 h; exact ⟨g', cs, k1, k2, ks hb' k3, k4⟩
   ·obtain ⟨g', cs, k1, k2, k3, k4⟩ := c4 h; exact ⟨g', cs, k1, k2, ks hb' k3, k4⟩
  | 1, hok =>
   refine wpOp_in h1 g1 ?_
   refine (wp_load_row TB _ r1 gx (by rw [Es, hsrc]) tb X (0, 0) dB (hx.below hb hx.lt) uB (by cases dB <;> first | rfl | (simp [aggB] at kB)) iB ?_)
   exact ⟨b0, true, b2, b3, b4, b5, b6, rfl, v0, .agg X, v2, vp, vq, by rw [e1, P1], hb, c0, fun _ => rfl, c2, c3, c4, c5, c6, c7⟩
  | 2, hok =>
   simp only [okTwo, Bool.and_eq_true, Bool.not_eq_true'] at hok
   refine wpOp_in h2 g2 ?_
   refine (wp_enter g _ (r2 _ _) ?_)
   rw [show #[Operand.tmp d1].map (fr5 base d0 d1 d2 p q v0 v1 v2 vp vq).eval = #[(fr5 base d0 d1 d2 p q v0 v1 v2 vp vq).eval (.tmp d1)] by simp, E1, c1 hok.2]
   refine (hgc w).mono ?_
   rintro e w' ⟨rfl, hb'⟩
   refine ⟨_, rfl, b0, b1, true, b3, b4, b5, b6, rfl, v0, .agg X, .agg B, vp, vq, by rw [e2, P2], hbm hb', c0, fun _ => rfl, fun _ => rfl, fun h => ?_, fun h => ?_, c5, c6, c7⟩
   ·obtain ⟨g', cs, k1, k2, k3, k4⟩ := c3 h; exact ⟨g', cs, k1, k2, ks hb' k3, k4⟩
   ·obtain ⟨g', cs, k1, k2, k3, k4⟩ := c4 h; exact ⟨g', cs, k1, k2, ks hb' k3, k4⟩
  | 3, hok =>
   simp only [okTwo, Bool.and_eq_true, Bool.not_eq_true'] at hok
   refine wpOp_in h3 g3 ?_
   refine (wp_alloc_row T r3 Z hz ?_)
   have hb' : Below w.heap.size w (w.alloc (.cells Z T)) := (Below.refl _ _).alloc (Nat.le_refl _) _
   refine ⟨b0, b1, b2, true, b4, b5, b6, rfl, v0, v1, v2, .pointer (some ⟨w.heap.size, 0, none⟩), vq, by rw [e3, Pp], hbm hb', c0, c1, c2, fun _ => ⟨_, Z, rfl, hb.size, CAt.new _ _ _, hZs, fun h => by rw [hok.2] at h; cases h⟩, fun h => ?_, fun _ h4' g1' g2' k1 k2 => ?_, fun _ => rfl, c7⟩
   ·obtain ⟨g', cs, k1, k2, k3, k4⟩ := c4 h; exact ⟨g', cs, k1, k2, ks hb' k3, k4⟩
   ·obtain ⟨g', cs, m1, m2, m3, m4⟩ := c4 h4'
    have := m3.lt
    rw [m1] at k2
    cases k1; cases k2
    omega
  | 4, hok =>
   simp only [okTwo, Bool.and_eq_true, Bool.not_eq_true'] at hok
   refine wpOp_in h4 g4 ?_
   refine (wp_alloc_row T r4 Z hz ?_)
   have hb' : Below w.heap.size w (w.alloc (.cells Z T)) := (Below.refl _ _).alloc (Nat.le_refl _) _
   refine ⟨b0, b1, b2, b3, true, b5, b6, rfl, v0, v1, v2, vp, .pointer (some ⟨w.heap.size, 0, none⟩), by rw [e4, Pq], hbm hb', c0, c1, c2, fun h => ?_, fun _ => ⟨_, Z, rfl, hb.size, CAt.new _ _ _, hZs, fun h => by rw [hok.2] at h; cases h⟩, fun h3' _ g1' g2' k1 k2 => ?_, c6, fun _ => rfl⟩
   ·obtain ⟨g', cs, k1, k2, k3, k4⟩ := c3 h; exact ⟨g', cs, k1, k2, ks hb' k3, k4⟩
   ·obtain ⟨g', cs, m1, m2, m3, m4⟩ := c3 h3'
    have := m3.lt
    rw [m1] at k1
    cases k1; cases k2
    omega
  | 5, hok =>
   simp only [okTwo, Bool.and_eq_true, Bool.not_eq_true'] at hok
   refine wpOp_in h5 g5 ?_
   obtain ⟨gp, cs, k1, k2, k3, k4, k5⟩ := c3 hok.2
   refine (wp_store_row T _ _ r5 gp A (by rw [Ep, k1]) (by rw [E0, c0 hok.1.2]) T cs k3 iT k4 oA ?_)
   refine ⟨b0, b1, b2, b3, b4, true, b6, rfl, v0, v1, v2, vp, vq, by rw [e5]; rfl, below_setRow hb k2 _, c0, c1, c2, fun _ => ⟨gp, A, k1, k2, k3.row A, rfl, fun _ => rfl⟩, fun h => ?_, c5, fun _ => hok.2, c7⟩
   obtain ⟨g', cs', m1, m2, m3, m4⟩ := c4 h
   exact ⟨g', cs', m1, m2, m3.rowOther A (Ne.symm (c5 hok.2 h gp g' k1 m1)), m4⟩
  | 6, hok =>
   simp only [okTwo, Bool.and_eq_true, Bool.not_eq_true'] at hok
   refine wpOp_in h6 g6 ?_
   obtain ⟨gq, cs, k1, k2, k3, k4, k5⟩ := c4 hok.2
   refine (wp_store_row T _ _ r6 gq B (by rw [Eq, k1]) (by rw [E2, c2 hok.1.2]) T cs k3 (by rw [hBs]; exact iT) (by rw [k4, hBs]) oB ?_)
   refine ⟨b0, b1, b2, b3, b4, b5, true, rfl, v0, v1, v2, vp, vq, by rw [e6]; rfl, below_setRow hb k2 _, c0, c1, c2, fun h => ?_, fun _ => ⟨gq, B, k1, k2, k3.row B, hBs, fun _ => rfl⟩, c5, c6, fun _ => hok.2⟩
   obtain ⟨g', cs', m1, m2, m3, m4⟩ := c3 h
   exact ⟨g', cs', m1, m2, m3.rowOther B (c5 h hok.2 g' gq m1 k1), m4⟩
  | n + 7, hok => simp [okTwo] at hok
 ·rintro listed a w ⟨b0, b1, b2, b3, b4, b5, b6, rfl, v0, v1, v2, vp, vq, rfl, hb, c0, c1, c2, c3, c4, c5, c6, c7⟩ hr
  have hall := hE b0 b1 b2 b3 b4 b5 b6 hr
  simp only [Bool.and_eq_true] at hall
  obtain ⟨⟨⟨⟨⟨⟨t0, t1⟩, t2⟩, t3⟩, t4⟩, t5⟩, t6⟩ := hall
  obtain ⟨gp, cp, k1, k2, k3, k4, k5⟩ := c3 t3
  obtain ⟨gq, cq, m1, m2, m3, m4, m5⟩ := c4 t4
  have hne := c5 t3 t4 gp gq k1 m1
  rw [k5 t5] at k3
  rw [m5 t6] at m3
  rw [c0 t0, c1 t1, c2 t2, k1, m1]
  exact hend gp gq w hb k3 m3 k2 m2 hne
 ·exact ⟨false, false, false, false, false, false, false, rfl, undef, undef, undef, undef, undef, rfl, Below.refl _ _, by simp, by simp, by simp, by simp, by simp, by simp, by simp, by simp⟩
theorem region_two_at {P : Program} {ops : Array Oper} {Q : Exit → Act → World → Prop} {base : Act} {W : World} (d0 d1 d2 p q src : Nat) (T TB : TypeId) (A X B Z : Array Value) (f g gx : Nat)
  (hR : ∀ b0 b1 b2 b3 b4 b5 b6 : Bool, (b5 = true → b3 = true) → (b6 = true → b4 = true) → ((Region.ready .any ops #[b0, b1, b2, b3, b4, b5, b6]).all fun i => okTwo i b0 b1 b2 b3 b4 b5 b6) = true)
  (hE : ∀ b0 b1 b2 b3 b4 b5 b6 : Bool, Region.ready .any ops #[b0, b1, b2, b3, b4, b5, b6] = [] → (b0 && b1 && b2 && b3 && b4 && b5 && b6) = true)
  (hfr : fr5 base d0 d1 d2 p q undef undef undef undef undef = base) (hdist : [d0, d1, d2, p, q, src].Nodup) (N : Nat) (hN : base.tmps.size = N) (hsz : ∀ d ∈ [d0, d1, d2, p, q], d < N) {o0 o1 o2 o3 o4 o5 o6 : Oper}
  (h0 : ops[0]? = some o0) (h1 : ops[1]? = some o1) (h2 : ops[2]? = some o2) (h3 : ops[3]? = some o3) (h4 : ops[4]? = some o4) (h5 : ops[5]? = some o5) (h6 : ops[6]? = some o6)
  (hg : [o0, o1, o2, o3, o4, o5, o6].all (fun o => o.guard.isNone) = true)
  (e0 : o0.dst = some d0) (e1 : o1.dst = some d1) (e2 : o2.dst = some d2) (e3 : o3.dst = some p) (e4 : o4.dst = some q) (e5 : o5.dst = none) (e6 : o6.dst = none)
  (r0 : ∀ (a : Act) (w : World), (execOp a.eval o0).run P w = .ok (.enter f #[]) w) (r1 : o1.op = .load TB (.tmp src)) (r2 : ∀ (a : Act) (w : World), (execOp a.eval o2).run P w = .ok (.enter g (#[Operand.tmp d1].map a.eval)) w)
  (r3 : o3.op = .alloc T) (r4 : o4.op = .alloc T) (r5 : o5.op = .store T (.tmp p) (.tmp d0)) (r6 : o6.op = .store T (.tmp q) (.tmp d2))
  (hf : ∀ w, Calls P f #[] w fun e w' => e = .returned (.agg A) ∧ Below w.heap.size w w') (hgc : ∀ w, Calls P g #[.agg X] w fun e w' => e = .returned (.agg B) ∧ Below w.heap.size w w')
  (hsrc : base.eval (.tmp src) = .pointer (some ⟨gx, 0, none⟩)) {tb : TypeId} (hx : CAt W gx X tb) {dB : TypeDesc} (kB : aggB dB = true) (uB : P.underlying TB = some dB) (iB : (P.info? TB).map (·.size) = some X.size)
  (hz : (P.info? T).map (·.zero) = some (some (.agg Z))) (hZs : Z.size = A.size) (hBs : B.size = A.size) (iT : (P.info? T).map (·.size) = some A.size) (oA : A.all (·.oneCell') = true) (oB : B.all (·.oneCell') = true)
  (hend : ∀ gp gq w', Below W.heap.size W w' → CAt w' gp A T → CAt w' gq B T → W.heap.size ≤ gp → W.heap.size ≤ gq → gp ≠ gq → Q .normal (fr5 base d0 d1 d2 p q (.agg A) (.agg X) (.agg B) (.pointer (some ⟨gp, 0, none⟩)) (.pointer (some ⟨gq, 0, none⟩))) w') :
  wpAny P .any ops Q 7 (Array.replicate 7 false) base W := by
 have := region_two (Q := Q) d0 d1 d2 p q src T TB A X B Z f g gx hR hE hdist N hN hsz h0 h1 h2 h3 h4 h5 h6 hg e0 e1 e2 e3 e4 e5 e6 r0 r1 r2 r3 r4 r5 r6 hf hgc hsrc hx kB uB iB hz hZs hBs iT oA oB hend
 rwa [hfr] at this
end Go.Proofs.YtdohmokhfajjpaaGreatDoor.H
