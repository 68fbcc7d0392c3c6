/- Contract of awake of the statements on digest: two of the chapter's examples. -/
import Derived.Test.YtfhjioedelpgiaaDoorSz
import Derived.Lib.SlBytesConst
namespace Go.Proofs.YtfhjioedelpgiaaDoor
open Go Go.RowKit
theorem str_alloc (w : World) (cs : Array Value) (t : TypeId) (fr : Nat × Nat) (n : Nat) (x : Nat → Nat) (h : cs = aB n x) : StrAt (w.alloc (.cells cs t fr)) (some ⟨w.heap.size, 0, none⟩) n x := by
  subst h
  exact .inr ⟨_, _, rfl, fun i hi => by rw [Nat.zero_add, cell_of_row _ _ i _ t fr (heap_alloc_new _ _), aB_get n x i hi]⟩
theorem litAbc : (#[.int .u8 97, .int .u8 98, .int .u8 99] : Array Value) = aB 3 xAbc := by kernel_rfl
theorem litLong : (#[.int .u8 97, .int .u8 98, .int .u8 99, .int .u8 100, .int .u8 98, .int .u8 99, .int .u8 100, .int .u8 101, .int .u8 99, .int .u8 100, .int .u8 101, .int .u8 102, .int .u8 100, .int .u8 101, .int .u8 102, .int .u8 103, .int .u8 101, .int .u8 102, .int .u8 103, .int .u8 104, .int .u8 102, .int .u8 103, .int .u8 104, .int .u8 105, .int .u8 103, .int .u8 104, .int .u8 105, .int .u8 106, .int .u8 104, .int .u8 105, .int .u8 106, .int .u8 107, .int .u8 105, .int .u8 106, .int .u8 107, .int .u8 108, .int .u8 106, .int .u8 107, .int .u8 108, .int .u8 109, .int .u8 107, .int .u8 108, .int .u8 109, .int .u8 110, .int .u8 108, .int .u8 109, .int .u8 110, .int .u8 111, .int .u8 109, .int .u8 110, .int .u8 111, .int .u8 112, .int .u8 110, .int .u8 111, .int .u8 112, .int .u8 113] : Array Value) = aB 56 xLong := by kernel_rfl
set_option maxRecDepth 100000 in
set_option maxHeartbeats 400000 in
theorem awake_any (w : World) : Calls Tryd.prog 18 #[] w fun e w' => e = .returned (.bool true) ∧ Below w.heap.size w w' := by
  have kc := fun (w : World) (C : Array Value) (n c : Nat) => Lib.run_convert_bytes_const (P := Tryd.prog) w 26 5 C n c Tryd.underlying26 Tryd.underlying5
  have h1 := hexAbc
  have h2 := hexNone
  go_enter Tryd.func18, Tryd.ntmps18
  go_wp2_with fail
  refine (sum_any _ 3 3 xAbc _ (by omega) (by omega) (str_alloc w _ _ _ 3 xAbc litAbc) xAbc_lt).mono ?_
  rintro e w1 ⟨rfl, hb1⟩
  have hz : (w.alloc (.cells #[.int .u8 97, .int .u8 98, .int .u8 99] 5 (3, 4))).heap.size = w.heap.size + 1 := by simp
  have HB1 := hid (Below.trans ((Below.refl w.heap.size w).alloc (by omega) _) (hb1.mono (by rw [hz]; omega)))
  clear hb1 hz
  go_wp2_with fail
  refine (hex_any _ (fun i _ => sha_lt _ _ i) _).mono ?_
  rintro e w2 ⟨rfl, hb2⟩
  have HB2 := hid (HB1.out.trans (hb2.mono HB1.out.size))
  clear hb2
  rw [h1]
  go_wp2_with fail
  refine (sum_any _ 0 0 xNone _ (by omega) (by omega) (.inl rfl) (fun i hi => by omega)).mono ?_
  rintro e w3 ⟨rfl, hb3⟩
  have HB3 := hid (HB2.out.trans (hb3.mono HB2.out.size))
  clear hb3
  go_wp2_with fail
  refine (hex_any _ (fun i _ => sha_lt _ _ i) _).mono ?_
  rintro e w4 ⟨rfl, hb4⟩
  have HB4 := hid (HB3.out.trans (hb4.mono HB3.out.size))
  clear hb4
  rw [h2]
  go_wp2
  go_ret
  exact ⟨rfl, HB4.out⟩
end Go.Proofs.YtfhjioedelpgiaaDoor
