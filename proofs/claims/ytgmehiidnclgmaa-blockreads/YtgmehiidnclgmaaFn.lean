/- Contracts of awake of the statements on block, and of BlockKnown: the chapter's examples. -/
import Derived.Test.YtgmehiidnclgmaaFm
namespace Go.Proofs.Ytgmehiidnclgmaa
open Go Go.RowKit

def fA (i : Nat) : Nat := fAbc.getD i 0
def tA (i : Nat) : Nat := tAbc.getD i 0
theorem PartU.str {w w' : World} {L : List Nat} {E : Int} {e : Ending} (h : PartU w L E e w') : ∃ po, e = .returned (.tuple #[.slice po L.length L.length, .int .i64 E]) ∧ Below w.heap.size w w' ∧ StrAt w' po L.length (fun i => L.getD i 0) := by
  obtain ⟨po, he, hb, ⟨rfl, rfl⟩ | ⟨g, rfl, _, hr⟩⟩ := h
  · exact ⟨none, he, hb, .inl rfl⟩
  · exact ⟨_, he, hb, hr.str⟩
theorem rf3L : partL fA 35 3 0 3 = [97, 98, 99] := by decide +kernel
theorem rf3E : partE fA 35 3 0 3 = 0 := by decide +kernel
theorem rt3L : partL tA 35 3 0 3 = [] := by decide +kernel
theorem rt3E : partE tA 35 3 0 3 = 14 := by decide +kernel
theorem rf4L : partL fA 35 4 0 4 = [] := by decide +kernel
theorem rf4E : partE fA 35 4 0 4 = 4 := by decide +kernel
theorem pf12L : partL fA 35 3 1 2 = [98] := by decide +kernel
theorem pf12E : partE fA 35 3 1 2 = 0 := by decide +kernel
theorem pf24L : partL fA 35 3 2 4 = [] := by decide +kernel
theorem pf24E : partE fA 35 3 2 4 = 5 := by decide +kernel
theorem pt11L : partL tA 35 3 1 1 = [] := by decide +kernel
theorem pt11E : partE tA 35 3 1 1 = 0 := by decide +kernel
theorem bt3L : bdL tA 35 3 = [0] := by decide +kernel
theorem bn300L : bdL (fun _ => 0) 0 300 = [0, 1] := by decide +kernel
theorem sE3 : szE 3 = 0 := by decide
theorem sE300 : szE 300 = 0 := by decide
theorem litB : (#[.int .u8 98] : Array Value) = aB 1 (fun i => [98].getD i 0) := by kernel_rfl
set_option maxRecDepth 100000 in
set_option maxHeartbeats 1000000 in
theorem awake_any (w : World) : Calls Try.prog 17 #[] w fun e w' => e = .returned (.bool true) ∧ Below w.heap.size w w' := by
  have kc := fun (w : World) (C : Array Value) (n c : Nat) => Lib.run_convert_bytes_const (P := Try.prog) w 22 5 C n c Try.underlying22 Try.underlying5
  go_enter Try.func17, Try.ntmps17
  go_wp2_with fail
  refine (abc_any w).mono ?_
  rintro e w1 ⟨pf, cf, pt, ct, rfl, hcf, hct, hpf, hpt, sf, st, b1⟩
  have HF : Hid (StrAt w1 pf 35 fA) := sf
  have HT : Hid (StrAt w1 pt 35 tA) := st
  have HB1 := hid b1
  have h1 := read_any pf 35 cf fA 3 w1 hcf (fun h => absurd h hpf) sf fAbc_lt
  rw [rf3L, rf3E] at h1
  have H1 := hid h1
  have HPT := hid hpt
  clear sf st b1 h1 hpf hpt
  go_wp2_with fail
  refine H1.out.mono ?_
  intro e w2 h
  obtain ⟨po, rfl, b2, s2⟩ := h.str
  have HB2 := hid b2
  have HS2 := hid s2
  have h2 := read_any pt 35 ct tA 3 w2 hct (fun h => absurd h HPT.out) (HT.out.below b2) tAbc_lt
  rw [rt3L, rt3E] at h2
  have H2 := hid h2
  clear h b2 s2 h2 H1
  go_wp2_with fail
  refine H2.out.mono ?_
  intro e w3 h
  obtain ⟨po3, rfl, b3, _⟩ := h.str
  have HB3 := hid b3
  have HS3 := hid (HS2.out.below b3)
  clear h b3 H2
  have hz : (w3.alloc (.cells #[.int .u8 97, .int .u8 98, .int .u8 99] 5 (3, 4))).heap.size = w3.heap.size + 1 := by simp
  have HSA : Hid (Calls Try.prog 14 #[.slice po 3 3, .slice (some ⟨w3.heap.size, 0, none⟩) 3 3] (w3.alloc (.cells #[.int .u8 97, .int .u8 98, .int .u8 99] 5 (3, 4))) fun e w' => e = .returned (.bool true) ∧ w' = (w3.alloc (.cells #[.int .u8 97, .int .u8 98, .int .u8 99] 5 (3, 4)))) :=
    same_true _ _ 3 _ _ xAbc _ (HS3.out.below ((Below.refl _ _).alloc (by omega) _)) (str_alloc w3 _ _ _ 3 xAbc litAbc)
  have HBW := hid (((HB1.out.trans (HB2.out.mono HB1.out.size)).trans (HB3.out.mono (Nat.le_trans HB1.out.size HB2.out.size))).alloc (Nat.le_trans (Nat.le_trans HB1.out.size HB2.out.size) HB3.out.size) (.cells #[.int .u8 97, .int .u8 98, .int .u8 99] 5 (3, 4)))
  clear hz
  go_wp2_with (go_at_call 14; refine HSA.out.mono ?_; rintro e w6 ⟨rfl, rfl⟩)
  go_ret
  exact ⟨rfl, HBW.out⟩
end Go.Proofs.Ytgmehiidnclgmaa
