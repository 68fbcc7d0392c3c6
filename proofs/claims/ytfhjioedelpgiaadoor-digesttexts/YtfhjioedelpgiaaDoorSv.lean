/- Contract of DigestKnown of the statements on digest: the chapter's examples. -/
import Derived.Test.YtfhjioedelpgiaaDoorSu
import Derived.Test.YtfhjioedelpgiaaDoorSt
import Derived.Test.YtfhjioedelpgiaaDoorSl
import Derived.Deep.RegionHeld
namespace Go.Proofs.YtfhjioedelpgiaaDoor
open Go Go.RowKit
abbrev sRep (b : UInt8) (n : Nat) : ByteArray := ⟨(Lib.repeatL (⟨#[b]⟩ : ByteArray).data.toList n).toArray⟩
theorem rdE_0 : rdE (sRep 48 64) = 0 := by decide +kernel
theorem rdE_63 : rdE (sRep 48 63) = 4 := by decide +kernel
theorem rdE_G : rdE (sRep 71 64) = 4 := by decide +kernel
theorem rdF_0 : aB 32 (rdF (sRep 48 64)) = aB 32 zB := aB_congr 32 fun i hi => by
  have h : ∀ i : Fin 32, rdF (sRep 48 64) i.val = zB i.val := by decide +kernel
  exact h ⟨i, hi⟩
def s0 : Nat → ByteArray := fun _ => ⟨#[]⟩
def sX : Nat → ByteArray := fun _ => ⟨#[120]⟩
theorem tgE_0 : tgE 0 s0 = 0 := by decide +kernel
theorem tgE_X : tgE 1 sX = 4 := by decide +kernel
theorem tgS_X : tgS 1 sX = ⟨#[]⟩ := by unfold tgS; rw [tgE_X]; rfl
theorem tgS_0 : tgS 0 s0 = ⟨#[101, 51, 98, 48, 99, 52, 52, 50, 57, 56, 102, 99, 49, 99, 49, 52, 57, 97, 102, 98, 102, 52, 99, 56, 57, 57, 54, 102, 98, 57, 50, 52, 45, 48]⟩ := by
  unfold tgS
  rw [if_pos tgE_0, strN_congr 32 (y := hexF (sha 0 xNone)) (fun i hi => hexF_congr (fun j _ => sha_congr 0 (fun i hi => by omega) j) i (by omega)), ← str_take 64 32 _ (by omega), hexNone, Lib.decDigits_one (by omega)]
  decide +kernel
theorem txt_alloc (w : World) (t : TypeId) : TxtAt (w.alloc (.cells #[.string ⟨#[120]⟩] t)) (some ⟨w.heap.size, 0, none⟩) 1 sX :=
  .inr ⟨_, _, rfl, fun i hi => by
    have e : i = 0 := by omega
    subst e
    rw [cell_of_row _ _ _ _ t _ (heap_alloc_new _ _)]; rfl⟩
theorem lit32 : (#[.int .u8 0, .int .u8 0, .int .u8 0, .int .u8 0, .int .u8 0, .int .u8 0, .int .u8 0, .int .u8 0, .int .u8 0, .int .u8 0, .int .u8 0, .int .u8 0, .int .u8 0, .int .u8 0, .int .u8 0, .int .u8 0, .int .u8 0, .int .u8 0, .int .u8 0, .int .u8 0, .int .u8 0, .int .u8 0, .int .u8 0, .int .u8 0, .int .u8 0, .int .u8 0, .int .u8 0, .int .u8 0, .int .u8 0, .int .u8 0, .int .u8 0, .int .u8 0] : Array Value) = aB 32 zB := by kernel_rfl
theorem aB_val (n : Nat) (x : Nat → Nat) : (valN n x).toArray = aB n x := by
  apply Array.ext
  · rw [aB_size]; simp [valN_len]
  · intro i h1 h2
    rw [aB_elem]; simp [valN]
theorem eq_lit (w : World) : (Op.equalIn 10000 24 (.agg (valN 32 zB).toArray) (.agg #[.int .u8 0, .int .u8 0, .int .u8 0, .int .u8 0, .int .u8 0, .int .u8 0, .int .u8 0, .int .u8 0, .int .u8 0, .int .u8 0, .int .u8 0, .int .u8 0, .int .u8 0, .int .u8 0, .int .u8 0, .int .u8 0, .int .u8 0, .int .u8 0, .int .u8 0, .int .u8 0, .int .u8 0, .int .u8 0, .int .u8 0, .int .u8 0, .int .u8 0, .int .u8 0, .int .u8 0, .int .u8 0, .int .u8 0, .int .u8 0, .int .u8 0, .int .u8 0])).run Tryd.prog w = .ok true w := by
  rw [lit32, aB_val, run_eqDig, eqD_self]
theorem range_of {w : World} {g n : Nat} {t : TypeId} {x : Nat → Nat} (h : CAt w g (aB n x) t) : w.rangeAt g 0 (valN n x) := by
  intro j v hv
  rcases Nat.lt_or_ge j n with hlt | hge
  · rw [valN_get n x j hlt] at hv
    cases hv
    rw [Nat.zero_add]; exact h.cellB j hlt
  · rw [List.getElem?_eq_none (by rw [valN_len]; exact hge)] at hv; cases hv
theorem range_below {w w' : World} {b o : Nat} {cs : List Value} (h : w.rangeAt b o cs) (hb : Below w.heap.size w w') : w'.rangeAt b o cs := fun j v hv =>
  (hb.cell (p := ⟨b, o + j, none⟩) (show b < w.heap.size from cell_lt (h j v hv))).trans (h j v hv)
theorem range_alloc {w : World} {b o : Nat} {cs : List Value} (h : w.rangeAt b o cs) (ob : Obj) : (w.alloc ob).rangeAt b o cs := range_below h ((Below.refl _ _).alloc (Nat.le_refl _) _)
theorem awakeR (g : Nat) (cs : List Value) (w : World) (h : w.rangeAt g 0 cs) : Calls Tryd.prog 18 #[] w fun e w' => e = .returned (.bool true) ∧ Below w.heap.size w w' ∧ w'.rangeAt g 0 cs :=
  (awake_any w).mono fun _ _ ⟨h1, h2⟩ => ⟨h1, h2, range_below h h2⟩
theorem tagAbc : strN 32 (hexF (sha 3 xAbc)) = ⟨#[98, 97, 55, 56, 49, 54, 98, 102, 56, 102, 48, 49, 99, 102, 101, 97, 52, 49, 52, 49, 52, 48, 100, 101, 53, 100, 97, 101, 50, 50, 50, 51]⟩ := by
  rw [← str_take 64 32 _ (by omega), hexAbc]
  decide +kernel
theorem tagR (g : Nat) (cs : List Value) (w : World) (h : (w.alloc (.cells #[.int .u8 97, .int .u8 98, .int .u8 99] 5 (3, 4))).rangeAt g 0 cs) :
    Calls Tryd.prog 21 #[.slice (some ⟨w.heap.size, 0, none⟩) 3 3] (w.alloc (.cells #[.int .u8 97, .int .u8 98, .int .u8 99] 5 (3, 4))) fun e w' => e = .returned (.string ⟨#[98, 97, 55, 56, 49, 54, 98, 102, 56, 102, 48, 49, 99, 102, 101, 97, 52, 49, 52, 49, 52, 48, 100, 101, 53, 100, 97, 101, 50, 50, 50, 51]⟩) ∧ Below (w.heap.size + 1) (w.alloc (.cells #[.int .u8 97, .int .u8 98, .int .u8 99] 5 (3, 4))) w' ∧ w'.rangeAt g 0 cs := by
  refine (tag_any _ 3 3 xAbc _ (by omega) (by omega) (str_alloc w _ _ _ 3 xAbc litAbc) xAbc_lt).mono fun _ _ ⟨h1, h2⟩ => ⟨by rw [h1, tagAbc], ?_, range_below h h2⟩
  have hz : (w.alloc (.cells #[.int .u8 97, .int .u8 98, .int .u8 99] 5 (3, 4))).heap.size = w.heap.size + 1 := by simp
  rw [← hz]; exact h2
theorem cutAbc : (⟨#[98, 97, 55, 56, 49, 54, 98, 102, 56, 102, 48, 49, 99, 102, 101, 97, 52, 49, 52, 49, 52, 48, 100, 101, 53, 100, 97, 101, 50, 50, 50, 51, 98, 48, 48, 51, 54, 49, 97, 51, 57, 54, 49, 55, 55, 97, 57, 99, 98, 52, 49, 48, 102, 102, 54, 49, 102, 50, 48, 48, 49, 53, 97, 100]⟩ : ByteArray).extract 0 32 = ⟨#[98, 97, 55, 56, 49, 54, 98, 102, 56, 102, 48, 49, 99, 102, 101, 97, 52, 49, 52, 49, 52, 48, 100, 101, 53, 100, 97, 101, 50, 50, 50, 51]⟩ := by decide +kernel
theorem cutNone : (⟨#[101, 51, 98, 48, 99, 52, 52, 50, 57, 56, 102, 99, 49, 99, 49, 52, 57, 97, 102, 98, 102, 52, 99, 56, 57, 57, 54, 102, 98, 57, 50, 52, 50, 55, 97, 101, 52, 49, 101, 52, 54, 52, 57, 98, 57, 51, 52, 99, 97, 52, 57, 53, 57, 57, 49, 98, 55, 56, 53, 50, 98, 56, 53, 53]⟩ : ByteArray).extract 0 32 = ⟨#[101, 51, 98, 48, 99, 52, 52, 50, 57, 56, 102, 99, 49, 99, 49, 52, 57, 97, 102, 98, 102, 52, 99, 56, 57, 57, 54, 102, 98, 57, 50, 52]⟩ := by decide +kernel
theorem putNone : (⟨#[101, 51, 98, 48, 99, 52, 52, 50, 57, 56, 102, 99, 49, 99, 49, 52, 57, 97, 102, 98, 102, 52, 99, 56, 57, 57, 54, 102, 98, 57, 50, 52]⟩ : ByteArray) ++ ⟨#[45, 48]⟩ = ⟨#[101, 51, 98, 48, 99, 52, 52, 50, 57, 56, 102, 99, 49, 99, 49, 52, 57, 97, 102, 98, 102, 52, 99, 56, 57, 57, 54, 102, 98, 57, 50, 52, 45, 48]⟩ := by decide +kernel
/-- On from one world to the next. -/
theorem on {B : Nat} {w w1 w2 : World} (h : Below B w w1) (hB : B ≤ w1.heap.size) (h2 : Below w1.heap.size w1 w2) : Below B w w2 := h.trans (h2.mono hB)
set_option maxRecDepth 100000 in
set_option maxHeartbeats 4000000 in
theorem known_any (w : World) : Calls Tryd.prog 4 #[] w fun e w' => e = .returned (.bool true) ∧ Below w.heap.size w w' := by
  have kc := fun (w : World) (C : Array Value) (n c : Nat) => Lib.run_convert_bytes_const (P := Tryd.prog) w 26 5 C n c Tryd.underlying26 Tryd.underlying5
  go_enter Tryd.func4, Tryd.ntmps4
  go_wp2_with fail
  refine (Tryd.strings_Repeat ⟨#[48]⟩ 64 _ (by decide) (by decide)).mono ?_
  rintro e w1 ⟨rfl, hb1⟩
  have HB1 := hid hb1
  clear hb1
  go_wp2_with fail
  refine (read_any _ _).mono ?_
  rintro e w2 ⟨rfl, hb2⟩
  rw [rdE_0, rdF_0]
  have HB2 := hid (HB1.out.trans (hb2.mono HB1.out.size))
  clear hb2
  go_upto_region 2 with (first
    | refine wpList_alloc_row rfl 24 rfl _ zero32 ?_
    | refine wpList_store_row rfl 24 _ _ rfl _ _ rfl rfl _ _ (CAt.new _ _ _) (size32 _) (by simp only [aB_size]) (aB_one _ _) ?_)
  have C3 : CAt ((w2.alloc (.cells (aB 32 zB) 24)).setRow w2.heap.size (aB 32 zB)) w2.heap.size (aB 32 zB) 24 := (CAt.new _ _ _).row _
  have HB3 := hid (below_setRow (g := w2.heap.size) (HB2.out.alloc HB2.out.size (.cells (aB 32 zB) 24)) HB2.out.size (aB 32 zB))
  have HC3 := hid C3
  clear C3
  generalize ((w2.alloc (.cells (aB 32 zB) 24)).setRow w2.heap.size (aB 32 zB)) = w3 at *
  generalize w2.heap.size = g1 at *
  go_wp2_with fail
  refine (Tryd.strings_Repeat ⟨#[48]⟩ 63 _ (by decide) (by decide)).mono ?_
  rintro e w4a ⟨rfl, hb⟩
  have HB4a := hid (HB3.out.trans (hb.mono HB3.out.size))
  have HC4a := hid (HC3.out.below hb HC3.out.lt)
  clear hb
  go_wp2_with fail
  refine (read_any _ _).mono ?_
  rintro e w4b ⟨rfl, hb⟩
  rw [rdE_63]
  have HB4b := hid (HB4a.out.trans (hb.mono HB4a.out.size))
  have HC4b := hid (HC4a.out.below hb HC4a.out.lt)
  clear hb
  go_upto_region 3 with (first
    | refine wpList_alloc_row rfl 24 rfl _ zero32 ?_
    | refine wpList_store_row rfl 24 _ _ rfl _ _ rfl rfl _ _ (CAt.new _ _ _) (size32 _) (by simp only [aB_size]) (aB_one _ _) ?_)
  have hlt4 := HC4b.out.lt
  have HB4c := hid (below_setRow (g := w4b.heap.size) (HB4b.out.alloc HB4b.out.size (.cells (aB 32 zB) 24)) HB4b.out.size (aB 32 (rdF (sRep 48 63))))
  have HC4c := hid ((HC4b.out.alloc (.cells (aB 32 zB) 24)).rowOther (k := w4b.heap.size) (aB 32 (rdF (sRep 48 63))) (by omega))
  clear hlt4
  generalize ((w4b.alloc (.cells (aB 32 zB) 24)).setRow w4b.heap.size (aB 32 (rdF (sRep 48 63)))) = w4c at *
  go_wp2_with fail
  refine (Tryd.strings_Repeat ⟨#[71]⟩ 64 _ (by decide) (by decide)).mono ?_
  rintro e w5a ⟨rfl, hb⟩
  have HB5a := hid (HB4c.out.trans (hb.mono HB4c.out.size))
  have HC5a := hid (HC4c.out.below hb HC4c.out.lt)
  clear hb
  go_wp2_with fail
  refine (read_any _ _).mono ?_
  rintro e w5b ⟨rfl, hb⟩
  rw [rdE_G]
  have HB5b := hid (HB5a.out.trans (hb.mono HB5a.out.size))
  have HC5b := hid (HC5a.out.below hb HC5a.out.lt)
  clear hb
  go_upto_region 4 with (first
    | refine wpList_alloc_row rfl 24 rfl _ zero32 ?_
    | refine wpList_store_row rfl 24 _ _ rfl _ _ rfl rfl _ _ (CAt.new _ _ _) (size32 _) (by simp only [aB_size]) (aB_one _ _) ?_)
  have hlt5 := HC5b.out.lt
  have HB5c := hid (below_setRow (g := w5b.heap.size) (HB5b.out.alloc HB5b.out.size (.cells (aB 32 zB) 24)) HB5b.out.size (aB 32 (rdF (sRep 71 64))))
  have HC5c := hid ((HC5b.out.alloc (.cells (aB 32 zB) 24)).rowOther (k := w5b.heap.size) (aB 32 (rdF (sRep 71 64))) (by omega))
  clear hlt5
  generalize ((w5b.alloc (.cells (aB 32 zB) 24)).setRow w5b.heap.size (aB 32 (rdF (sRep 71 64)))) = w5c at *
  clear HB1 HB2 HB3 HC3 HB4a HC4a HB4b HC4b HB4c HC4c HB5a HC5a HB5b HC5b
  go_wp2_with fail
  refine (tags_any none 0 0 s0 _ (by omega) (.inl rfl)).mono ?_
  rintro e w6 ⟨rfl, hb⟩
  rw [tgE_0, tgS_0]
  have HB6 := hid (HB5c.out.trans (hb.mono HB5c.out.size))
  have HC6 := hid (HC5c.out.below hb HC5c.out.lt)
  clear hb HB5c HC5c
  go_wp2_with fail
  refine (tags_any _ 1 1 sX _ (by omega) (txt_alloc w6 9)).mono ?_
  rintro e w7 ⟨rfl, hb⟩
  rw [tgE_X, tgS_X]
  have hz : (w6.alloc (.cells #[.string ⟨#[120]⟩] 9)).heap.size = w6.heap.size + 1 := by simp
  have HB7 := hid (Below.trans (HB6.out.alloc HB6.out.size (.cells #[.string ⟨#[120]⟩] 9)) (hb.mono (by rw [hz]; have := HB6.out.size; omega)))
  have HC7 := hid (CAt.below (HC6.out.alloc (.cells #[.string ⟨#[120]⟩] 9)) hb (by rw [hz]; have := HC6.out.lt; omega))
  clear hb hz HB6 HC6
  go_wp2_with fail
  refine (sum_any _ 56 56 xLong _ (by omega) (by omega) (str_alloc w7 _ _ _ 56 xLong litLong) xLong_lt).mono ?_
  rintro e w8 ⟨rfl, hb⟩
  rw [litLong] at hb
  have hz : (w7.alloc (.cells (aB 56 xLong) 5 (56, 57))).heap.size = w7.heap.size + 1 := by simp
  have HB8 := hid (Below.trans (HB7.out.alloc HB7.out.size (.cells (aB 56 xLong) 5 (56, 57))) (hb.mono (by rw [hz]; have := HB7.out.size; omega)))
  have HC8 := hid (CAt.below (HC7.out.alloc (.cells (aB 56 xLong) 5 (56, 57))) hb (by rw [hz]; have := HC7.out.lt; omega))
  clear hb hz HB7 HC7
  go_wp2_with fail
  refine (hex_any _ (fun i _ => sha_lt _ _ i) _).mono ?_
  rintro e w9 ⟨rfl, hb⟩
  rw [hexLong]
  have HB9 := hid (HB8.out.trans (hb.mono HB8.out.size))
  have HC9 := hid (HC8.out.below hb HC8.out.lt)
  clear hb HB8 HC8
  go_wp2_with fail
  have hEq := eq_lit
  have hu := Tryd.underlying24
  have hi : (Tryd.prog.info? 24).map (·.size) = some (valN 32 zB).length := by rw [valN_len]; kernel_rfl
  have hl : (valN 32 zB).length = 32 := valN_len _ _
  have ho : ∀ v ∈ valN 32 zB, v.oneCell' = true := fun v hv => by
    simp only [valN, List.mem_map] at hv
    obtain ⟨i, _, rfl⟩ := hv; rfl
  have R9 := range_of HC9.out
  have x1 := cutAbc
  have x2 := cutNone
  have x3 := putNone
  dsimp only at x1 x2 x3
  clear kc
  have kc := fun (w : World) (n c : Nat) => Lib.run_convert_bytes_const (P := Tryd.prog) w 26 5 #[.int .u8 97, .int .u8 98, .int .u8 99] n c Tryd.underlying26 Tryd.underlying5
  go_region_held (fun w' => w'.rangeAt g1 0 (valN 32 zB)) (first | assumption | exact range_alloc (by assumption) _ | go_keep_ranges) (first
    | (go_at_call 18; refine (awakeR g1 (valN 32 zB) _ (by assumption)).mono ?_; rintro e wa ⟨rfl, hba, hra⟩)
    | (go_at_call 21; refine (tagR g1 (valN 32 zB) _ (by assumption)).mono ?_; rintro e wb ⟨rfl, hbb, hrb⟩))
  go_wp2
  go_ret
  have b1 : Below w.heap.size w wa := (HB9.out.drew).trans (hba.mono HB9.out.size)
  exact ⟨rfl, (b1.alloc b1.size _).trans (hbb.mono (by have := b1.size; omega))⟩
end Go.Proofs.YtfhjioedelpgiaaDoor
