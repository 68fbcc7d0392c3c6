/- The chapter's file of abc: contract of abc of the statements on block. -/
import Derived.Test.YtgmehiidnclgmaaFl
namespace Go.Proofs.Ytgmehiidnclgmaa
open Go Go.RowKit

def xAbc (i : Nat) : Nat := [97, 98, 99].getD i 0
theorem xAbc_lt (i : Nat) (hi : i < 3) : xAbc i < 256 := by
  have h : ∀ i : Fin 3, xAbc i.val < 256 := by decide
  exact h ⟨i, hi⟩
def dAbc : List Nat := [186, 120, 22, 191, 143, 1, 207, 234, 65, 65, 64, 222, 93, 174, 34, 35, 176, 3, 97, 163, 150, 23, 122, 156, 180, 16, 255, 97, 242, 0, 21, 173]
def fAbc : List Nat := dAbc ++ [97, 98, 99]
def tAbc : List Nat := dAbc ++ [97, 98, 100]
theorem sha_abc : (List.range 32).map (sha 3 xAbc) = dAbc := by decide +kernel
theorem file_abc : fileL 3 xAbc = fAbc := by decide +kernel
theorem fAbc_len : fAbc.length = 35 := by decide
theorem tAbc_len : tAbc.length = 35 := by decide
theorem fAbc_lt : ∀ i, i < 35 → fAbc.getD i 0 < 256 := by
  have h : ∀ i : Fin 35, fAbc.getD i.val 0 < 256 := by decide +kernel
  exact fun i hi => h ⟨i, hi⟩
theorem tAbc_lt : ∀ i, i < 35 → tAbc.getD i 0 < 256 := by
  have h : ∀ i : Fin 35, tAbc.getD i.val 0 < 256 := by decide +kernel
  exact fun i hi => h ⟨i, hi⟩
theorem str_alloc (w : World) (cs : Array Value) (t : TypeId) (fr : Nat × Nat) (n : Nat) (x : Nat → Nat) (h : cs = aB n x) : StrAt (w.alloc (.cells cs t fr)) (some ⟨w.heap.size, 0, none⟩) n x := by
  subst h
  exact .inr ⟨_, _, rfl, fun i hi => by rw [Nat.zero_add, cell_of_row _ _ i _ t fr (heap_alloc_new _ _), aB_get n x i hi]⟩
theorem litAbc : (#[.int .u8 97, .int .u8 98, .int .u8 99] : Array Value) = aB 3 xAbc := by kernel_rfl
theorem BufL.str {B : Nat} {w : World} {v : Value} {L : List Nat} (h : BufL B w v L) : ∃ p c, v = .slice p L.length c ∧ L.length ≤ c ∧ StrAt w p L.length (fun i => L.getD i 0) ∧ (p = none → L.length = 0 ∧ c = 0) := h.buf.str
theorem BufL.own {B : Nat} {w : World} {v : Value} {L : List Nat} (h : BufL B w v L) (hL : L ≠ []) : ∃ g cc, v = .slice (some ⟨g, 0, none⟩) L.length cc ∧ B ≤ g ∧ g < w.heap.size ∧ L.length ≤ cc ∧ (∀ i, i < L.length → w.cell? ⟨g, i, none⟩ = some (.int .u8 (L.getD i 0 : Nat))) ∧ ∀ i, w.frozen? ⟨g, i, none⟩ = false := by
  have h0 := h
  obtain ⟨_, ⟨h1, h2⟩ | ⟨g, cap, cur, rfl, hB, hg, hc, _, _, _⟩⟩ := h
  · exact absurd (List.eq_nil_of_length_eq_zero h2) hL
  · refine ⟨g, cap, rfl, hB, (Array.getElem?_eq_some_iff.1 hg).1, hc, fun i hi => ?_, fun i => by simp [World.frozen?, hg]⟩
    have h1 : w.ownsRow B 5 1 (.slice (some ⟨g, 0, none⟩) L.length cap) L.length (L.map u8) := h0
    rw [h1.cellAt i (by omega)]
    simp [hi, u8]
theorem tAbc_at : ∀ i, i < 35 → tAbc.getD i 0 = if i = 34 then 100 else fAbc.getD i 0 := by
  have h : ∀ i : Fin 35, tAbc.getD i.val 0 = if i.val = 34 then 100 else fAbc.getD i.val 0 := by decide +kernel
  exact fun i hi => h ⟨i, hi⟩
theorem fAbc_own : (List.range 35).map (fun i => fAbc.getD i 0) = fAbc := by decide
def AbcAt (w : World) (e : Ending) (w' : World) : Prop := ∃ pf cf pt ct, e = .returned (.tuple #[.slice pf 35 cf, .slice pt 35 ct, .bool true]) ∧ 35 ≤ cf ∧ 35 ≤ ct ∧ pf ≠ none ∧ pt ≠ none ∧ StrAt w' pf 35 (fun i => fAbc.getD i 0) ∧ StrAt w' pt 35 (fun i => tAbc.getD i 0) ∧ Below w.heap.size w w'
set_option maxRecDepth 100000 in
set_option maxHeartbeats 1000000 in
theorem abc_any (w : World) : Calls Try.prog 26 #[] w (AbcAt w) := by
  have kc := fun (w : World) (C : Array Value) (n c : Nat) => Lib.run_convert_bytes_const (P := Try.prog) w 22 5 C n c Try.underlying22 Try.underlying5
  go_enter Try.func26, Try.ntmps26
  go_wp2_with fail
  have hz1 : (w.alloc (.cells #[.int .u8 97, .int .u8 98, .int .u8 99] 5 (3, 4))).heap.size = w.heap.size + 1 := by simp
  refine (lay_ok _ 3 3 xAbc _ (by omega) (by omega) (fun h => by cases h) (str_alloc w _ _ _ 3 xAbc litAbc) xAbc_lt).mono ?_
  rintro e w1 ⟨v, rfl, f1, b1⟩
  rw [file_abc] at f1
  have b1' : Below w.heap.size w w1 := Below.trans ((Below.refl w.heap.size w).alloc (by omega) _) (b1.mono (by rw [hz1]; omega))
  obtain ⟨pf, cf, rfl, hcf, sf, hpf⟩ := f1.str
  rw [fAbc_len] at hcf sf hpf ⊢
  have HSF := hid sf
  have HPF : Hid (pf ≠ none) := fun h => by have := hpf h; omega
  have HB1 := hid b1'
  clear b1 b1' f1 sf hpf hz1
  go_wp2_with fail
  have hz2 : (w1.alloc (.cells #[.int .u8 97, .int .u8 98, .int .u8 99] 5 (3, 4))).heap.size = w1.heap.size + 1 := by simp
  refine (sum_any _ 3 3 xAbc _ (by omega) (by omega) (str_alloc w1 _ _ _ 3 xAbc litAbc) xAbc_lt).mono ?_
  rintro e w2 ⟨rfl, hb2⟩
  have hb2' : Below w1.heap.size w1 w2 := Below.trans ((Below.refl w1.heap.size w1).alloc (by omega) _) (hb2.mono (by rw [hz2]; omega))
  obtain ⟨dg, hdg⟩ : ∃ dg, sha 3 xAbc = dg := ⟨_, rfl⟩
  have hsd := sha_abc
  rw [hdg] at hsd ⊢
  have HDG := hid hsd
  have HB2 := hid hb2'
  clear hb2 hb2' hz2 hdg hsd
  go_upto_region 3 with (first
    | refine wpList_alloc_row rfl 61 rfl _ zero32 ?_
    | refine wpList_store_row rfl 61 _ _ rfl _ _ rfl rfl _ _ (CAt.new _ _ _) (size32 _) (by simp only [aB_size]) (aB_one _ _) ?_)
  have hb3 : Below w1.heap.size w1 ((w2.alloc (.cells (aB 32 zB) 61)).setRow w2.heap.size (aB 32 dg)) := below_setRow (HB2.out.alloc HB2.out.size _) HB2.out.size _
  have hd3 : CAt ((w2.alloc (.cells (aB 32 zB) 61)).setRow w2.heap.size (aB 32 dg)) w2.heap.size (aB 32 dg) 61 := (CAt.new _ _ _).row _
  generalize ((w2.alloc (.cells (aB 32 zB) 61)).setRow w2.heap.size (aB 32 dg)) = W3 at *
  generalize w2.heap.size = g2 at *
  have hb4 : Below W3.heap.size W3 (W3.alloc (.cells #[] 5)) := (Below.refl _ _).alloc (by omega) _
  obtain ⟨v4, W4, r4, f4, g4, _⟩ := (BufL.empty W3.heap.size W3 (Nat.le_refl _)).app (some ⟨g2, 0, none⟩) 32 32 dg (.inr ⟨g2, 0, rfl, fun i hi => by rw [Nat.zero_add]; exact (hd3.below hb4 hd3.lt).cellB i hi⟩) (fun h => by cases h) (by simp) (by simp)
  have hb5 : Below W3.heap.size W3 W4 := hb4.grown g4 (by simp) (fun k e => by cases e; exact Nat.le_refl _)
  rw [List.nil_append, HDG.out] at f4
  have hb6 : Below W4.heap.size W4 (W4.alloc (.cells #[.int .u8 97, .int .u8 98, .int .u8 99] 5)) := (Below.refl _ _).alloc (by omega) _
  obtain ⟨v5, W5, r5, f5, g5, _⟩ := (f4.below hb6).app (some ⟨W4.heap.size, 0, none⟩) 3 3 xAbc (str_alloc W4 _ _ _ 3 xAbc litAbc) (fun h => by cases h) (by simp [dAbc]) (by have := hb5.size; simp; omega)
  have hb7 : Below W3.heap.size W3 W5 := (hb5.trans (hb6.mono hb5.size)).grown g5 (by have := hb5.size; simp; omega) (fun k e => ((f4.below hb6).ge k e).1)
  have hf5 : dAbc ++ (List.range 3).map xAbc = fAbc := by decide
  rw [hf5] at f5
  obtain ⟨k4a, k4b, k4c, rfl⟩ := f4.form3
  obtain ⟨p5, c5, rfl, hc5, s5, _⟩ := f5.str
  rw [fAbc_len] at s5 r5
  have HR4 := hid r4
  have HR5 := hid r5
  have HB7 := hid (hb3.trans (hb7.mono hb3.size))
  have HS5 := hid s5
  have HSAME : Hid (Calls Try.prog 14 #[.slice pf 35 cf, .slice p5 35 c5] W5 fun e w' => e = .returned (.bool true) ∧ w' = W5) := same_true _ _ _ _ _ _ _ (HSF.out.below (hb3.trans (hb7.mono hb3.size))) s5
  clear hb3 hd3 hb4 r4 f4 g4 hb5 hb6 r5 f5 g5 hb7 hf5 hc5 s5
  go_upto_region 5 with (first
    | (at_builtin; refine wpList_append_run (.tmp 25) (.tmp 26) 22 rfl (by first | rfl | simp [Region.wanted, yielded]) _ _ (.slice k4a k4b k4c) rfl rfl HR4.out ?_)
    | (at_builtin; refine wpList_append_run (.tmp 27) (.tmp 28) 22 rfl (by first | rfl | simp [Region.wanted, yielded]) _ _ (.slice p5 35 c5) rfl rfl HR5.out ?_)
    | (go_at_call 14; refine HSAME.out.mono ?_; rintro e w6 ⟨rfl, hw⟩; have h3 := hw.symm; subst h3))
  have HCP := hid (copyB_any pf 35 cf (fun i => fAbc.getD i 0) W5 (by omega) (fun h => absurd h HPF.out) (HSF.out.below HB7.out))
  rw [fAbc_own] at HCP
  go_upto_region 6 with (go_at_call 32; refine HCP.out.mono ?_; rintro e w6 ⟨vt, rfl, hft, hbt⟩; have HFT := hid hft; have HBT := hid hbt; clear hft hbt)
  obtain ⟨g, ct, rfl, hg1, hg2, hct, hcell, hfr⟩ := HFT.out.own (by decide)
  rw [fAbc_len] at hct hcell ⊢
  have c34 := hcell 34 (by omega)
  have f34 := hfr 34
  have HT : Hid (StrAt (w6.setCell ⟨g, 34, none⟩ (.int .u8 100)) (some ⟨g, 0, none⟩) 35 (fun i => tAbc.getD i 0)) := by
    refine .inr ⟨g, 0, rfl, fun i hi => ?_⟩
    rw [Nat.zero_add]
    show _ = some (Value.int .u8 ((tAbc.getD i 0 : Nat) : Int))
    rw [tAbc_at i hi]
    by_cases e : i = 34
    · subst e; rw [if_pos rfl]; exact World.cell?_setCell_same _ _ _ c34
    · rw [if_neg e, World.cell?_setCell_other _ _ _ _ (by intro h; cases h; exact e rfl)]; exact hcell i hi
  have HBW : Hid (Below W5.heap.size W5 (w6.setCell ⟨g, 34, none⟩ (.int .u8 100))) := HBT.out.setCell (p := ⟨g, 34, none⟩) hg1 _
  clear hcell hfr
  go_wp2
  refine bodyPost_ret (results_tmp3 rfl _ _ _) rfl ?_
  exact ⟨pf, cf, some ⟨g, 0, none⟩, ct, rfl, hcf, hct, HPF.out, (fun h => by cases h), (HSF.out.below HB7.out).below HBW.out, HT.out, (HB1.out.trans (HB7.out.mono HB1.out.size)).trans (HBW.out.mono (Nat.le_trans HB1.out.size HB7.out.size))⟩
end Go.Proofs.Ytgmehiidnclgmaa
