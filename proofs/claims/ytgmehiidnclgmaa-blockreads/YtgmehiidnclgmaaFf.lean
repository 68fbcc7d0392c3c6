/- Contracts of SameBytes and bytes.Equal, of sound of package block, and of stands of the document's own answer. -/
import Derived.Test.YtgmehiidnclgmaaFe
import Derived.Test.YtgmehiidnclgmaaSl
namespace Go.Proofs.Ytgmehiidnclgmaa
open Go Go.RowKit

theorem strN_inj (n m : Nat) (x y : Nat → Nat) (hx : ∀ i, i < n → x i < 256) (hy : ∀ i, i < m → y i < 256) : strN n x = strN m y ↔ n = m ∧ ∀ i, i < n → x i = y i := by
  constructor
  · intro h
    unfold strN strOfNums at h
    have h1 := congrArg (fun s : ByteArray => s.data.toList) h
    simp only [List.map_map] at h1
    have hl := congrArg List.length h1
    simp at hl
    refine ⟨hl, fun i hi => ?_⟩
    have h2 := congrArg (fun l : List UInt8 => l[i]?) h1
    simp [hi, show i < m by omega] at h2
    have h3 := congrArg UInt8.toNat h2
    have := hx i hi
    have := hy i (by omega)
    simp at h3
    omega
  · rintro ⟨rfl, h⟩
    unfold strN; congr 1; apply List.map_congr_left; intro i hi; rw [h i (List.mem_range.1 hi)]
def sameB (n : Nat) (x : Nat → Nat) (m : Nat) (y : Nat → Nat) : Bool := decide (n = m) && eqD n x y
theorem sameB_iff (n : Nat) (x : Nat → Nat) (m : Nat) (y : Nat → Nat) : sameB n x m y = true ↔ n = m ∧ ∀ i, i < n → x i = y i := by
  unfold sameB; rw [Bool.and_eq_true, decide_eq_true_eq, eqD_iff]
theorem str_eq (n m : Nat) (x y : Nat → Nat) (hx : ∀ i, i < n → x i < 256) (hy : ∀ i, i < m → y i < 256) : ((strN n x).toList == (strN m y).toList) = sameB n x m y := by
  rw [Bool.eq_iff_iff, beq_iff_eq, sameB_iff, ← strN_inj n m x y hx hy, Go.ByteArray.toList_eq, Go.ByteArray.toList_eq]
  exact ⟨Go.WideShapes.bytes_inj, fun h => by rw [h]⟩
set_option maxHeartbeats 400000 in
theorem same_any (p q : Option Addr) (n m c d : Nat) (x y : Nat → Nat) (w : World) (hp : StrAt w p n x) (hq : StrAt w q m y) (hx : ∀ i, i < n → x i < 256) (hy : ∀ i, i < m → y i < 256) :
    Calls Try.prog 14 #[.slice p n c, .slice q m d] w fun e w' => e = .returned (.bool (sameB n x m y)) ∧ w' = w := by
  have h1 := conv_str w p n c x hp
  have h2 := conv_str w q m d y hq
  have h3 := str_eq n m x y hx hy
  go_enter Try.func14, Try.ntmps14
  go_wp2
  go_ret
  exact ⟨by first | rfl | (rw [← h3]; rfl), rfl⟩
set_option maxHeartbeats 400000 in
theorem equal_any (p q : Option Addr) (n m c d : Nat) (x y : Nat → Nat) (w : World) (hp : StrAt w p n x) (hq : StrAt w q m y) (hx : ∀ i, i < n → x i < 256) (hy : ∀ i, i < m → y i < 256) :
    Calls Try.prog 57 #[.slice p n c, .slice q m d] w fun e w' => e = .returned (.bool (sameB n x m y)) ∧ w' = w := by
  have h1 := conv_str w p n c x hp
  have h2 := conv_str w q m d y hq
  have h3 := str_eq n m x y hx hy
  go_enter Try.func57, Try.ntmps57
  go_wp2
  go_ret
  exact ⟨by first | rfl | (rw [← h3]; rfl), rfl⟩
/-- Where the bytes of a block end in a file of m bytes. -/
def sEnd (m n i : Nat) : Nat := if bend n i = n then m else 288 * i + 32 + (bend n i - 256 * i)
/-- Is the block sound? -/
def snd (y : Nat → Nat) (m n i : Nat) : Bool := decide (288 * i + 32 + (bend n i - 256 * i) ≤ m) && eqD 32 (sha (sEnd m n i - (288 * i + 32)) (fun j => y (288 * i + 32 + j))) (fun j => y (288 * i + j))
theorem eq32 (x y : Nat → Nat) : sameB 32 x 32 y = eqD 32 x y := by unfold sameB; simp
theorem snd_false {y : Nat → Nat} {m n i : Nat} (h : ¬ 288 * i + 32 + (bend n i - 256 * i) ≤ m) : snd y m n i = false := by unfold snd; simp [h]
theorem snd_eq {y : Nat → Nat} {m n i : Nat} (h : 288 * i + 32 + (bend n i - 256 * i) ≤ m) : snd y m n i = eqD 32 (sha (sEnd m n i - (288 * i + 32)) (fun j => y (288 * i + 32 + j))) (fun j => y (288 * i + j)) := by unfold snd; simp [h]
set_option maxRecDepth 100000 in
set_option maxHeartbeats 1000000 in
theorem sound_any (p : Option Addr) (m c : Nat) (y : Nat → Nat) (n i : Nat) (w : World) (hn : n ≤ 65536) (hi : i < cnt n) (hm : m ≤ 100000) (hc : m ≤ c) (hy : StrAt w p m y) (hb : ∀ j, j < m → y j < 256) :
    Calls Try.prog 40 #[.slice p m c, .int .i64 (n : Int), .int .i64 ((256 * i : Nat) : Int), .int .i64 ((bend n i : Nat) : Int)] w fun e w' => e = .returned (.bool (snd y m n i)) ∧ Below w.heap.size w w' := by
  have hcn : cnt n = (n + 255) / 256 := rfl
  have HN := hid hcn
  have HY := hid hy
  have HB := hid hb
  have hF := @snd_false y m n i
  have hT := @snd_eq y m n i
  have hE : sEnd m n i = if bend n i = n then m else 288 * i + 32 + (bend n i - 256 * i) := rfl
  have hbd : bend n i = min (256 * i + 256) n := rfl
  obtain ⟨s, hs⟩ : ∃ s, snd y m n i = s := ⟨_, rfl⟩
  obtain ⟨E, hEe⟩ : ∃ E, sEnd m n i = E := ⟨_, rfl⟩
  obtain ⟨r, hr⟩ : ∃ r, bend n i = r := ⟨_, rfl⟩
  obtain ⟨q, hq⟩ : ∃ q, 256 * i = q := ⟨_, rfl⟩
  obtain ⟨b, hbb⟩ : ∃ b, 288 * i + 32 = b := ⟨_, rfl⟩
  rw [hs, hr, hq, hbb] at hF
  rw [hs, hr, hq, hbb, hEe] at hT
  rw [hr, hq] at hbd
  rw [hEe, hr, hq, hbb] at hE
  rw [hs, hr, hq]
  have hqr : q < r ∧ r ≤ n ∧ r - q ≤ 256 := by omega
  have hpl : q + 32 * i + 32 = b := by omega
  have hqi : q / 256 = i := by omega
  have e1 : IntKind.i64.wrap ((b : Int) + (r : Int)) = (b : Int) + (r : Int) := IntWalk.i64_in _ ⟨by omega, by omega⟩
  obtain ⟨d, hd⟩ : ∃ d, b + (r - q) = d := ⟨_, rfl⟩
  have e2 : IntKind.i64.wrap ((b : Int) + (r : Int) - (q : Int)) = (d : Int) := by rw [IntWalk.i64_in _ ⟨by omega, by omega⟩]; omega
  have e3 : IntKind.i64.wrap ((b : Int) - 32) = ((288 * i : Nat) : Int) := by rw [IntWalk.i64_in _ ⟨by omega, by omega⟩]; omega
  rw [hd] at hF hT hE
  by_cases h1 : d ≤ m
  · have h1' : ¬ (m : Int) < (d : Int) := by omega
    have hT := hT h1
    obtain ⟨o, ho⟩ : ∃ o, 288 * i = o := ⟨_, rfl⟩
    rw [ho] at e3 hT
    have hEm : b ≤ E ∧ E ≤ m := by split at hE <;> omega
    obtain ⟨p2, hcut, hp2, _⟩ := run_cut p m c b E hEm.1 (by omega)
    obtain ⟨p3, hcut3, hp3, _⟩ := run_cut p m c o b (by omega) (by omega)
    have h32 : b - o = 32 := by omega
    rw [h32] at hcut3
    have HS2 : Hid (StrAt w p2 (E - b) (fun j => y (b + j))) := hy.cut hc hEm.2 hp2
    have HS3 : Hid (∀ W', Below w.heap.size w W' → StrAt W' p3 32 (fun j => y (o + j))) := fun W' hW' => by
      have := (hy.below hW').cut (h := b) hc (by omega) hp3
      rwa [h32] at this
    obtain ⟨dg, hdg⟩ : ∃ dg, sha (E - b) (fun j => y (b + j)) = dg := ⟨_, rfl⟩
    rw [hdg] at hT
    have HSUM : Hid (Calls Try.prog 36 #[.slice p2 (E - b) (c - b)] w fun e w' => e = .returned (.agg (aB 32 dg)) ∧ Below w.heap.size w w') := by
      show Calls _ _ _ _ _
      rw [← hdg]; exact sum_any _ _ _ _ _ (by omega) (by omega) HS2.out (fun j hj => hb _ (by omega))
    have HDL : Hid (∀ j, j < 32 → dg j < 256) := fun j _ => by rw [← hdg]; exact sha_lt _ _ _
    have HYL : Hid (∀ j, j < 32 → y (o + j) < 256) := fun j hj => hb _ (by omega)
    have HT := hid hT
    have HBo : Hid (b = o + 32) := by show b = o + 32; omega
    clear hdg hF hT hy hb hp2 hp3 HS2 hEm hbd h32
    by_cases h2 : r = n
    · rw [if_pos h2] at hE
      subst hE
      have h2' : (r : Int) = (n : Int) := by omega
      go_enter Try.func40, Try.ntmps40
      go_upto_region 8 with (first
        | (go_at_call 41; refine (place_any q i (by omega) hqi _).mono ?_; rintro e w5 ⟨rfl, hw⟩; have h3 := hw.symm; subst h3; rw [hpl])
        | (go_at_call 36; refine HSUM.out.mono ?_; rintro e w5 ⟨rfl, hbw⟩; have HB5 := hid hbw; clear hbw)
        | refine wpList_alloc_row rfl 61 rfl _ zero32 ?_
        | refine wpList_store_row rfl 61 _ _ rfl _ _ rfl rfl _ _ (CAt.new _ _ _) (size32 _) (by simp only [aB_size]) (aB_one _ _) ?_)
      have hb6 : Below w.heap.size w ((w5.alloc (.cells (aB 32 zB) 61)).setRow w5.heap.size (aB 32 dg)) := below_setRow (HB5.out.alloc HB5.out.size _) HB5.out.size _
      have hd : CAt ((w5.alloc (.cells (aB 32 zB) 61)).setRow w5.heap.size (aB 32 dg)) w5.heap.size (aB 32 dg) 61 := (CAt.new _ _ _).row _
      generalize ((w5.alloc (.cells (aB 32 zB) 61)).setRow w5.heap.size (aB 32 dg)) = W6 at *
      generalize w5.heap.size = g5 at *
      have HA : Hid (∀ k, StrAt (W6.drewN k) (some ⟨g5, 0, none⟩) 32 dg) := fun k => .inr ⟨_, 0, rfl, fun i hi => by rw [Nat.zero_add]; exact (hd.drewN k).cellB i hi⟩
      have HC : Hid (∀ k, StrAt (W6.drewN k) p3 32 (fun j => y (o + j))) := fun k => HS3.out _ (Below.drewN' hb6 k)
      have HB6 := hid hb6
      clear hb6 hd
      have hob : (o : Int) ≤ (b : Int) := by have := HBo.out; omega
      go_quiet ((go_at_call 57; refine Calls.quiet_of_same (equal_any _ _ _ _ _ _ dg (fun j => y (o + j)) _ (HA.out _) (HC.out _) HDL.out HYL.out)))
      go_wp2
      go_ret
      exact ⟨by rw [HT.out, ← eq32]; rfl, Below.drewN' HB6.out _⟩
    · rw [if_neg h2] at hE
      subst hE
      have h2' : ¬ (r : Int) = (n : Int) := by omega
      go_enter Try.func40, Try.ntmps40
      go_upto_region 8 with (first
        | (go_at_call 41; refine (place_any q i (by omega) hqi _).mono ?_; rintro e w5 ⟨rfl, hw⟩; have h3 := hw.symm; subst h3; rw [hpl])
        | (go_at_call 36; refine HSUM.out.mono ?_; rintro e w5 ⟨rfl, hbw⟩; have HB5 := hid hbw; clear hbw)
        | refine wpList_alloc_row rfl 61 rfl _ zero32 ?_
        | refine wpList_store_row rfl 61 _ _ rfl _ _ rfl rfl _ _ (CAt.new _ _ _) (size32 _) (by simp only [aB_size]) (aB_one _ _) ?_)
      have hb6 : Below w.heap.size w ((w5.alloc (.cells (aB 32 zB) 61)).setRow w5.heap.size (aB 32 dg)) := below_setRow (HB5.out.alloc HB5.out.size _) HB5.out.size _
      have hd : CAt ((w5.alloc (.cells (aB 32 zB) 61)).setRow w5.heap.size (aB 32 dg)) w5.heap.size (aB 32 dg) 61 := (CAt.new _ _ _).row _
      generalize ((w5.alloc (.cells (aB 32 zB) 61)).setRow w5.heap.size (aB 32 dg)) = W6 at *
      generalize w5.heap.size = g5 at *
      have HA : Hid (∀ k, StrAt (W6.drewN k) (some ⟨g5, 0, none⟩) 32 dg) := fun k => .inr ⟨_, 0, rfl, fun i hi => by rw [Nat.zero_add]; exact (hd.drewN k).cellB i hi⟩
      have HC : Hid (∀ k, StrAt (W6.drewN k) p3 32 (fun j => y (o + j))) := fun k => HS3.out _ (Below.drewN' hb6 k)
      have HB6 := hid hb6
      clear hb6 hd
      have hob : (o : Int) ≤ (b : Int) := by have := HBo.out; omega
      go_quiet ((go_at_call 57; refine Calls.quiet_of_same (equal_any _ _ _ _ _ _ dg (fun j => y (o + j)) _ (HA.out _) (HC.out _) HDL.out HYL.out)))
      go_wp2
      go_ret
      exact ⟨by rw [HT.out, ← eq32]; rfl, Below.drewN' HB6.out _⟩
  · have h1' : (m : Int) < (d : Int) := by omega
    have hF := hF h1
    go_enter Try.func40, Try.ntmps40
    go_wp2_with (go_at_call 41; refine (place_any q i (by omega) hqi _).mono ?_; rintro e w5 ⟨rfl, hw⟩; have h3 := hw.symm; subst h3; rw [hpl])
    go_ret
    exact ⟨by rw [hF]; rfl, Below.refl _ _⟩
end Go.Proofs.Ytgmehiidnclgmaa
