/- Contract of stands of the document's own answer: what stands of a block in a file, and whether it is sound. -/
import Derived.Test.YtgmehiidnclgmaaFf
namespace Go.Proofs.Ytgmehiidnclgmaa
open Go Go.RowKit

def StandAt (w : World) (y : Nat → Nat) (m n i : Nat) (e : Ending) (w' : World) : Prop := ∃ p2 k c2, e = .returned (.tuple #[.slice p2 k c2, .bool (snd y m n i)]) ∧ Below w.heap.size w w' ∧
  (288 * i + 32 + (bend n i - 256 * i) ≤ m → k = sEnd m n i - (288 * i + 32) ∧ (∀ W', Below w.heap.size w W' → StrAt W' p2 k (fun j => y (288 * i + 32 + j))) ∧ k ≤ c2 ∧ (p2 = none → k = 0 ∧ c2 = 0))
set_option maxRecDepth 100000 in
set_option maxHeartbeats 2000000 in
theorem rstands_any (p : Option Addr) (m c : Nat) (y : Nat → Nat) (n i : Nat) (w : World) (hn : n ≤ 65536) (hi : i < cnt n) (hm : m ≤ 100000) (hc : m ≤ c) (hp : p = none → m = 0 ∧ c = 0) (hy : StrAt w p m y) (hb : ∀ j, j < m → y j < 256) :
    Calls Try.prog 42 #[.slice p m c, .int .i64 (n : Int), .int .i64 (i : Int)] w (StandAt w y m n i) := by
  have hcn : cnt n = (n + 255) / 256 := rfl
  have hF := @snd_false y m n i
  have hT := @snd_eq y m n i
  have hE : sEnd m n i = if bend n i = n then m else 288 * i + 32 + (bend n i - 256 * i) := rfl
  have hbd : bend n i = min (256 * i + 256) n := rfl
  have hg : ∀ (p2 : Option Addr) (k c2 : Nat) (w' : World), Below w.heap.size w w' →
    (288 * i + 32 + (bend n i - 256 * i) ≤ m → k = sEnd m n i - (288 * i + 32) ∧ (∀ W', Below w.heap.size w W' → StrAt W' p2 k (fun j => y (288 * i + 32 + j))) ∧ k ≤ c2 ∧ (p2 = none → k = 0 ∧ c2 = 0)) →
    StandAt w y m n i (.returned (.tuple #[.slice p2 k c2, .bool (snd y m n i)])) w' := fun p2 k c2 w' h1 h2 => ⟨p2, k, c2, rfl, h1, h2⟩
  obtain ⟨s, hs⟩ : ∃ s, snd y m n i = s := ⟨_, rfl⟩
  obtain ⟨E, hEe⟩ : ∃ E, sEnd m n i = E := ⟨_, rfl⟩
  obtain ⟨r, hr⟩ : ∃ r, bend n i = r := ⟨_, rfl⟩
  obtain ⟨q, hq⟩ : ∃ q, 256 * i = q := ⟨_, rfl⟩
  obtain ⟨b, hbb⟩ : ∃ b, 288 * i + 32 = b := ⟨_, rfl⟩
  obtain ⟨o, ho⟩ : ∃ o, 288 * i = o := ⟨_, rfl⟩
  obtain ⟨C, hC⟩ : ∃ C, cnt n = C := ⟨_, rfl⟩
  rw [hs, hr, hq, hbb] at hF
  rw [hs, hr, hq, hbb, hEe, ho] at hT
  rw [hr, hq] at hbd
  rw [hEe, hr, hq, hbb] at hE
  rw [hs, hr, hq, hbb, hEe] at hg
  rw [hC] at hcn
  have hqr : q < r ∧ r ≤ n ∧ r - q ≤ 256 := by omega
  obtain ⟨d, hd⟩ : ∃ d, b + (r - q) = d := ⟨_, rfl⟩
  obtain ⟨t, ht⟩ : ∃ t, n - q = t := ⟨_, rfl⟩
  obtain ⟨u, hu⟩ : ∃ u, r - q = u := ⟨_, rfl⟩
  obtain ⟨z, hz⟩ : ∃ z, C - 1 = z := ⟨_, rfl⟩
  have e1 : IntKind.i64.wrap ((i : Int) * 288) = (o : Int) := by rw [IntWalk.i64_in _ ⟨by omega, by omega⟩]; omega
  have e2 : IntKind.i64.wrap ((o : Int) + 32) = (b : Int) := by rw [IntWalk.i64_in _ ⟨by omega, by omega⟩]; omega
  have e3 : IntKind.i64.wrap ((i : Int) * 256) = (q : Int) := by rw [IntWalk.i64_in _ ⟨by omega, by omega⟩]; omega
  have e4 : IntKind.i64.wrap ((n : Int) - (q : Int)) = (t : Int) := by rw [IntWalk.i64_in _ ⟨by omega, by omega⟩]; omega
  have e5 : (if (t : Int) < 256 then (t : Int) else 256) = (u : Int) := by split <;> omega
  have e6 : IntKind.i64.wrap ((b : Int) + (u : Int)) = (d : Int) := by rw [IntWalk.i64_in _ ⟨by omega, by omega⟩]; omega
  have e7 : IntKind.i64.wrap ((C : Int) - 1) = (z : Int) := by rw [IntWalk.i64_in _ ⟨by omega, by omega⟩]; omega
  rw [hd] at hF hT hE hg
  have HC := hid hC
  have HCN := hid hcn
  by_cases h1 : d ≤ m
  · have h1' : ¬ (m : Int) < (d : Int) := by omega
    have hT := hT h1
    have hEm : b ≤ E ∧ E ≤ m := by split at hE <;> omega
    obtain ⟨p2, hcut, hp2, hp4⟩ := run_cut p m c b E hEm.1 (by omega)
    obtain ⟨p3, hcut3, hp3, _⟩ := run_cut p m c o b (by omega) (by omega)
    have h32 : b - o = 32 := by omega
    rw [h32] at hcut3
    have HS2 : Hid (∀ W', Below w.heap.size w W' → StrAt W' p2 (E - b) (fun j => y (b + j))) := fun W' hW' => (hy.below hW').cut hc hEm.2 hp2
    have HS3 : Hid (∀ W', Below w.heap.size w W' → StrAt W' p3 32 (fun j => y (o + j))) := fun W' hW' => by
      have := (hy.below hW').cut (h := b) hc (by omega) hp3
      rwa [h32] at this
    have HP2 : Hid (p2 = none → E - b = 0 ∧ c - b = 0) := fun h => by have := hp (hp4 h); omega
    obtain ⟨dg, hdg⟩ : ∃ dg, sha (E - b) (fun j => y (b + j)) = dg := ⟨_, rfl⟩
    rw [hdg] at hT
    have HSUM : Hid (Calls Try.prog 38 #[.slice p2 (E - b) (c - b)] w fun e w' => e = .returned (.agg (aB 32 dg)) ∧ Below w.heap.size w w') := by
      show Calls _ _ _ _ _
      rw [← hdg]; exact rsum_any _ _ _ _ _ (by omega) HP2.out (HS2.out _ (Below.refl _ _)) (fun j hj => hb _ (by omega))
    have HSE : Hid (((strN 32 dg).toList == (strN 32 (fun j => y (o + j))).toList) = s) := by
      show _ = _
      rw [str_eq 32 32 dg _ (fun j _ => by rw [← hdg]; exact sha_lt _ _ _) (fun j hj => hb _ (by omega)), eq32, hT]
    have HG : Hid (∀ w', Below w.heap.size w w' → StandAt w y m n i (.returned (.tuple #[.slice p2 (E - b) (c - b), .bool s])) w') := fun w' hw' => hg p2 (E - b) (c - b) w' hw' (fun _ => ⟨rfl, HS2.out, by omega, HP2.out⟩)
    have HBo : Hid (b = o + 32) := by show b = o + 32; omega
    have HEM := hid hEm
    clear hdg hF hT hy hb hp2 hp3 hEm hbd h32 hg hp hp4 hs hEe
    by_cases h2 : r = n
    · rw [if_pos h2] at hE
      subst hE
      obtain rfl : z = i := by omega
      clear hcn hC hi
      clear hz ht hu hqr hd hq hbb ho h2 hr
      go_enter Try.func42, Try.ntmps42
      go_upto_region 9 with (first
        | (go_at_call 37; refine (rblocks_any n (by omega) _).mono ?_; rintro e w5 ⟨rfl, hw⟩; have h3 := hw.symm; subst h3; rw [HC.out])
        | (go_at_call 38; refine HSUM.out.mono ?_; rintro e w5 ⟨rfl, hbw⟩; have HB5 := hid hbw; clear hbw)
        | refine wpList_alloc_row rfl 61 rfl _ zero32 ?_
        | refine wpList_store_row rfl 61 _ _ rfl _ _ rfl rfl _ _ (CAt.new _ _ _) (size32 _) (by simp only [aB_size]) (aB_one _ _) ?_)
      have hb6 : Below w.heap.size w ((w5.alloc (.cells (aB 32 zB) 61)).setRow w5.heap.size (aB 32 dg)) := below_setRow (HB5.out.alloc HB5.out.size _) HB5.out.size _
      have hd : CAt ((w5.alloc (.cells (aB 32 zB) 61)).setRow w5.heap.size (aB 32 dg)) w5.heap.size (aB 32 dg) 61 := (CAt.new _ _ _).row _
      generalize ((w5.alloc (.cells (aB 32 zB) 61)).setRow w5.heap.size (aB 32 dg)) = W6 at *
      generalize w5.heap.size = g5 at *
      have c1 : ∀ k, (convert 22 9 (.slice (some ⟨g5, 0, none⟩) 32 32)).run Try.prog (W6.drewN k) = .ok (.string (strN 32 dg)) (W6.drewN k) := fun k => conv_str _ _ _ _ _ (.inr ⟨_, 0, rfl, fun i hi => by rw [Nat.zero_add]; exact (hd.drewN k).cellB i hi⟩)
      have c2 : ∀ k, (convert 22 9 (.slice p3 32 (c - o))).run Try.prog (W6.drewN k) = .ok (.string (strN 32 (fun j => y (o + j)))) (W6.drewN k) := fun k => conv_str _ _ _ _ _ (HS3.out _ (Below.drewN' hb6 k))
      have HB6 := hid hb6
      clear hb6 hd
      have hob : (o : Int) ≤ (b : Int) := by have := HBo.out; omega
      generalize strN 32 dg = S1 at *
      generalize strN 32 (fun j => y (o + j)) = S2 at *
      go_quiet (fail)
      go_wp2
      go_ret2
      have h9 := HG.out
      rw [← HSE.out] at h9
      exact h9 _ (Below.drewN' HB6.out _)
    · rw [if_neg h2] at hE
      subst hE
      have h2' : ¬ (i : Int) = (z : Int) := by omega
      clear hcn hC hi hz ht hu hqr hd hq hbb ho h2 hr
      go_enter Try.func42, Try.ntmps42
      go_upto_region 9 with (first
        | (go_at_call 37; refine (rblocks_any n (by omega) _).mono ?_; rintro e w5 ⟨rfl, hw⟩; have h3 := hw.symm; subst h3; rw [HC.out])
        | (go_at_call 38; refine HSUM.out.mono ?_; rintro e w5 ⟨rfl, hbw⟩; have HB5 := hid hbw; clear hbw)
        | refine wpList_alloc_row rfl 61 rfl _ zero32 ?_
        | refine wpList_store_row rfl 61 _ _ rfl _ _ rfl rfl _ _ (CAt.new _ _ _) (size32 _) (by simp only [aB_size]) (aB_one _ _) ?_)
      have hb6 : Below w.heap.size w ((w5.alloc (.cells (aB 32 zB) 61)).setRow w5.heap.size (aB 32 dg)) := below_setRow (HB5.out.alloc HB5.out.size _) HB5.out.size _
      have hd : CAt ((w5.alloc (.cells (aB 32 zB) 61)).setRow w5.heap.size (aB 32 dg)) w5.heap.size (aB 32 dg) 61 := (CAt.new _ _ _).row _
      generalize ((w5.alloc (.cells (aB 32 zB) 61)).setRow w5.heap.size (aB 32 dg)) = W6 at *
      generalize w5.heap.size = g5 at *
      have c1 : ∀ k, (convert 22 9 (.slice (some ⟨g5, 0, none⟩) 32 32)).run Try.prog (W6.drewN k) = .ok (.string (strN 32 dg)) (W6.drewN k) := fun k => conv_str _ _ _ _ _ (.inr ⟨_, 0, rfl, fun i hi => by rw [Nat.zero_add]; exact (hd.drewN k).cellB i hi⟩)
      have c2 : ∀ k, (convert 22 9 (.slice p3 32 (c - o))).run Try.prog (W6.drewN k) = .ok (.string (strN 32 (fun j => y (o + j)))) (W6.drewN k) := fun k => conv_str _ _ _ _ _ (HS3.out _ (Below.drewN' hb6 k))
      have HB6 := hid hb6
      clear hb6 hd
      have hob : (o : Int) ≤ (b : Int) := by have := HBo.out; omega
      generalize strN 32 dg = S1 at *
      generalize strN 32 (fun j => y (o + j)) = S2 at *
      go_quiet (fail)
      go_wp2
      go_ret2
      have h9 := HG.out
      rw [← HSE.out] at h9
      exact h9 _ (Below.drewN' HB6.out _)
  · have h1' : (m : Int) < (d : Int) := by omega
    have hF := hF h1
    have HG := hid (hg none 0 0 w (Below.refl _ _) (fun h => absurd h h1))
    clear hg
    go_enter Try.func42, Try.ntmps42
    clear hcn hC hi
    go_wp2
    go_ret2
    rw [hF] at HG
    exact HG.out
end Go.Proofs.Ytgmehiidnclgmaa
