/- Texts laid into one, cut to what is needed: the remark ahead of each part says what is proved there. -/
import Derived.Test.YtopibkoklagceaaGreatPbb
/- The document's Lay, may and Read of shard: as the program's contracts say; what was there is as it was. -/
namespace Go.Proofs.YtopibkoklagceaaGreat
open Go Go.RowKit

theorem rblay_any (po : Option Addr) (c : Nat) (bs : List Nat) (w : World) (hb : BL w po bs) (h8 : ∀ z ∈ bs, z < 256) (hl : bs.length ≤ 65536) (hc : bs.length ≤ c) (hp : po = none → c = 0) :
    Calls Tryz.prog 30 #[.slice po bs.length c] w fun e w' => ∃ v, e = .returned (.tuple #[v, .int .i64 0]) ∧ Buf w.heap.size w' v (flL bs) ∧ Below w.heap.size w w' := by
  refine (H.rlay_ok po bs.length c (fun j => bs.getD j 0) w hl hc (fun e => ⟨by have := hp e; omega, hp e⟩) hb.str (fun i hi => get256 h8 i hi)).mono ?_
  rintro e w' ⟨v, h1, h2, h3⟩
  exact ⟨v, h1, h2, h3⟩
theorem fls_take (k m : Nat) (b : List Nat) (i : Nat) (hi : i < k + m) : (fls k m b).take (i + 1) = (fls k m b).take i ++ [flL (shd k b i)] := by
  rw [List.take_add_one, fls_get k m b i hi]; rfl
set_option maxRecDepth 100000 in
set_option maxHeartbeats 2000000 in
theorem rlay11_ok (po : Option Addr) (c k m : Nat) (b : List Nat) (w : World) (h0 : 1 ≤ k) (h1 : 1 ≤ m) (h : k + m ≤ 16) (hn : b.length ≤ 65536) (hb : BL w po b) (h8 : ∀ z ∈ b, z < 256) :
    Calls Tryz.prog 7 #[.slice po b.length c, .int .i64 (k : Int), .int .i64 (m : Int)] w fun e w' => ∃ v, e = .returned (.tuple #[v, .int .i64 0]) ∧ LX w.heap.size w' v (fls k m b) ∧ Below w.heap.size w w' := by
  obtain ⟨N, hN⟩ : ∃ N, N = k + m := ⟨_, rfl⟩
  obtain ⟨n, hnl⟩ : ∃ n, n = U.lgt b.length k := ⟨_, rfl⟩
  have hln := U.lgt_le b.length k hn h0
  have hsp := U.rsplit_ok po b.length c k m (kx b) w h0 h1 h hn (bl_of_str hb h8)
  have HN := hid hN
  rw [← hN, ← hnl] at hsp
  have HSP := hid hsp
  have hN16 : N ≤ 16 := by omega
  have HNL := hid hnl
  rw [← hnl] at hln
  have HLN := hid hln
  clear hsp hN hnl hb h8 h0 h1 h hn hln
  go_enter Tryz.func7, Tryz.ntmps7
  go_wp2_with (go_at_call 29; refine HSP.out.mono ?_; rintro e w1 ⟨g, cp, G, rfl, hm, hb1⟩; have HM := hid hm; have HB1 := hid hb1; clear hm hb1)
  clear HSP
  go_loopw [10, 11] (fun u q wr => ∃ i : Nat, i ≤ N ∧ q = .int .i64 (i : Int) ∧ ∃ po k2 c2, u = .slice po k2 c2 ∧ Hid (LX w1.heap.size wr u ((fls k m b).take i)) ∧ Hid (Below w1.heap.size w1 wr)) (fun _ q _ => (1000000 - intOf q).toNat)
  case atStart => exact ⟨0, Nat.zero_le _, rfl, none, 0, 0, rfl, LX.nil _ _, Below.refl _ _⟩
  case round =>
    obtain ⟨i, hi, rfl, pa, ka, ca, rfl, HX, HB⟩ := hrel
    by_cases hlt : i < N
    · have c1 : wr.cell? ⟨g, i, none⟩ = some (.slice (some ⟨G i, 0, none⟩) n n) := by
        have h1 := ownmat_cell HM.out i hlt
        rw [World.cell?_of_block (HB.out.block g (World.block_lt_of_cell? _ _ h1)), h1]
      have hbl := ownmat_bl HM.out i hlt
      have e1 : ((List.range n).map fun j => (U.ash k n b.length (kx b) i j).val) = shd k b i := by unfold shd; rw [← HNL.out]
      rw [e1] at hbl
      have hbl2 := hbl.below HB.out
      have hsl : (shd k b i).length = n := by rw [shd_len, ← HNL.out]
      have hca := rblay_any (some ⟨G i, 0, none⟩) n (shd k b i) wr hbl2 (shd_lt k b i) (by rw [hsl]; exact HLN.out) (by rw [hsl]; exact Nat.le_refl _) (fun e => by cases e)
      rw [hsl] at hca
      have HCA := hid hca
      have HT := hid (fls_take k m b i (by rw [← HN.out]; exact hlt))
      have hi' : (i : Int) < (N : Int) := by omega
      have hw : IntKind.i64.wrap ((i : Int) + 1) = (i : Int) + 1 := IntWalk.i64_in _ ⟨by omega, by omega⟩
      have HAP := hid (fun (w2 : World) (hb2 : Below wr.heap.size wr w2) (u : Value) (hu : Buf w1.heap.size w2 u (flL (shd k b i))) => (HX.out.below hb2).push (below_al w2 (.cells #[u] 22)) (CAt.made w2 #[u] 22) (hu.below (below_al w2 _)) (by rw [List.length_take]; omega) (by have := HB.out.size; have := hb2.size; omega))
      clear hca hsl hbl hbl2 e1
      go_wp2_with (first
        | (go_at_call 30; refine HCA.out.mono ?_; rintro e w5 ⟨v5, rfl, hv5, hb5⟩; obtain ⟨p5, n5, rfl⟩ := Buf.form hv5; obtain ⟨p6, k6, c6, w6, hrun, hx6, hb6⟩ := HAP.out w5 hb5 _ (own_base hv5 HB.out.size); have HRUN := hid hrun; have HX6 := hid hx6; have HB6 := hid (below_tr (below_tr HB.out (below_less hb5 HB.out.size)) (below_tr (below_less (below_al w5 (.cells #[.slice p5 (flL (shd k b i)).length n5] 22)) (by have := HB.out.size; have := hb5.size; omega)) hb6)); clear hv5 hb5 hrun hx6 hb6)
        | (at_builtin; refine wpList_append_run _ _ 24 24 rfl rfl _ _ _ rfl rfl HRUN.out ?_))
      go_roundw
      case rel => exact ⟨i + 1, hlt, by congr 1, p6, k6, c6, rfl, (by rw [HT.out]; exact HX6.out), HB6⟩
      case measure => simp [intOf]; omega
    · have hq : ¬ (i : Int) < (N : Int) := by omega
      have hk' : i = N := by omega
      go_wp2
      go_ret2
      have hX := HX.out
      rw [List.take_of_length_le (by rw [fls_len, ← HN.out]; omega)] at hX
      exact ⟨_, rfl, hX.base HB1.out.size, below_on HB1.out HB.out⟩
end Go.Proofs.YtopibkoklagceaaGreat
