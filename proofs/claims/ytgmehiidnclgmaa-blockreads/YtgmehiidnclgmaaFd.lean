/- Contract of Lay of package block: the file of bytes. -/
import Derived.Test.YtgmehiidnclgmaaFc
import Derived.BigQuiet
namespace Go.Proofs.Ytgmehiidnclgmaa
open Go Go.RowKit

/-- All that is known while the file is laid. -/
structure LayM (w W : World) (p : Option Addr) (n c : Nat) (v : Value) (L : List Nat) : Prop where
  bb : Boxed W w.heap.size 22 (.slice p n c)
  bf : Boxed W (w.heap.size + 1 + 1) 22 v
  bn : Boxed W (w.heap.size + 1 + 1 + 1) 3 (.int .i64 (n : Int))
  buf : BufL (w.heap.size + 1) W v L
  below : Below w.heap.size w W
  sz : w.heap.size + 4 ≤ W.heap.size
theorem LayM.grown {w W W' : World} {p : Option Addr} {n c : Nat} {v : Value} {L : List Nat} {row : Option Nat} (h : LayM w W p n c v L) (hg : W.grownBy W' row)
    (hr : ∀ r, row = some r → w.heap.size + 4 ≤ r ∧ ∃ o : Obj, W.heap[r]? = some o ∧ o.isCells = false) : LayM w W' p n c v L where
  bb := h.bb.kept hg (fun e => by have := (hr _ e.symm).1; omega)
  bf := h.bf.kept hg (fun e => by have := (hr _ e.symm).1; omega)
  bn := h.bn.kept hg (fun e => by have := (hr _ e.symm).1; omega)
  buf := h.buf.kept hg (by
    cases ho : v.ownBlock with
    | none => exact .inl rfl
    | some g =>
      refine .inr fun e => ?_
      obtain ⟨_, o, h1, h2⟩ := hr g e.symm
      rw [h.buf.cells g o ho h1] at h2; cases h2)
  below := h.below.grown hg h.below.size (fun k e => by have := (hr k e).1; omega)
  sz := Nat.le_trans h.sz hg.size
theorem LayM.on {w W W' : World} {p : Option Addr} {n c : Nat} {v : Value} {L : List Nat} (h : LayM w W p n c v L) (hb : Below W.heap.size W W') : LayM w W' p n c v L where
  bb := (hb.block _ h.bb.lt).trans h.bb
  bf := (hb.block _ h.bf.lt).trans h.bf
  bn := (hb.block _ h.bn.lt).trans h.bn
  buf := h.buf.below hb
  below := h.below.trans (hb.mono h.below.size)
  sz := Nat.le_trans h.sz hb.size
theorem LayM.drewN {w W : World} {p : Option Addr} {n c : Nat} {v : Value} {L : List Nat} (h : LayM w W p n c v L) (k : Nat) : LayM w (W.drewN k) p n c v L := h.on (Below.drewN' (Below.refl _ _) k)
theorem keeps_below {W W' : World} (h : Below W.heap.size W W') : KeepsOthers W W' := ⟨h.size, fun k _ hk _ => (h.block k (Array.getElem?_eq_some_iff.1 hk).1).trans hk⟩
def LayI (w : World) (p : Option Addr) (n c : Nat) (x : Nat → Nat) (pre : List (Fin (cnt n))) (W : World) : Prop := ∃ v, LayM w W p n c v (preL n x pre) ∧
  ((∃ k, k ≤ cnt n ∧ pre = (List.finRange (cnt n)).take k) → v = .slice (some ⟨w.heap.size + 1, 0, none⟩) (preL n x pre).length (n + 32 * cnt n))
def LaidG (w : World) (L : List Nat) (e : Ending) (w' : World) : Prop := ∃ g, e = .returned (.tuple #[.slice (some ⟨g, 0, none⟩) L.length L.length, .int .i64 0]) ∧ w.heap.size + 1 ≤ g ∧ RowL w' g L ∧ BufL (w.heap.size + 1) w' (.slice (some ⟨g, 0, none⟩) L.length L.length) L ∧ Below w.heap.size w w'
def LaidAt (w : World) (L : List Nat) (e : Ending) (w' : World) : Prop := ∃ v, e = .returned (.tuple #[v, .int .i64 0]) ∧ BufL (w.heap.size + 1) w' v L ∧ Below w.heap.size w w'

set_option maxRecDepth 100000 in
set_option maxHeartbeats 1000000 in
theorem lay_g (p : Option Addr) (n c : Nat) (x : Nat → Nat) (w : World) (hn : n ≤ 65536) (hc : n ≤ c) (hp : p = none → n = 0 ∧ c = 0) (hx : StrAt w p n x) (hb : ∀ i, i < n → x i < 256) :
    Calls Try.prog 10 #[.slice p n c] w (LaidG w (fileL n x)) := by
  have HX := hid hx
  have HB := hid hb
  have HP := hid hp
  have hsz := szV_nat n hn
  have hse := szE_nat n hn
  have hcn : cnt n = (n + 255) / 256 := rfl
  obtain ⟨m, hm⟩ : ∃ m, n + 32 * cnt n = m := ⟨_, rfl⟩
  rw [hm] at hsz
  have hm2 : m ≤ 100000 := by omega
  have hmk := run_make_cap m hm2
  refine (callsIn_wide (n := 5)).1 ?_
  refine callsIn_of_wp_marks Try.func10 rfl trivial ?_ rfl
  refine wpIn_wide.2 ?_
  simp only [Try.ntmps10, List.size_toArray, List.length_cons, List.length_nil, Nat.reduceAdd, Nat.reduceSub, Array.replicate_succ, Array.replicate_zero, List.push_toArray, List.append_toArray, List.nil_append, List.cons_append]
  clear hx hb hp
  go_wp2_with (first
    | (go_at_call 12; refine (size_any _ _).mono ?_; rintro e w5 ⟨rfl, rfl⟩; rw [hsz, hse])
    | (go_at_call 35; refine (blocks_any _ _).mono ?_; rintro e w5 ⟨rfl, rfl⟩))
  rename_i Kx hKx
  have m0 : LayM w ((((w.alloc (.cells #[.slice p n c] 22)).alloc (.cells (madeCells #[.int .u8 0] m) 5)).alloc (.cells #[.slice (some ⟨w.heap.size + 1, 0, none⟩) 0 m] 22)).alloc (.cells #[.int .i64 (n : Int)] 3)) p n c (.slice (some ⟨w.heap.size + 1, 0, none⟩) 0 m) [] := by
    have b1 := Boxed.new w 22 (.slice p n c)
    have b2 := Boxed.new ((w.alloc (.cells #[.slice p n c] 22)).alloc (.cells (madeCells #[.int .u8 0] m) 5)) 22 (.slice (some ⟨w.heap.size + 1, 0, none⟩) 0 m)
    have f0 := BufL.made (w.alloc (.cells #[.slice p n c] 22)) (w.heap.size + 1) m (by simp) hm2
    simp only [World.size_alloc] at b2 f0
    have b3 := Boxed.new (((w.alloc (.cells #[.slice p n c] 22)).alloc (.cells (madeCells #[.int .u8 0] m) 5)).alloc (.cells #[.slice (some ⟨w.heap.size + 1, 0, none⟩) 0 m] 22)) 3 (.int .i64 (n : Int))
    simp only [World.size_alloc] at b3
    refine ⟨((b1.alloc _).alloc _).alloc _, b2.alloc _, b3, ?_, ((((Below.refl _ w).alloc (by simp) _).alloc (by simp) _).alloc (by simp; omega) _).alloc (by simp; omega) _, by simp⟩
    exact (f0.below ((Below.refl _ _).alloc (by simp) _)).below ((Below.refl _ _).alloc (by simp) _)
  have bn := Boxed.new (((w.alloc (.cells #[.slice p n c] 22)).alloc (.cells (madeCells #[.int .u8 0] m) 5)).alloc (.cells #[.slice (some ⟨w.heap.size + 1, 0, none⟩) 0 m] 22)) 3 (.int .i64 (n : Int))
  simp only [World.size_alloc] at bn
  have hsz0 : ((((w.alloc (.cells #[.slice p n c] 22)).alloc (.cells (madeCells #[.int .u8 0] m) 5)).alloc (.cells #[.slice (some ⟨w.heap.size + 1, 0, none⟩) 0 m] 22)).alloc (.cells #[.int .i64 (n : Int)] 3)).heap.size = w.heap.size + 4 := by simp
  generalize ((((w.alloc (.cells #[.slice p n c] 22)).alloc (.cells (madeCells #[.int .u8 0] m) 5)).alloc (.cells #[.slice (some ⟨w.heap.size + 1, 0, none⟩) 0 m] 22)).alloc (.cells #[.int .i64 (n : Int)] 3)) = W0 at m0 bn hsz0 ⊢
  refine (wpIn_wide (n := 5)).1 ?_
  refine wpIn_rangeFunc_ownG rfl (by omega) (gf := 48) (lb := #[.pointer (some ⟨w.heap.size + 1 + 1 + 1, 0, none⟩)]) rfl trivial (enters_of Try.func48 (by kernel_rfl) rfl)
    (blocks_stops 3 (w.heap.size + 1 + 1 + 1) n hn W0 bn) keepsAt_t (keepsAt_b (by omega)) (Below.refl _ _) (fun _ => rfl)
    (LayI w p n c x) (fun _ _ _ => False) ?hI (fun _ _ _ _ _ h _ _ => h) ⟨_, m0, fun _ => by rw [hm]; rfl⟩
    (fun i => { tmps := #[.slice p n c, .pointer (some ⟨w.heap.size, 0, none⟩), .slice none 0 0, .int .i64 0, .int .i64 m, .int .i64 0, .pointer (some ⟨w.heap.size + 1 + 1, 0, none⟩), .int .i64 ((256 * i.val : Nat) : Int), .int .i64 ((bend n i.val : Nat) : Int), undef,
      .tuple #[.int .i64 m, .int .i64 0], .slice p n c, .int .i64 n, .tuple #[.int .i64 m, .int .i64 0], .int .i64 m, .int .i64 0, .int .i64 0, .bool false, .int .i64 m, .slice (some ⟨w.heap.size + 1, 0, none⟩) 0 m, .slice p n c, .int .i64 n,
      .func (.func 48) #[] #[.pointer (some ⟨w.heap.size + 1 + 1 + 1, 0, none⟩)], .int .i64 ((256 * i.val : Nat) : Int), .int .i64 ((bend n i.val : Nat) : Int), undef, undef, undef, undef, undef, undef, undef, undef, undef, undef, undef, undef, undef, undef, undef], defers := [] }) ?assign ?body ?done ?stop
  case hI =>
    rintro pre A B row ⟨v, h, h3⟩ hg hr
    exact ⟨v, h.grown hg (fun r e => by rw [hsz0] at hr; exact hr r e), h3⟩
  case assign =>
    intro l i W K hK
    unfold bEnc
    generalize 256 * i.val = q at *
    generalize bend n i.val = r at *
    refine wpIn_seq (round_list (fun _ _ h => h) (by kernel_rfl) ?_)
    go_wp2
    refine round_list (fun _ _ h => h) (by kernel_rfl) ?_
    go_wp2
    exact hK
  case body =>
    rintro l pre i W ⟨v, hM, hG⟩ hlt
    have HG := hid hG
    have HT := hid (preL_take n x)
    have HMM := hid hm
    have HCN := hid hcn
    have hi := i.isLt
    obtain ⟨q, hq⟩ : ∃ q, 256 * i.val = q := ⟨_, rfl⟩
    obtain ⟨r, hr⟩ : ∃ r, bend n i.val = r := ⟨_, rfl⟩
    have hqr : q ≤ r ∧ r ≤ n ∧ r - q ≤ 256 := by unfold bend at hr; omega
    have HM := hid hM
    have HQR := hid hqr
    have HE := hid (preL_snoc n x pre i)
    have HL := hid (preL_len n x pre)
    have HLT := hid hlt
    obtain ⟨y, hy⟩ : ∃ y : Nat → Nat, (fun j => x (q + j)) = y := ⟨_, rfl⟩
    have hblk : blkL n x i.val = (List.range 32).map (sha (r - q) y) ++ (List.range (r - q)).map y := by unfold blkL; rw [hq, hr, hy]
    have HBK := hid hblk
    obtain ⟨p2, hcut, hp2, hp3⟩ := run_cut p n c q r hqr.1 (by omega)
    have HS2 : Hid (∀ W', Below w.heap.size w W' → StrAt W' p2 (r - q) y) := fun W' hW' => hy ▸ (HX.out.below hW').cut hc hqr.2.1 hp2
    have HP2 : Hid (p2 = none → r - q = 0 ∧ c - q = 0) := fun h => by have := HP.out (hp3 h); omega
    have hbc := hM.bb.cell
    have HBX : Hid (∀ j, j < r - q → y j < 256) := fun j hj => hy ▸ HB.out (q + j) (by omega)
    rw [hq, hr]
    clear hy hM hqr hblk hp2 hp3 hG
    refine wpIn_block (wpIn_seq (round_list (fun _ _ h => h) (by kernel_rfl) ?_))
    go_wp2_with (first
      | (go_at_call 36; refine (sum_any _ _ _ y _ (by have := HQR.out; omega) (by have := HQR.out; omega) (HS2.out _ HM.out.below) HBX.out).mono ?_; rintro e w5 ⟨rfl, hbw⟩; have HB5 := hid hbw; clear hbw)
      | refine wpList_alloc_row rfl 61 rfl _ zero32 ?_
      | refine wpList_store_row rfl 61 _ _ rfl _ _ rfl rfl _ _ (CAt.new _ _ _) (size32 _) (by simp only [aB_size]) (aB_one _ _) ?_)
    have hb6 : Below W.heap.size W ((w5.alloc (.cells (aB 32 zB) 61)).setRow w5.heap.size (aB 32 (sha (r - q) y))) := below_setRow (HB5.out.alloc HB5.out.size _) HB5.out.size _
    have HD : Hid (CAt ((w5.alloc (.cells (aB 32 zB) 61)).setRow w5.heap.size (aB 32 (sha (r - q) y))) w5.heap.size (aB 32 (sha (r - q) y)) 61) := (CAt.new _ _ _).row _
    have HK : Hid (KeepsOthers W ((w5.alloc (.cells (aB 32 zB) 61)).setRow w5.heap.size (aB 32 (sha (r - q) y)))) := keeps_below hb6
    have HM6 := hid (HM.out.on hb6)
    have hg5 : W.heap.size ≤ w5.heap.size := HB5.out.size
    generalize ((w5.alloc (.cells (aB 32 zB) 61)).setRow w5.heap.size (aB 32 (sha (r - q) y))) = W6 at *
    generalize w5.heap.size = g5 at *
    generalize hD : sha (r - q) y = dg at *
    clear hb6 HB5 hbc w5
    have hfc := HM6.out.bf.cell
    simp only [Act.put, List.setIfInBounds_toArray, List.set_cons_zero, List.set_cons_succ]
    refine wpIn_seq (round_tail 2 (by kernel_rfl) (fun _ _ h => h) (by kernel_rfl) rfl (by kernel_rfl) ?_)
    dsimp only [List.take]
    repeat (go_big_quiet_step (fail))
    refine wpQuiet_nil ?_
    intro nr
    have HD := hid (HD.out.drewN nr)
    have HM6 := hid (HM6.out.drewN nr)
    have HK := hid (HK.out.trans (keeps_below (Below.drewN' (Below.refl _ _) nr)))
    clear hfc
    generalize W6.drewN nr = W7 at *
    have hL2 : (preL n x pre).length ≤ 80000 := by have := HL.out; have := HLT.out; omega
    obtain ⟨po, cc, W8, r8, b8, b9, f9, k9, o9, w9, fit⟩ := box_app HM6.out.bf HM6.out.buf (by have := HM6.out.sz; omega) (by omega) (some ⟨g5, 0, none⟩) 32 32 dg (.inr ⟨g5, 0, rfl, fun i hi => by rw [Nat.zero_add]; exact HD.out.cellB i hi⟩) (fun h => by cases h) (by omega)
    have HM9 : Hid (LayM w (W8.setCell ⟨w.heap.size + 1 + 1, 0, none⟩ (.slice po ((preL n x pre).length + 32) cc)) p n c (.slice po ((preL n x pre).length + 32) cc) (preL n x pre ++ (List.range 32).map dg)) :=
      ⟨o9 _ _ _ (by omega) (by decide) HM6.out.bb, b9, o9 _ _ _ (by omega) (by decide) HM6.out.bn, f9, HM6.out.below.trans (w9.mono (by omega)), Nat.le_trans HM6.out.sz k9.size⟩
    have HK := hid (HK.out.trans k9)
    have HR8 := hid r8
    have hc8 := b8.cell
    have hf8 := b8.frozen
    have HFIT := hid fit
    clear r8 b8 b9 f9 k9 o9 w9 HM6 HD fit
    go_wp2_with (refine wpList_append_eq rfl _ _ 22 rfl _ _ rfl rfl _ _ HR8.out ?_)
    clear hc8 hf8 HR8
    generalize (W8.setCell ⟨w.heap.size + 1 + 1, 0, none⟩ (.slice po ((preL n x pre).length + 32) cc)) = W9 at *
    have hfc := HM9.out.bf.cell
    have hbc := HM9.out.bb.cell
    refine round_tail 5 (by kernel_rfl) (fun _ _ h => h) (by kernel_rfl) rfl (by kernel_rfl) ?_
    dsimp only [List.take]
    repeat (go_big_quiet_step (fail))
    refine wpQuiet_nil ?_
    intro nr
    have HM9 := hid (HM9.out.drewN nr)
    have HK := hid (HK.out.trans (keeps_below (Below.drewN' (Below.refl _ _) nr)))
    clear hfc hbc
    generalize W9.drewN nr = W10 at *
    have hL3 : (preL n x pre ++ (List.range 32).map dg).length = (preL n x pre).length + 32 := by simp
    obtain ⟨po2, cc2, W11, r8, b8, b9, f9, k9, o9, w9, fit⟩ := box_app HM9.out.bf HM9.out.buf (by have := HM9.out.sz; omega) (by omega) p2 (r - q) (c - q) y (HS2.out _ HM9.out.below) HP2.out (by have := HQR.out; omega)
    have HM12 : Hid (LayM w (W11.setCell ⟨w.heap.size + 1 + 1, 0, none⟩ (.slice po2 ((preL n x pre ++ (List.range 32).map dg).length + (r - q)) cc2)) p n c (.slice po2 ((preL n x pre ++ (List.range 32).map dg).length + (r - q)) cc2) (preL n x pre ++ (List.range 32).map dg ++ (List.range (r - q)).map y)) :=
      ⟨o9 _ _ _ (by omega) (by decide) HM9.out.bb, b9, o9 _ _ _ (by omega) (by decide) HM9.out.bn, f9, HM9.out.below.trans (w9.mono (by omega)), Nat.le_trans HM9.out.sz k9.size⟩
    have HK := hid (HK.out.trans k9)
    have HR8 := hid r8
    have hc8 := b8.cell
    have hf8 := b8.frozen
    have HFIT2 := hid fit
    clear r8 b8 b9 f9 k9 o9 w9 HM9 fit
    generalize hkk : (preL n x pre ++ (List.range 32).map dg).length + (r - q) = kk at *
    have HKK := hid hkk
    have HL3 := hid hL3
    clear hkk hL3
    go_wp2_with (refine wpList_append_eq rfl _ _ 22 rfl _ _ rfl rfl _ _ HR8.out ?_)
    refine ⟨HK.out.from _, Eq.trans HM12.out.bn (Eq.symm HM.out.bn), .slice po2 kk cc2, ?_, ?_⟩
    · rw [HE.out, HBK.out, ← List.append_assoc]
      exact HM12.out
    · intro h
      obtain ⟨k, hk, hp1, hik⟩ := take_pre h
      have hv := HG.out ⟨k, by omega, hp1⟩
      have hlen := HT.out (k + 1) hk
      rw [take_snoc _ k hk, ← hp1, show (⟨k, hk⟩ : Fin (cnt n)) = i from Fin.ext hik.symm, HE.out, HBK.out] at hlen
      simp only [List.length_append, List.length_map, List.length_range] at hlen
      have hkk := HKK.out
      have hl3 := HL3.out
      have hc5 := HCN.out
      have f1 := HFIT.out _ _ _ hv (by omega)
      have f2 := HFIT2.out _ _ _ (by rw [f1.1]) (by rw [f1.2]; omega)
      rw [f2.1, f2.2, f1.2, HE.out, HBK.out]
      simp only [List.length_append, List.length_map, List.length_range]
      congr 1
      omega
  case done =>
    rintro D ys W hD rfl ⟨v, hM, hG⟩ hK
    have hv := hG ⟨cnt n, Nat.le_refl _, (List.take_of_length_le (by simp)).symm⟩
    rw [preL_all, ← fileL_len n x] at hv
    rw [preL_all] at hM
    have hc1 := hM.bf.cell
    have hbb := hM.buf
    rw [hv] at hbb
    have HV := hid hv
    clear hv
    refine hKx _ _ ?_
    go_wp2
    refine ⟨by simp, .inl ⟨_, _, rfl, run_takeDeferred hK, ?_⟩⟩
    have h7 : BufL (w.heap.size + 1) (W.putObj D (.deferred none)) (.slice (some ⟨w.heap.size + 1, 0, none⟩) (fileL n x).length (fileL n x).length) (fileL n x) := ownsRow_putObj hbb _ hK rfl
    refine ⟨_, results_tmp2 rfl _ _ _, w.heap.size + 1, ?_, Nat.le_refl _, h7.full, h7, ?_⟩
    · rw [← HV.out]; rfl
    · exact hM.below.trans (belowK_b (w := w) (Nat.le_refl _) W D _ _ (by omega) hK rfl rfl)
  case stop =>
    rintro D c pre W _ _ h _
    exact h.elim
theorem lay_ok (p : Option Addr) (n c : Nat) (x : Nat → Nat) (w : World) (hn : n ≤ 65536) (hc : n ≤ c) (hp : p = none → n = 0 ∧ c = 0) (hx : StrAt w p n x) (hb : ∀ i, i < n → x i < 256) :
    Calls Try.prog 10 #[.slice p n c] w (LaidAt w (fileL n x)) := by
  refine (lay_g p n c x w hn hc hp hx hb).mono ?_
  rintro e w' ⟨g, rfl, _, _, h4, h5⟩
  exact ⟨_, rfl, h4, h5⟩
theorem lay_bad (p : Option Addr) (n c : Nat) (w : World) (hn : 65536 < n) (hn2 : n ≤ 1000000) :
    Calls Try.prog 10 #[.slice p n c] w fun e w' => e = .returned (.tuple #[.slice none 0 0, .int .i64 3]) ∧ Below w.heap.size w w' := by
  have hsz : szV (n : Int) = 0 := by unfold szV; rw [if_neg (by omega)]
  have hse : szE (n : Int) = 5 := by unfold szE; rw [if_neg (by omega)]
  go_enter Try.func10, Try.ntmps10
  go_wp2_with (go_at_call 12; refine (size_any _ _).mono ?_; rintro e w5 ⟨rfl, rfl⟩; rw [hsz, hse])
  go_ret2
  exact ⟨rfl, (Below.refl _ _).alloc (by omega) _⟩
end Go.Proofs.Ytgmehiidnclgmaa
