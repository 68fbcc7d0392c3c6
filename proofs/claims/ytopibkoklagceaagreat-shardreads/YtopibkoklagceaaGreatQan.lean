/- Texts laid into one, cut to what is needed: the remark ahead of each part says what is proved there. -/
import Derived.Test.YtopibkoklagceaaGreatQam
import Derived.BigQuiet
import Derived.Test.YtopibkoklagceaaGreatQaj
import Derived.ChangeKeysEq
import Derived.Laws.StructEq
/- Contract of Lay of package block: the file of bytes. -/
namespace Go.Proofs.YtopibkoklagceaaGreat.H
open Go Go.RowKit

/-- All that is known while the file is laid. -/
structure LayM (w W : World) (p : Option Addr) (n c : Nat) (v : Value) (L : List Nat) : Prop where
 bb : Boxed W w.heap.size 22 (.slice p n c)
 bf : Boxed W (w.heap.size + 1 + 1) 22 v
 bn : Boxed W (w.heap.size + 1 + 1 + 1) 3 (.int .i64 (n : Int))
 buf : BufL (w.heap.size + 1) W v L
 below : Below w.heap.size w W
 sz : w.heap.size + 4 ≤ W.heap.size
theorem LayM.grown {w W W' : World} {p : Option Addr} {n c : Nat} {v : Value} {L : List Nat} {row : Option Nat} (h : LayM w W p n c v L) (hg : W.grownBy W' row)
  (hr : ∀ r, row = some r → w.heap.size + 4 ≤ r ∧ ∃ o : Obj, W.heap[r]? = some o ∧ o.isCells = false) : LayM w W' p n c v L where
 bb := h.bb.kept hg (fun e => by have := (hr _ e.symm).1; omega)
 bf := h.bf.kept hg (fun e => by have := (hr _ e.symm).1; omega)
 bn := h.bn.kept hg (fun e => by have := (hr _ e.symm).1; omega)
 buf := h.buf.kept hg (by
  cases ho : v.ownBlock with
  | none => exact .inl rfl
  | some g =>
   refine .inr fun e => ?_
   obtain ⟨_, o, h1, h2⟩ := hr g e.symm
   rw [h.buf.cells g o ho h1] at h2; cases h2)
 below := h.below.grown hg h.below.size (fun k e => by have := (hr k e).1; omega)
 sz := Nat.le_trans h.sz hg.size
theorem LayM.on {w W W' : World} {p : Option Addr} {n c : Nat} {v : Value} {L : List Nat} (h : LayM w W p n c v L) (hb : Below W.heap.size W W') : LayM w W' p n c v L where
 bb := (hb.block _ h.bb.lt).trans h.bb
 bf := (hb.block _ h.bf.lt).trans h.bf
 bn := (hb.block _ h.bn.lt).trans h.bn
 buf := h.buf.below hb
 below := h.below.trans (hb.mono h.below.size)
 sz := Nat.le_trans h.sz hb.size
theorem LayM.drewN {w W : World} {p : Option Addr} {n c : Nat} {v : Value} {L : List Nat} (h : LayM w W p n c v L) (k : Nat) : LayM w (W.drewN k) p n c v L := h.on (Below.drewN' (Below.refl _ _) k)
theorem keeps_below {W W' : World} (h : Below W.heap.size W W') : KeepsOthers W W' := ⟨h.size, fun k _ hk _ => (h.block k (Array.getElem?_eq_some_iff.1 hk).1).trans hk⟩
def LayI (w : World) (p : Option Addr) (n c : Nat) (x : Nat → Nat) (pre : List (Fin (cnt n))) (W : World) : Prop := ∃ v, LayM w W p n c v (preL n x pre) ∧
 ((∃ k, k ≤ cnt n ∧ pre = (List.finRange (cnt n)).take k) → v = .slice (some ⟨w.heap.size + 1, 0, none⟩) (preL n x pre).length (n + 32 * cnt n))
def LaidG (w : World) (L : List Nat) (e : Ending) (w' : World) : Prop := ∃ g, e = .returned (.tuple #[.slice (some ⟨g, 0, none⟩) L.length L.length, .int .i64 0]) ∧ w.heap.size + 1 ≤ g ∧ RowL w' g L ∧ BufL (w.heap.size + 1) w' (.slice (some ⟨g, 0, none⟩) L.length L.length) L ∧ Below w.heap.size w w'
def LaidAt (w : World) (L : List Nat) (e : Ending) (w' : World) : Prop := ∃ v, e = .returned (.tuple #[v, .int .i64 0]) ∧ BufL (w.heap.size + 1) w' v L ∧ Below w.heap.size w w'

set_option maxRecDepth 100000 in
set_option maxHeartbeats 1000000 in
theorem lay_g (p : Option Addr) (n c : Nat) (x : Nat → Nat) (w : World) (hn : n ≤ 65536) (hc : n ≤ c) (hp : p = none → n = 0 ∧ c = 0) (hx : StrAt w p n x) (hb : ∀ i, i < n → x i < 256) :
  Calls Tryz.prog 28 #[.slice p n c] w (LaidG w (fileL n x)) := by
 have HX := hid hx
 have HB := hid hb
 have HP := hid hp
 have hsz := szV_nat n hn
 have hse := szE_nat n hn
 have hcn : cnt n = (n + 255) / 256 := rfl
 obtain ⟨m, hm⟩ : ∃ m, n + 32 * cnt n = m := ⟨_, rfl⟩
 rw [hm] at hsz
 have hm2 : m ≤ 100000 := by omega
 have hmk := run_make_cap m hm2
 refine (callsIn_wide (n := 5)).1 ?_
 refine callsIn_of_wp_marks Tryz.func28 rfl trivial ?_ rfl
 refine wpIn_wide.2 ?_
 simp only [Tryz.ntmps28, List.size_toArray, List.length_cons, List.length_nil, Nat.reduceAdd, Nat.reduceSub, Array.replicate_succ, Array.replicate_zero, List.push_toArray, List.append_toArray, List.nil_append, List.cons_append]
 clear hx hb hp
 go_wp2_with (first
  | (go_at_call 49; refine (size_any _ _).mono ?_; rintro e w5 ⟨rfl, rfl⟩; rw [hsz, hse])
  | (go_at_call 50; refine (blocks_any _ _).mono ?_; rintro e w5 ⟨rfl, rfl⟩))
 rename_i Kx hKx
 have m0 : LayM w ((((w.alloc (.cells #[.slice p n c] 22)).alloc (.cells (madeCells #[.int .u8 0] m) 5)).alloc (.cells #[.slice (some ⟨w.heap.size + 1, 0, none⟩) 0 m] 22)).alloc (.cells #[.int .i64 (n : Int)] 3)) p n c (.slice (some ⟨w.heap.size + 1, 0, none⟩) 0 m) [] := by
  have b1 := Boxed.new w 22 (.slice p n c)
  have b2 := Boxed.new ((w.alloc (.cells #[.slice p n c] 22)).alloc (.cells (madeCells #[.int .u8 0] m) 5)) 22 (.slice (some ⟨w.heap.size + 1, 0, none⟩) 0 m)
  have f0 := BufL.made (w.alloc (.cells #[.slice p n c] 22)) (w.heap.size + 1) m (by simp) hm2
  simp only [World.size_alloc] at b2 f0
  have b3 := Boxed.new (((w.alloc (.cells #[.slice p n c] 22)).alloc (.cells (madeCells #[.int .u8 0] m) 5)).alloc (.cells #[.slice (some ⟨w.heap.size + 1, 0, none⟩) 0 m] 22)) 3 (.int .i64 (n : Int))
  simp only [World.size_alloc] at b3
  refine ⟨((b1.alloc _).alloc _).alloc _, b2.alloc _, b3, ?_, ((((Below.refl _ w).alloc (by simp) _).alloc (by simp) _).alloc (by simp; omega) _).alloc (by simp; omega) _, by simp⟩
  exact (f0.below ((Below.refl _ _).alloc (by simp) _)).below ((Below.refl _ _).alloc (by simp) _)
 have bn := Boxed.new (((w.alloc (.cells #[.slice p n c] 22)).alloc (.cells (madeCells #[.int .u8 0] m) 5)).alloc (.cells #[.slice (some ⟨w.heap.size + 1, 0, none⟩) 0 m] 22)) 3 (.int .i64 (n : Int))
 simp only [World.size_alloc] at bn
 have hsz0 : ((((w.alloc (.cells #[.slice p n c] 22)).alloc (.cells (madeCells #[.int .u8 0] m) 5)).alloc (.cells #[.slice (some ⟨w.heap.size + 1, 0, none⟩) 0 m] 22)).alloc (.cells #[.int .i64 (n : Int)] 3)).heap.size = w.heap.size + 4 := by simp
 generalize ((((w.alloc (.cells #[.slice p n c] 22)).alloc (.cells (madeCells #[.int .u8 0] m) 5)).alloc (.cells #[.slice (some ⟨w.heap.size + 1, 0, none⟩) 0 m] 22)).alloc (.cells #[.int .i64 (n : Int)] 3)) = W0 at m0 bn hsz0 ⊢
 refine (wpIn_wide (n := 5)).1 ?_
 refine wpIn_rangeFunc_ownG rfl (by omega) (gf := 72) (lb := #[.pointer (some ⟨w.heap.size + 1 + 1 + 1, 0, none⟩)]) rfl trivial (enters_of Tryz.func72 (by kernel_rfl) rfl)
  (blocks_stops 3 (w.heap.size + 1 + 1 + 1) n hn W0 bn) keepsAt_t (keepsAt_b (by omega)) (Below.refl _ _) (fun _ => rfl)
  (LayI w p n c x) (fun _ _ _ => False) ?hI (fun _ _ _ _ _ h _ _ => h) ⟨_, m0, fun _ => by rw [hm]; rfl⟩
  (fun i => { tmps := #[.slice p n c, .pointer (some ⟨w.heap.size, 0, none⟩), .slice none 0 0, .int .i64 0, .int .i64 m, .int .i64 0, .pointer (some ⟨w.heap.size + 1 + 1, 0, none⟩), .int .i64 ((256 * i.val : Nat) : Int), .int .i64 ((bend n i.val : Nat) : Int), undef,
   .tuple #[.int .i64 m, .int .i64 0], .slice p n c, .int .i64 n, .tuple #[.int .i64 m, .int .i64 0], .int .i64 m, .int .i64 0, .int .i64 0, .bool false, .int .i64 m, .slice (some ⟨w.heap.size + 1, 0, none⟩) 0 m, .slice p n c, .int .i64 n,
   .func (.func 72) #[] #[.pointer (some ⟨w.heap.size + 1 + 1 + 1, 0, none⟩)], .int .i64 ((256 * i.val : Nat) : Int), .int .i64 ((bend n i.val : Nat) : Int), undef, undef, undef, undef, undef, undef, undef, undef, undef, undef, undef, undef, undef, undef, undef], defers := [] }) ?assign ?body ?done ?stop
 case hI =>
  rintro pre A B row ⟨v, h, h3⟩ hg hr
  exact ⟨v, h.grown hg (fun r e => by rw [hsz0] at hr; exact hr r e), h3⟩
 case assign =>
  intro l i W K hK
  unfold bEnc
  generalize 256 * i.val = q at *
  generalize bend n i.val = r at *
  refine wpIn_seq (round_list (fun _ _ h => h) (by kernel_rfl) ?_)
  go_wp2
  refine round_list (fun _ _ h => h) (by kernel_rfl) ?_
  go_wp2
  exact hK
 case body =>
  rintro l pre i W ⟨v, hM, hG⟩ hlt
  have HG := hid hG
  have HT := hid (preL_take n x)
  have HMM := hid hm
  have HCN := hid hcn
  have hi := i.isLt
  obtain ⟨q, hq⟩ : ∃ q, 256 * i.val = q := ⟨_, rfl⟩
  obtain ⟨r, hr⟩ : ∃ r, bend n i.val = r := ⟨_, rfl⟩
  have hqr : q ≤ r ∧ r ≤ n ∧ r - q ≤ 256 := by unfold bend at hr; omega
  have HM := hid hM
  have HQR := hid hqr
  have HE := hid (preL_snoc n x pre i)
  have HL := hid (preL_len n x pre)
  have HLT := hid hlt
  obtain ⟨y, hy⟩ : ∃ y : Nat → Nat, (fun j => x (q + j)) = y := ⟨_, rfl⟩
  have hblk : blkL n x i.val = (List.range 32).map (sha (r - q) y) ++ (List.range (r - q)).map y := by unfold blkL; rw [hq, hr, hy]
  have HBK := hid hblk
  obtain ⟨p2, hcut, hp2, hp3⟩ := run_cut p n c q r hqr.1 (by omega)
  have HS2 : Hid (∀ W', Below w.heap.size w W' → StrAt W' p2 (r - q) y) := fun W' hW' => hy ▸ (HX.out.below hW').cut hc hqr.2.1 hp2
  have HP2 : Hid (p2 = none → r - q = 0 ∧ c - q = 0) := fun h => by have := HP.out (hp3 h); omega
  have hbc := hM.bb.cell
  have HBX : Hid (∀ j, j < r - q → y j < 256) := fun j hj => hy ▸ HB.out (q + j) (by omega)
  rw [hq, hr]
  clear hy hM hqr hblk hp2 hp3 hG
  refine wpIn_block (wpIn_seq (round_list (fun _ _ h => h) (by kernel_rfl) ?_))
  go_wp2_with (first
   | (go_at_call 51; refine (sum_any _ _ _ y _ (by have := HQR.out; omega) (by have := HQR.out; omega) (HS2.out _ HM.out.below) HBX.out).mono ?_; rintro e w5 ⟨rfl, hbw⟩; have HB5 := hid hbw; clear hbw)
   | refine wpList_alloc_row rfl 37 rfl _ zero32 ?_
   | refine wpList_store_row rfl 37 _ _ rfl _ _ rfl rfl _ _ (CAt.new _ _ _) (size32 _) (by simp only [aB_size]) (aB_one _ _) ?_)
  have hb6 : Below W.heap.size W ((w5.alloc (.cells (aB 32 zB) 37)).setRow w5.heap.size (aB 32 (sha (r - q) y))) := below_setRow (HB5.out.alloc HB5.out.size _) HB5.out.size _
  have HD : Hid (CAt ((w5.alloc (.cells (aB 32 zB) 37)).setRow w5.heap.size (aB 32 (sha (r - q) y))) w5.heap.size (aB 32 (sha (r - q) y)) 37) := (CAt.new _ _ _).row _
  have HK : Hid (KeepsOthers W ((w5.alloc (.cells (aB 32 zB) 37)).setRow w5.heap.size (aB 32 (sha (r - q) y)))) := keeps_below hb6
  have HM6 := hid (HM.out.on hb6)
  have hg5 : W.heap.size ≤ w5.heap.size := HB5.out.size
  generalize ((w5.alloc (.cells (aB 32 zB) 37)).setRow w5.heap.size (aB 32 (sha (r - q) y))) = W6 at *
  generalize w5.heap.size = g5 at *
  generalize hD : sha (r - q) y = dg at *
  clear hb6 HB5 hbc w5
  have hfc := HM6.out.bf.cell
  simp only [Act.put, List.setIfInBounds_toArray, List.set_cons_zero, List.set_cons_succ]
  refine wpIn_seq (round_tail 2 (by kernel_rfl) (fun _ _ h => h) (by kernel_rfl) rfl (by kernel_rfl) ?_)
  dsimp only [List.take]
  repeat (go_big_quiet_step (fail))
  refine wpQuiet_nil ?_
  intro nr
  have HD := hid (HD.out.drewN nr)
  have HM6 := hid (HM6.out.drewN nr)
  have HK := hid (HK.out.trans (keeps_below (Below.drewN' (Below.refl _ _) nr)))
  clear hfc
  generalize W6.drewN nr = W7 at *
  have hL2 : (preL n x pre).length ≤ 80000 := by have := HL.out; have := HLT.out; omega
  obtain ⟨po, cc, W8, r8, b8, b9, f9, k9, o9, w9, fit⟩ := box_app HM6.out.bf HM6.out.buf (by have := HM6.out.sz; omega) (by omega) (some ⟨g5, 0, none⟩) 32 32 dg (.inr ⟨g5, 0, rfl, fun i hi => by rw [Nat.zero_add]; exact HD.out.cellB i hi⟩) (fun h => by cases h) (by omega)
  have HM9 : Hid (LayM w (W8.setCell ⟨w.heap.size + 1 + 1, 0, none⟩ (.slice po ((preL n x pre).length + 32) cc)) p n c (.slice po ((preL n x pre).length + 32) cc) (preL n x pre ++ (List.range 32).map dg)) :=
   ⟨o9 _ _ _ (by omega) (by decide) HM6.out.bb, b9, o9 _ _ _ (by omega) (by decide) HM6.out.bn, f9, HM6.out.below.trans (w9.mono (by omega)), Nat.le_trans HM6.out.sz k9.size⟩
  have HK := hid (HK.out.trans k9)
  have HR8 := hid r8
  have hc8 := b8.cell
  have hf8 := b8.frozen
  have HFIT := hid fit
  clear r8 b8 b9 f9 k9 o9 w9 HM6 HD fit
  go_wp2_with (refine wpList_append_eq rfl _ _ 22 rfl _ _ rfl rfl _ _ HR8.out ?_)
  clear hc8 hf8 HR8
  generalize (W8.setCell ⟨w.heap.size + 1 + 1, 0, none⟩ (.slice po ((preL n x pre).length + 32) cc)) = W9 at *
  have hfc := HM9.out.bf.cell
  have hbc := HM9.out.bb.cell
  refine round_tail 5 (by kernel_rfl) (fun _ _ h => h) (by kernel_rfl) rfl (by kernel_rfl) ?_
  dsimp only [List.take]
  repeat (go_big_quiet_step (fail))
  refine wpQuiet_nil ?_
  intro nr
  have HM9 := hid (HM9.out.drewN nr)
  have HK := hid (HK.out.trans (keeps_below (Below.drewN' (Below.refl _ _) nr)))
  clear hfc hbc
  generalize W9.drewN nr = W10 at *
  have hL3 : (preL n x pre ++ (List.range 32).map dg).length = (preL n x pre).length + 32 := by simp
  obtain ⟨po2, cc2, W11, r8, b8, b9, f9, k9, o9, w9, fit⟩ := box_app HM9.out.bf HM9.out.buf (by have := HM9.out.sz; omega) (by omega) p2 (r - q) (c - q) y (HS2.out _ HM9.out.below) HP2.out (by have := HQR.out; omega)
  have HM12 : Hid (LayM w (W11.setCell ⟨w.heap.size + 1 + 1, 0, none⟩ (.slice po2 ((preL n x pre ++ (List.range 32).map dg).length + (r - q)) cc2)) p n c (.slice po2 ((preL n x pre ++ (List.range 32).map dg).length + (r - q)) cc2) (preL n x pre ++ (List.range 32).map dg ++ (List.range (r - q)).map y)) :=
   ⟨o9 _ _ _ (by omega) (by decide) HM9.out.bb, b9, o9 _ _ _ (by omega) (by decide) HM9.out.bn, f9, HM9.out.below.trans (w9.mono (by omega)), Nat.le_trans HM9.out.sz k9.size⟩
  have HK := hid (HK.out.trans k9)
  have HR8 := hid r8
  have hc8 := b8.cell
  have hf8 := b8.frozen
  have HFIT2 := hid fit
  clear r8 b8 b9 f9 k9 o9 w9 HM9 fit
  generalize hkk : (preL n x pre ++ (List.range 32).map dg).length + (r - q) = kk at *
  have HKK := hid hkk
  have HL3 := hid hL3
  clear hkk hL3
  go_wp2_with (refine wpList_append_eq rfl _ _ 22 rfl _ _ rfl rfl _ _ HR8.out ?_)
  refine ⟨HK.out.from _, Eq.trans HM12.out.bn (Eq.symm HM.out.bn), .slice po2 kk cc2, ?_, ?_⟩
  ·rw [HE.out, HBK.out, ← List.append_assoc]
   exact HM12.out
  ·intro h
   obtain ⟨k, hk, hp1, hik⟩ := take_pre h
   have hv := HG.out ⟨k, by omega, hp1⟩
   have hlen := HT.out (k + 1) hk
   rw [take_snoc _ k hk, ← hp1, show (⟨k, hk⟩ : Fin (cnt n)) = i from Fin.ext hik.symm, HE.out, HBK.out] at hlen
   simp only [List.length_append, List.length_map, List.length_range] at hlen
   have hkk := HKK.out
   have hl3 := HL3.out
   have hc5 := HCN.out
   have f1 := HFIT.out _ _ _ hv (by omega)
   have f2 := HFIT2.out _ _ _ (by rw [f1.1]) (by rw [f1.2]; omega)
   rw [f2.1, f2.2, f1.2, HE.out, HBK.out]
   simp only [List.length_append, List.length_map, List.length_range]
   congr 1
   omega
 case done =>
  rintro D ys W hD rfl ⟨v, hM, hG⟩ hK
  have hv := hG ⟨cnt n, Nat.le_refl _, (List.take_of_length_le (by simp)).symm⟩
  rw [preL_all, ← fileL_len n x] at hv
  rw [preL_all] at hM
  have hc1 := hM.bf.cell
  have hbb := hM.buf
  rw [hv] at hbb
  have HV := hid hv
  clear hv
  refine hKx _ _ ?_
  go_wp2
  refine ⟨by simp, .inl ⟨_, _, rfl, run_takeDeferred hK, ?_⟩⟩
  have h7 : BufL (w.heap.size + 1) (W.putObj D (.deferred none)) (.slice (some ⟨w.heap.size + 1, 0, none⟩) (fileL n x).length (fileL n x).length) (fileL n x) := ownsRow_putObj hbb _ hK rfl
  refine ⟨_, results_tmp2 rfl _ _ _, w.heap.size + 1, ?_, Nat.le_refl _, h7.full, h7, ?_⟩
  ·rw [← HV.out]; rfl
  ·exact hM.below.trans (belowK_b (w := w) (Nat.le_refl _) W D _ _ (by omega) hK rfl rfl)
 case stop =>
  rintro D c pre W _ _ h _
  exact h.elim
theorem lay_ok (p : Option Addr) (n c : Nat) (x : Nat → Nat) (w : World) (hn : n ≤ 65536) (hc : n ≤ c) (hp : p = none → n = 0 ∧ c = 0) (hx : StrAt w p n x) (hb : ∀ i, i < n → x i < 256) :
  Calls Tryz.prog 28 #[.slice p n c] w (LaidAt w (fileL n x)) := by
 refine (lay_g p n c x w hn hc hp hx hb).mono ?_
 rintro e w' ⟨g, rfl, _, _, h4, h5⟩
 exact ⟨_, rfl, h4, h5⟩
end Go.Proofs.YtopibkoklagceaaGreat.H

/- Contracts of blocks, may, Size and Lay of the document's own answer. -/
namespace Go.Proofs.YtopibkoklagceaaGreat.H
open Go Go.RowKit

theorem rblocks_any (n : Nat) (hn : n ≤ 1000000) (w : World) : Calls Tryz.prog 56 #[.int .i64 (n : Int)] w fun e w' => e = .returned (.int .i64 ((cnt n : Nat) : Int)) ∧ w' = w := by
 have e1 : IntKind.i64.wrap ((n : Int) + 256) = (n : Int) + 256 := IntWalk.i64_in _ ⟨by omega, by omega⟩
 have e2 : IntKind.i64.wrap ((n : Int) + 256 - 1) = (n : Int) + 255 := by rw [IntWalk.i64_in _ ⟨by omega, by omega⟩]; omega
 have e3 : IntKind.i64.wrap (((n : Int) + 255).tdiv 256) = ((cnt n : Nat) : Int) := by rw [IntWalk.i64_quo _ _ ⟨by omega, by omega, by omega⟩]; unfold cnt; omega
 go_enter Tryz.func56, Tryz.ntmps56
 go_wp2
 go_ret
 exact ⟨rfl, rfl⟩
def mayB (z : Int) : Bool := decide (0 ≤ z ∧ z ≤ 65536)
theorem rmay_any (z : Int) (w : World) : Calls Tryz.prog 90 #[.int .i64 z] w fun e w' => e = .returned (.bool (mayB z)) ∧ w' = w := by
 have hd : mayB z = decide (0 ≤ z ∧ z ≤ 65536) := rfl
 by_cases h : 0 ≤ z
 ·by_cases h2 : z ≤ 65536
  ·rw [decide_eq_true ⟨h, h2⟩] at hd
   go_enter Tryz.func90, Tryz.ntmps90
   go_wp2
   go_ret
   try rw [hd]
   exact ⟨rfl, rfl⟩
  ·rw [decide_eq_false (fun q => h2 q.2)] at hd
   go_enter Tryz.func90, Tryz.ntmps90
   go_wp2
   go_ret
   try rw [hd]
   exact ⟨rfl, rfl⟩
 ·rw [decide_eq_false (fun q => h q.1)] at hd
  go_enter Tryz.func90, Tryz.ntmps90
  go_wp2
  go_ret
  try rw [hd]
  exact ⟨rfl, rfl⟩
theorem rsize_any (z : Int) (w : World) : Calls Tryz.prog 91 #[.int .i64 z] w fun e w' => e = .returned (.tuple #[.int .i64 (szV z), .int .i64 (szE z)]) ∧ w' = w := by
 by_cases h : 0 ≤ z ∧ z ≤ 65536
 ·obtain ⟨n, rfl⟩ : ∃ n : Nat, z = n := ⟨z.toNat, by omega⟩
  have hn : n ≤ 65536 := by omega
  have hd : mayB (n : Int) = true := decide_eq_true h
  rw [szV_nat n hn, szE_nat n hn]
  have hcn : cnt n ≤ 256 := by unfold cnt; omega
  have HE := hid (rfl : cnt n = cnt n)
  obtain ⟨k, hk⟩ : ∃ k, cnt n = k := ⟨_, rfl⟩
  rw [hk] at hcn ⊢
  have e4 : IntKind.i64.wrap (32 * (k : Int)) = 32 * (k : Int) := IntWalk.i64_in _ ⟨by omega, by omega⟩
  have e5 : IntKind.i64.wrap ((n : Int) + 32 * (k : Int)) = ((n + 32 * k : Nat) : Int) := by rw [IntWalk.i64_in _ ⟨by omega, by omega⟩]; omega
  go_enter Tryz.func91, Tryz.ntmps91
  go_wp2_with (first
   | (go_at_call 90; refine (rmay_any _ _).mono ?_; rintro e w5 ⟨rfl, rfl⟩; rw [hd])
   | (go_at_call 56; refine (rblocks_any n (by omega) _).mono ?_; rintro e w5 ⟨rfl, rfl⟩; rw [hk]))
  go_ret2
  refine ⟨?_, rfl⟩
  simp
 ·have hd : mayB z = false := decide_eq_false h
  have hV : szV z = 0 := by unfold szV; rw [if_neg h]
  have hE : szE z = 5 := by unfold szE; rw [if_neg h]
  rw [hV, hE]
  go_enter Tryz.func91, Tryz.ntmps91
  go_wp2_with (go_at_call 90; refine (rmay_any _ _).mono ?_; rintro e w5 ⟨rfl, rfl⟩; rw [hd])
  go_ret2
  exact ⟨rfl, rfl⟩
structure RLayM (w W : World) (v : Value) (L : List Nat) : Prop where
 buf : BufL w.heap.size W v L
 below : Below w.heap.size w W
def RLaidAt (w : World) (L : List Nat) (e : Ending) (w' : World) : Prop := ∃ v, e = .returned (.tuple #[v, .int .i64 0]) ∧ BufL w.heap.size w' v L ∧ Below w.heap.size w w'
theorem flat_len (n : Nat) (x : Nat → Nat) : ∀ k, ((List.range k).flatMap (blkL n x)).length ≤ 288 * k
 | 0 => by simp
 | k + 1 => by
  have := flat_len n x k
  have h := blkL_le n x k
  rw [List.range_succ, List.flatMap_append, List.length_append]
  simp only [List.flatMap_cons, List.flatMap_nil, List.append_nil]
  omega
theorem flat_succ (n : Nat) (x : Nat → Nat) (k : Nat) : (List.range (k + 1)).flatMap (blkL n x) = (List.range k).flatMap (blkL n x) ++ blkL n x k := by
 rw [List.range_succ, List.flatMap_append]; simp
set_option maxRecDepth 100000 in
set_option maxHeartbeats 1000000 in
theorem rlay_ok (p : Option Addr) (n c : Nat) (x : Nat → Nat) (w : World) (hn : n ≤ 65536) (hc : n ≤ c) (hp : p = none → n = 0 ∧ c = 0) (hx : StrAt w p n x) (hb : ∀ i, i < n → x i < 256) :
  Calls Tryz.prog 30 #[.slice p n c] w (RLaidAt w (fileL n x)) := by
 have HX := hid hx
 have HB := hid hb
 have HP := hid hp
 have hcn : cnt n = (n + 255) / 256 := rfl
 have HCN := hid hcn
 obtain ⟨C, hC⟩ : ∃ C, cnt n = C := ⟨_, rfl⟩
 have hn' : (n : Int) ≤ 65536 := by omega
 rw [hC] at hcn
 have HCE := hid hcn
 have HC := hid hC
 clear hx hb hp hC
 go_enter Tryz.func30, Tryz.ntmps30
 go_wp2
 go_loopw [4, 5] (fun v y wr => ∃ k : Nat, k ≤ C ∧ y = .int .i64 (k : Int) ∧ RLayM w wr v ((List.range k).flatMap (blkL n x))) (fun _ y _ => (300 - intOf y).toNat)
 case atStart => exact ⟨0, by omega, rfl, BufL.nil _ _, Below.refl _ _⟩
 case round =>
  obtain ⟨k, hk, rfl, hM⟩ := hrel
  by_cases hlt : k < C
  ·obtain ⟨q, hq⟩ : ∃ q, 256 * k = q := ⟨_, rfl⟩
   obtain ⟨r, hr⟩ : ∃ r, bend n k = r := ⟨_, rfl⟩
   have hqr : q ≤ r ∧ r ≤ n ∧ r - q ≤ 256 := by unfold bend at hr; omega
   have hr2 : r = min (q + 256) n := by unfold bend at hr; omega
   obtain ⟨po, k0, cc, hv⟩ := hM.buf.form3
   have HM := hid hM
   have HQR := hid hqr
   clear hM
   obtain ⟨L, hL⟩ : ∃ L, (List.range k).flatMap (blkL n x) = L := ⟨_, rfl⟩
   rw [hL] at HM
   subst hv
   have HLE := hid hL
   clear hL
   obtain ⟨y, hy⟩ : ∃ y : Nat → Nat, (fun j => x (q + j)) = y := ⟨_, rfl⟩
   obtain ⟨dg, hdg⟩ : ∃ dg, sha (r - q) y = dg := ⟨_, rfl⟩
   have hblk : blkL n x k = (List.range 32).map dg ++ (List.range (r - q)).map y := by unfold blkL; rw [hq, hr, hy, hdg]
   have HDG := hid hdg
   clear hdg
   have HBK := hid hblk
   have HL := hid (flat_len n x k)
   have HFS := hid (flat_succ n x k)
   obtain ⟨p2, hcut, hp2, hp3⟩ := run_cut p n c q r hqr.1 (by omega)
   have HS2 : Hid (∀ W', Below w.heap.size w W' → StrAt W' p2 (r - q) y) := fun W' hW' => hy ▸ (HX.out.below hW').cut hc hqr.2.1 hp2
   have HP2 : Hid (p2 = none → r - q = 0 ∧ c - q = 0) := fun h => by have := HP.out (hp3 h); omega
   have HBX : Hid (∀ j, j < r - q → y j < 256) := fun j hj => hy ▸ HB.out (q + j) (by omega)
   have HSUM : Hid (∀ W', Below w.heap.size w W' → Calls Tryz.prog 42 #[.slice p2 (r - q) (c - q)] W' fun e w' => e = .returned (.agg (aB 32 dg)) ∧ Below W'.heap.size W' w') := fun W' hW' => by
    rw [← HDG.out]; exact rsum_any _ _ _ y _ (by omega) HP2.out (HS2.out _ hW') HBX.out
   have hlt' : (k : Int) < (C : Int) := by omega
   have e1 : IntKind.i64.wrap ((k : Int) * 256) = (q : Int) := by rw [IntWalk.i64_in _ ⟨by omega, by omega⟩]; omega
   have e2 : IntKind.i64.wrap ((k : Int) + 1) = (k : Int) + 1 := IntWalk.i64_in _ ⟨by omega, by omega⟩
   have e3 : IntKind.i64.wrap (((k : Int) + 1) * 256) = (q : Int) + 256 := by rw [IntWalk.i64_in _ ⟨by omega, by omega⟩]; omega
   have e4 : (if (n : Int) < (q : Int) + 256 then (n : Int) else (q : Int) + 256) = (r : Int) := by split <;> omega
   clear hy hqr hblk hp2 hp3 hr hr2
   go_upto_region 9 with (first
    | (go_at_call 56; refine (rblocks_any n (by omega) _).mono ?_; rintro e w5 ⟨rfl, hw⟩; have h2 := hw.symm; subst h2; rw [HC.out])
    | (go_at_call 42; refine (HSUM.out _ HM.out.below).mono ?_; rintro e w5 ⟨rfl, hbw⟩; have HB5 := hid hbw; clear hbw)
    | refine wpList_alloc_row rfl 37 rfl _ zero32 ?_
    | refine wpList_store_row rfl 37 _ _ rfl _ _ rfl rfl _ _ (CAt.new _ _ _) (size32 _) (by simp only [aB_size]) (aB_one _ _) ?_)
   have hb6 : Below wr.heap.size wr ((w5.alloc (.cells (aB 32 zB) 37)).setRow w5.heap.size (aB 32 dg)) := below_setRow (HB5.out.alloc HB5.out.size _) HB5.out.size _
   have hd : CAt ((w5.alloc (.cells (aB 32 zB) 37)).setRow w5.heap.size (aB 32 dg)) w5.heap.size (aB 32 dg) 37 := (CAt.new _ _ _).row _
   generalize ((w5.alloc (.cells (aB 32 zB) 37)).setRow w5.heap.size (aB 32 dg)) = W6 at *
   have hb7 := HM.out.below.trans (hb6.mono HM.out.below.size)
   have hL4 : L.length ≤ 80000 := by have := HL.out; rw [HLE.out] at this; omega
   obtain ⟨v7, W7, r7, f7, g7, _⟩ := (HM.out.buf.below hb6).app (some ⟨w5.heap.size, 0, none⟩) 32 32 dg (.inr ⟨_, 0, rfl, fun i hi => by rw [Nat.zero_add]; exact hd.cellB i hi⟩) (fun h => by cases h) (by omega) hb7.size
   have hb8 := hb7.grown g7 hb7.size (fun k' e => ((HM.out.buf.below hb6).ge k' e).1)
   obtain ⟨po7, k7, cc7, hv7⟩ := f7.form3
   obtain ⟨v8, W8, r8, f8, g8, _⟩ := f7.app p2 (r - q) (c - q) y (HS2.out _ hb8) HP2.out (by have := HQR.out; simp; omega) hb8.size
   have hb9 := hb8.grown g8 hb8.size (fun k' e => (f7.ge k' e).1)
   obtain ⟨po8, k8, cc8, hv8⟩ := f8.form3
   have HM9 := hid (RLayM.mk f8 hb9)
   subst hv7 hv8
   have HR7 := hid r7
   have HR8 := hid r8
   clear hb6 hd hb7 r7 f7 g7 hb8 r8 f8 g8 hb9
   go_wp2_with (first
    | refine wpList_append_eq rfl _ _ 22 rfl _ _ rfl rfl _ _ HR7.out ?_
    | refine wpList_append_eq rfl _ _ 22 rfl _ _ rfl rfl _ _ HR8.out ?_)
   go_roundw
   case rel => exact ⟨k + 1, by omega, by go_num, by rw [HFS.out, HBK.out, HLE.out, ← List.append_assoc]; exact HM9.out⟩
   case measure => simp [intOf]; omega
  ·have hlt' : ¬ (k : Int) < (C : Int) := by omega
   have hkC : k = C := by omega
   have HM := hid hM
   clear hM
   go_wp2_with (go_at_call 56; refine (rblocks_any n (by omega) _).mono ?_; rintro e w5 ⟨rfl, hw⟩; have h2 := hw.symm; subst h2; rw [HC.out])
   go_ret2
   exact ⟨_, rfl, by unfold fileL; rw [HC.out, ← hkC]; exact HM.out.buf, HM.out.below⟩
end Go.Proofs.YtopibkoklagceaaGreat.H

/- Digests held against one another. -/
namespace Go.Proofs.YtopibkoklagceaaGreat.H
open Go Go.RowKit
def eqD (n : Nat) (x y : Nat → Nat) : Bool := (List.range n).all fun i => decide (x i = y i)
theorem eqD_iff (n : Nat) (x y : Nat → Nat) : eqD n x y = true ↔ ∀ i, i < n → x i = y i := by unfold eqD; rw [List.all_eq_true]; simp
end Go.Proofs.YtopibkoklagceaaGreat.H

/- Contracts of SameBytes and bytes.Equal, of sound of package block, and of stands of the document's own answer. -/
namespace Go.Proofs.YtopibkoklagceaaGreat.H
open Go Go.RowKit

theorem strN_inj (n m : Nat) (x y : Nat → Nat) (hx : ∀ i, i < n → x i < 256) (hy : ∀ i, i < m → y i < 256) : strN n x = strN m y ↔ n = m ∧ ∀ i, i < n → x i = y i := by
 constructor
 ·intro h
  unfold strN strOfNums at h
  have h1 := congrArg (fun s : ByteArray => s.data.toList) h
  simp only [List.map_map] at h1
  have hl := congrArg List.length h1
  simp at hl
  refine ⟨hl, fun i hi => ?_⟩
  have h2 := congrArg (fun l : List UInt8 => l[i]?) h1
  simp [hi, show i < m by omega] at h2
  have h3 := congrArg UInt8.toNat h2
  have := hx i hi
  have := hy i (by omega)
  simp at h3
  omega
 ·rintro ⟨rfl, h⟩
  unfold strN; congr 1; apply List.map_congr_left; intro i hi; rw [h i (List.mem_range.1 hi)]
def sameB (n : Nat) (x : Nat → Nat) (m : Nat) (y : Nat → Nat) : Bool := decide (n = m) && eqD n x y
theorem sameB_iff (n : Nat) (x : Nat → Nat) (m : Nat) (y : Nat → Nat) : sameB n x m y = true ↔ n = m ∧ ∀ i, i < n → x i = y i := by
 unfold sameB; rw [Bool.and_eq_true, decide_eq_true_eq, eqD_iff]
theorem str_eq (n m : Nat) (x y : Nat → Nat) (hx : ∀ i, i < n → x i < 256) (hy : ∀ i, i < m → y i < 256) : ((strN n x).toList == (strN m y).toList) = sameB n x m y := by
 rw [Bool.eq_iff_iff, beq_iff_eq, sameB_iff, ← strN_inj n m x y hx hy, Go.ByteArray.toList_eq, Go.ByteArray.toList_eq]
 exact ⟨Go.WideShapes.bytes_inj, fun h => by rw [h]⟩
set_option maxHeartbeats 400000 in
theorem same_any (p q : Option Addr) (n m c d : Nat) (x y : Nat → Nat) (w : World) (hp : StrAt w p n x) (hq : StrAt w q m y) (hx : ∀ i, i < n → x i < 256) (hy : ∀ i, i < m → y i < 256) :
  Calls Tryz.prog 23 #[.slice p n c, .slice q m d] w fun e w' => e = .returned (.bool (sameB n x m y)) ∧ w' = w := by
 have h1 := conv_str w p n c x hp
 have h2 := conv_str w q m d y hq
 have h3 := str_eq n m x y hx hy
 go_enter Tryz.func23, Tryz.ntmps23
 go_wp2
 go_ret
 exact ⟨by first | rfl | (rw [← h3]; rfl), rfl⟩
set_option maxHeartbeats 400000 in
theorem equal_any (p q : Option Addr) (n m c d : Nat) (x y : Nat → Nat) (w : World) (hp : StrAt w p n x) (hq : StrAt w q m y) (hx : ∀ i, i < n → x i < 256) (hy : ∀ i, i < m → y i < 256) :
  Calls Tryz.prog 68 #[.slice p n c, .slice q m d] w fun e w' => e = .returned (.bool (sameB n x m y)) ∧ w' = w := by
 have h1 := conv_str w p n c x hp
 have h2 := conv_str w q m d y hq
 have h3 := str_eq n m x y hx hy
 go_enter Tryz.func68, Tryz.ntmps68
 go_wp2
 go_ret
 exact ⟨by first | rfl | (rw [← h3]; rfl), rfl⟩
/-- Where the bytes of a block end in a file of m bytes. -/
def sEnd (m n i : Nat) : Nat := if bend n i = n then m else 288 * i + 32 + (bend n i - 256 * i)
/-- Is the block sound? -/
def snd (y : Nat → Nat) (m n i : Nat) : Bool := decide (288 * i + 32 + (bend n i - 256 * i) ≤ m) && eqD 32 (sha (sEnd m n i - (288 * i + 32)) (fun j => y (288 * i + 32 + j))) (fun j => y (288 * i + j))
theorem eq32 (x y : Nat → Nat) : sameB 32 x 32 y = eqD 32 x y := by unfold sameB; simp
theorem snd_false {y : Nat → Nat} {m n i : Nat} (h : ¬ 288 * i + 32 + (bend n i - 256 * i) ≤ m) : snd y m n i = false := by unfold snd; simp [h]
theorem snd_eq {y : Nat → Nat} {m n i : Nat} (h : 288 * i + 32 + (bend n i - 256 * i) ≤ m) : snd y m n i = eqD 32 (sha (sEnd m n i - (288 * i + 32)) (fun j => y (288 * i + 32 + j))) (fun j => y (288 * i + j)) := by unfold snd; simp [h]
set_option maxRecDepth 100000 in
set_option maxHeartbeats 1000000 in
theorem sound_any (p : Option Addr) (m c : Nat) (y : Nat → Nat) (n i : Nat) (w : World) (hn : n ≤ 65536) (hi : i < cnt n) (hm : m ≤ 100000) (hc : m ≤ c) (hy : StrAt w p m y) (hb : ∀ j, j < m → y j < 256) :
  Calls Tryz.prog 130 #[.slice p m c, .int .i64 (n : Int), .int .i64 ((256 * i : Nat) : Int), .int .i64 ((bend n i : Nat) : Int)] w fun e w' => e = .returned (.bool (snd y m n i)) ∧ Below w.heap.size w w' := by
 have hcn : cnt n = (n + 255) / 256 := rfl
 have HN := hid hcn
 have HY := hid hy
 have HB := hid hb
 have hF := @snd_false y m n i
 have hT := @snd_eq y m n i
 have hE : sEnd m n i = if bend n i = n then m else 288 * i + 32 + (bend n i - 256 * i) := rfl
 have hbd : bend n i = min (256 * i + 256) n := rfl
 obtain ⟨s, hs⟩ : ∃ s, snd y m n i = s := ⟨_, rfl⟩
 obtain ⟨E, hEe⟩ : ∃ E, sEnd m n i = E := ⟨_, rfl⟩
 obtain ⟨r, hr⟩ : ∃ r, bend n i = r := ⟨_, rfl⟩
 obtain ⟨q, hq⟩ : ∃ q, 256 * i = q := ⟨_, rfl⟩
 obtain ⟨b, hbb⟩ : ∃ b, 288 * i + 32 = b := ⟨_, rfl⟩
 rw [hs, hr, hq, hbb] at hF
 rw [hs, hr, hq, hbb, hEe] at hT
 rw [hr, hq] at hbd
 rw [hEe, hr, hq, hbb] at hE
 rw [hs, hr, hq]
 have hqr : q < r ∧ r ≤ n ∧ r - q ≤ 256 := by omega
 have hpl : q + 32 * i + 32 = b := by omega
 have hqi : q / 256 = i := by omega
 have e1 : IntKind.i64.wrap ((b : Int) + (r : Int)) = (b : Int) + (r : Int) := IntWalk.i64_in _ ⟨by omega, by omega⟩
 obtain ⟨d, hd⟩ : ∃ d, b + (r - q) = d := ⟨_, rfl⟩
 have e2 : IntKind.i64.wrap ((b : Int) + (r : Int) - (q : Int)) = (d : Int) := by rw [IntWalk.i64_in _ ⟨by omega, by omega⟩]; omega
 have e3 : IntKind.i64.wrap ((b : Int) - 32) = ((288 * i : Nat) : Int) := by rw [IntWalk.i64_in _ ⟨by omega, by omega⟩]; omega
 rw [hd] at hF hT hE
 by_cases h1 : d ≤ m
 ·have h1' : ¬ (m : Int) < (d : Int) := by omega
  have hT := hT h1
  obtain ⟨o, ho⟩ : ∃ o, 288 * i = o := ⟨_, rfl⟩
  rw [ho] at e3 hT
  have hEm : b ≤ E ∧ E ≤ m := by split at hE <;> omega
  obtain ⟨p2, hcut, hp2, _⟩ := run_cut p m c b E hEm.1 (by omega)
  obtain ⟨p3, hcut3, hp3, _⟩ := run_cut p m c o b (by omega) (by omega)
  have h32 : b - o = 32 := by omega
  rw [h32] at hcut3
  have HS2 : Hid (StrAt w p2 (E - b) (fun j => y (b + j))) := hy.cut hc hEm.2 hp2
  have HS3 : Hid (∀ W', Below w.heap.size w W' → StrAt W' p3 32 (fun j => y (o + j))) := fun W' hW' => by
   have := (hy.below hW').cut (h := b) hc (by omega) hp3
   rwa [h32] at this
  obtain ⟨dg, hdg⟩ : ∃ dg, sha (E - b) (fun j => y (b + j)) = dg := ⟨_, rfl⟩
  rw [hdg] at hT
  have HSUM : Hid (Calls Tryz.prog 51 #[.slice p2 (E - b) (c - b)] w fun e w' => e = .returned (.agg (aB 32 dg)) ∧ Below w.heap.size w w') := by
   show Calls _ _ _ _ _
   rw [← hdg]; exact sum_any _ _ _ _ _ (by omega) (by omega) HS2.out (fun j hj => hb _ (by omega))
  have HDL : Hid (∀ j, j < 32 → dg j < 256) := fun j _ => by rw [← hdg]; exact sha_lt _ _ _
  have HYL : Hid (∀ j, j < 32 → y (o + j) < 256) := fun j hj => hb _ (by omega)
  have HT := hid hT
  have HBo : Hid (b = o + 32) := by show b = o + 32; omega
  clear hdg hF hT hy hb hp2 hp3 HS2 hEm hbd h32
  by_cases h2 : r = n
  ·rw [if_pos h2] at hE
   subst hE
   have h2' : (r : Int) = (n : Int) := by omega
   go_enter Tryz.func130, Tryz.ntmps130
   go_upto_region 8 with (first
    | (go_at_call 131; refine (place_any q i (by omega) hqi _).mono ?_; rintro e w5 ⟨rfl, hw⟩; have h3 := hw.symm; subst h3; rw [hpl])
    | (go_at_call 51; refine HSUM.out.mono ?_; rintro e w5 ⟨rfl, hbw⟩; have HB5 := hid hbw; clear hbw)
    | refine wpList_alloc_row rfl 37 rfl _ zero32 ?_
    | refine wpList_store_row rfl 37 _ _ rfl _ _ rfl rfl _ _ (CAt.new _ _ _) (size32 _) (by simp only [aB_size]) (aB_one _ _) ?_)
   have hb6 : Below w.heap.size w ((w5.alloc (.cells (aB 32 zB) 37)).setRow w5.heap.size (aB 32 dg)) := below_setRow (HB5.out.alloc HB5.out.size _) HB5.out.size _
   have hd : CAt ((w5.alloc (.cells (aB 32 zB) 37)).setRow w5.heap.size (aB 32 dg)) w5.heap.size (aB 32 dg) 37 := (CAt.new _ _ _).row _
   generalize ((w5.alloc (.cells (aB 32 zB) 37)).setRow w5.heap.size (aB 32 dg)) = W6 at *
   generalize w5.heap.size = g5 at *
   have HA : Hid (∀ k, StrAt (W6.drewN k) (some ⟨g5, 0, none⟩) 32 dg) := fun k => .inr ⟨_, 0, rfl, fun i hi => by rw [Nat.zero_add]; exact (hd.drewN k).cellB i hi⟩
   have HC : Hid (∀ k, StrAt (W6.drewN k) p3 32 (fun j => y (o + j))) := fun k => HS3.out _ (Below.drewN' hb6 k)
   have HB6 := hid hb6
   clear hb6 hd
   have hob : (o : Int) ≤ (b : Int) := by have := HBo.out; omega
   go_quiet ((go_at_call 68; refine Calls.quiet_of_same (equal_any _ _ _ _ _ _ dg (fun j => y (o + j)) _ (HA.out _) (HC.out _) HDL.out HYL.out)))
   go_wp2
   go_ret
   exact ⟨by rw [HT.out, ← eq32]; rfl, Below.drewN' HB6.out _⟩
  ·rw [if_neg h2] at hE
   subst hE
   have h2' : ¬ (r : Int) = (n : Int) := by omega
   go_enter Tryz.func130, Tryz.ntmps130
   go_upto_region 8 with (first
    | (go_at_call 131; refine (place_any q i (by omega) hqi _).mono ?_; rintro e w5 ⟨rfl, hw⟩; have h3 := hw.symm; subst h3; rw [hpl])
    | (go_at_call 51; refine HSUM.out.mono ?_; rintro e w5 ⟨rfl, hbw⟩; have HB5 := hid hbw; clear hbw)
    | refine wpList_alloc_row rfl 37 rfl _ zero32 ?_
    | refine wpList_store_row rfl 37 _ _ rfl _ _ rfl rfl _ _ (CAt.new _ _ _) (size32 _) (by simp only [aB_size]) (aB_one _ _) ?_)
   have hb6 : Below w.heap.size w ((w5.alloc (.cells (aB 32 zB) 37)).setRow w5.heap.size (aB 32 dg)) := below_setRow (HB5.out.alloc HB5.out.size _) HB5.out.size _
   have hd : CAt ((w5.alloc (.cells (aB 32 zB) 37)).setRow w5.heap.size (aB 32 dg)) w5.heap.size (aB 32 dg) 37 := (CAt.new _ _ _).row _
   generalize ((w5.alloc (.cells (aB 32 zB) 37)).setRow w5.heap.size (aB 32 dg)) = W6 at *
   generalize w5.heap.size = g5 at *
   have HA : Hid (∀ k, StrAt (W6.drewN k) (some ⟨g5, 0, none⟩) 32 dg) := fun k => .inr ⟨_, 0, rfl, fun i hi => by rw [Nat.zero_add]; exact (hd.drewN k).cellB i hi⟩
   have HC : Hid (∀ k, StrAt (W6.drewN k) p3 32 (fun j => y (o + j))) := fun k => HS3.out _ (Below.drewN' hb6 k)
   have HB6 := hid hb6
   clear hb6 hd
   have hob : (o : Int) ≤ (b : Int) := by have := HBo.out; omega
   go_quiet ((go_at_call 68; refine Calls.quiet_of_same (equal_any _ _ _ _ _ _ dg (fun j => y (o + j)) _ (HA.out _) (HC.out _) HDL.out HYL.out)))
   go_wp2
   go_ret
   exact ⟨by rw [HT.out, ← eq32]; rfl, Below.drewN' HB6.out _⟩
 ·have h1' : (m : Int) < (d : Int) := by omega
  have hF := hF h1
  go_enter Tryz.func130, Tryz.ntmps130
  go_wp2_with (go_at_call 131; refine (place_any q i (by omega) hqi _).mono ?_; rintro e w5 ⟨rfl, hw⟩; have h3 := hw.symm; subst h3; rw [hpl])
  go_ret
  exact ⟨by rw [hF]; rfl, Below.refl _ _⟩
end Go.Proofs.YtopibkoklagceaaGreat.H

/- Contract of stands of the document's own answer: what stands of a block in a file, and whether it is sound. -/
namespace Go.Proofs.YtopibkoklagceaaGreat.H
open Go Go.RowKit

def StandAt (w : World) (y : Nat → Nat) (m n i : Nat) (e : Ending) (w' : World) : Prop := ∃ p2 k c2, e = .returned (.tuple #[.slice p2 k c2, .bool (snd y m n i)]) ∧ Below w.heap.size w w' ∧
 (288 * i + 32 + (bend n i - 256 * i) ≤ m → k = sEnd m n i - (288 * i + 32) ∧ (∀ W', Below w.heap.size w W' → StrAt W' p2 k (fun j => y (288 * i + 32 + j))) ∧ k ≤ c2 ∧ (p2 = none → k = 0 ∧ c2 = 0))
set_option maxRecDepth 100000 in
set_option maxHeartbeats 2000000 in
theorem rstands_any (p : Option Addr) (m c : Nat) (y : Nat → Nat) (n i : Nat) (w : World) (hn : n ≤ 65536) (hi : i < cnt n) (hm : m ≤ 100000) (hc : m ≤ c) (hp : p = none → m = 0 ∧ c = 0) (hy : StrAt w p m y) (hb : ∀ j, j < m → y j < 256) :
  Calls Tryz.prog 92 #[.slice p m c, .int .i64 (n : Int), .int .i64 (i : Int)] w (StandAt w y m n i) := by
 have hcn : cnt n = (n + 255) / 256 := rfl
 have hF := @snd_false y m n i
 have hT := @snd_eq y m n i
 have hE : sEnd m n i = if bend n i = n then m else 288 * i + 32 + (bend n i - 256 * i) := rfl
 have hbd : bend n i = min (256 * i + 256) n := rfl
 have hg : ∀ (p2 : Option Addr) (k c2 : Nat) (w' : World), Below w.heap.size w w' →
  (288 * i + 32 + (bend n i - 256 * i) ≤ m → k = sEnd m n i - (288 * i + 32) ∧ (∀ W', Below w.heap.size w W' → StrAt W' p2 k (fun j => y (288 * i + 32 + j))) ∧ k ≤ c2 ∧ (p2 = none → k = 0 ∧ c2 = 0)) →
  StandAt w y m n i (.returned (.tuple #[.slice p2 k c2, .bool (snd y m n i)])) w' := fun p2 k c2 w' h1 h2 => ⟨p2, k, c2, rfl, h1, h2⟩
 obtain ⟨s, hs⟩ : ∃ s, snd y m n i = s := ⟨_, rfl⟩
 obtain ⟨E, hEe⟩ : ∃ E, sEnd m n i = E := ⟨_, rfl⟩
 obtain ⟨r, hr⟩ : ∃ r, bend n i = r := ⟨_, rfl⟩
 obtain ⟨q, hq⟩ : ∃ q, 256 * i = q := ⟨_, rfl⟩
 obtain ⟨b, hbb⟩ : ∃ b, 288 * i + 32 = b := ⟨_, rfl⟩
 obtain ⟨o, ho⟩ : ∃ o, 288 * i = o := ⟨_, rfl⟩
 obtain ⟨C, hC⟩ : ∃ C, cnt n = C := ⟨_, rfl⟩
 rw [hs, hr, hq, hbb] at hF
 rw [hs, hr, hq, hbb, hEe, ho] at hT
 rw [hr, hq] at hbd
 rw [hEe, hr, hq, hbb] at hE
 rw [hs, hr, hq, hbb, hEe] at hg
 rw [hC] at hcn
 have hqr : q < r ∧ r ≤ n ∧ r - q ≤ 256 := by omega
 obtain ⟨d, hd⟩ : ∃ d, b + (r - q) = d := ⟨_, rfl⟩
 obtain ⟨t, ht⟩ : ∃ t, n - q = t := ⟨_, rfl⟩
 obtain ⟨u, hu⟩ : ∃ u, r - q = u := ⟨_, rfl⟩
 obtain ⟨z, hz⟩ : ∃ z, C - 1 = z := ⟨_, rfl⟩
 have e1 : IntKind.i64.wrap ((i : Int) * 288) = (o : Int) := by rw [IntWalk.i64_in _ ⟨by omega, by omega⟩]; omega
 have e2 : IntKind.i64.wrap ((o : Int) + 32) = (b : Int) := by rw [IntWalk.i64_in _ ⟨by omega, by omega⟩]; omega
 have e3 : IntKind.i64.wrap ((i : Int) * 256) = (q : Int) := by rw [IntWalk.i64_in _ ⟨by omega, by omega⟩]; omega
 have e4 : IntKind.i64.wrap ((n : Int) - (q : Int)) = (t : Int) := by rw [IntWalk.i64_in _ ⟨by omega, by omega⟩]; omega
 have e5 : (if (t : Int) < 256 then (t : Int) else 256) = (u : Int) := by split <;> omega
 have e6 : IntKind.i64.wrap ((b : Int) + (u : Int)) = (d : Int) := by rw [IntWalk.i64_in _ ⟨by omega, by omega⟩]; omega
 have e7 : IntKind.i64.wrap ((C : Int) - 1) = (z : Int) := by rw [IntWalk.i64_in _ ⟨by omega, by omega⟩]; omega
 rw [hd] at hF hT hE hg
 have HC := hid hC
 have HCN := hid hcn
 by_cases h1 : d ≤ m
 ·have h1' : ¬ (m : Int) < (d : Int) := by omega
  have hT := hT h1
  have hEm : b ≤ E ∧ E ≤ m := by split at hE <;> omega
  obtain ⟨p2, hcut, hp2, hp4⟩ := run_cut p m c b E hEm.1 (by omega)
  obtain ⟨p3, hcut3, hp3, _⟩ := run_cut p m c o b (by omega) (by omega)
  have h32 : b - o = 32 := by omega
  rw [h32] at hcut3
  have HS2 : Hid (∀ W', Below w.heap.size w W' → StrAt W' p2 (E - b) (fun j => y (b + j))) := fun W' hW' => (hy.below hW').cut hc hEm.2 hp2
  have HS3 : Hid (∀ W', Below w.heap.size w W' → StrAt W' p3 32 (fun j => y (o + j))) := fun W' hW' => by
   have := (hy.below hW').cut (h := b) hc (by omega) hp3
   rwa [h32] at this
  have HP2 : Hid (p2 = none → E - b = 0 ∧ c - b = 0) := fun h => by have := hp (hp4 h); omega
  obtain ⟨dg, hdg⟩ : ∃ dg, sha (E - b) (fun j => y (b + j)) = dg := ⟨_, rfl⟩
  rw [hdg] at hT
  have HSUM : Hid (Calls Tryz.prog 42 #[.slice p2 (E - b) (c - b)] w fun e w' => e = .returned (.agg (aB 32 dg)) ∧ Below w.heap.size w w') := by
   show Calls _ _ _ _ _
   rw [← hdg]; exact rsum_any _ _ _ _ _ (by omega) HP2.out (HS2.out _ (Below.refl _ _)) (fun j hj => hb _ (by omega))
  have HSE : Hid (((strN 32 dg).toList == (strN 32 (fun j => y (o + j))).toList) = s) := by
   show _ = _
   rw [str_eq 32 32 dg _ (fun j _ => by rw [← hdg]; exact sha_lt _ _ _) (fun j hj => hb _ (by omega)), eq32, hT]
  have HG : Hid (∀ w', Below w.heap.size w w' → StandAt w y m n i (.returned (.tuple #[.slice p2 (E - b) (c - b), .bool s])) w') := fun w' hw' => hg p2 (E - b) (c - b) w' hw' (fun _ => ⟨rfl, HS2.out, by omega, HP2.out⟩)
  have HBo : Hid (b = o + 32) := by show b = o + 32; omega
  have HEM := hid hEm
  clear hdg hF hT hy hb hp2 hp3 hEm hbd h32 hg hp hp4 hs hEe
  by_cases h2 : r = n
  ·rw [if_pos h2] at hE
   subst hE
   obtain rfl : z = i := by omega
   clear hcn hC hi
   clear hz ht hu hqr hd hq hbb ho h2 hr
   go_enter Tryz.func92, Tryz.ntmps92
   go_upto_region 9 with (first
    | (go_at_call 56; refine (rblocks_any n (by omega) _).mono ?_; rintro e w5 ⟨rfl, hw⟩; have h3 := hw.symm; subst h3; rw [HC.out])
    | (go_at_call 42; refine HSUM.out.mono ?_; rintro e w5 ⟨rfl, hbw⟩; have HB5 := hid hbw; clear hbw)
    | refine wpList_alloc_row rfl 37 rfl _ zero32 ?_
    | refine wpList_store_row rfl 37 _ _ rfl _ _ rfl rfl _ _ (CAt.new _ _ _) (size32 _) (by simp only [aB_size]) (aB_one _ _) ?_)
   have hb6 : Below w.heap.size w ((w5.alloc (.cells (aB 32 zB) 37)).setRow w5.heap.size (aB 32 dg)) := below_setRow (HB5.out.alloc HB5.out.size _) HB5.out.size _
   have hd : CAt ((w5.alloc (.cells (aB 32 zB) 37)).setRow w5.heap.size (aB 32 dg)) w5.heap.size (aB 32 dg) 37 := (CAt.new _ _ _).row _
   generalize ((w5.alloc (.cells (aB 32 zB) 37)).setRow w5.heap.size (aB 32 dg)) = W6 at *
   generalize w5.heap.size = g5 at *
   have c1 : ∀ k, (convert 22 9 (.slice (some ⟨g5, 0, none⟩) 32 32)).run Tryz.prog (W6.drewN k) = .ok (.string (strN 32 dg)) (W6.drewN k) := fun k => conv_str _ _ _ _ _ (.inr ⟨_, 0, rfl, fun i hi => by rw [Nat.zero_add]; exact (hd.drewN k).cellB i hi⟩)
   have c2 : ∀ k, (convert 22 9 (.slice p3 32 (c - o))).run Tryz.prog (W6.drewN k) = .ok (.string (strN 32 (fun j => y (o + j)))) (W6.drewN k) := fun k => conv_str _ _ _ _ _ (HS3.out _ (Below.drewN' hb6 k))
   have HB6 := hid hb6
   clear hb6 hd
   have hob : (o : Int) ≤ (b : Int) := by have := HBo.out; omega
   generalize strN 32 dg = S1 at *
   generalize strN 32 (fun j => y (o + j)) = S2 at *
   go_quiet (fail)
   go_wp2
   go_ret2
   have h9 := HG.out
   rw [← HSE.out] at h9
   exact h9 _ (Below.drewN' HB6.out _)
  ·rw [if_neg h2] at hE
   subst hE
   have h2' : ¬ (i : Int) = (z : Int) := by omega
   clear hcn hC hi hz ht hu hqr hd hq hbb ho h2 hr
   go_enter Tryz.func92, Tryz.ntmps92
   go_upto_region 9 with (first
    | (go_at_call 56; refine (rblocks_any n (by omega) _).mono ?_; rintro e w5 ⟨rfl, hw⟩; have h3 := hw.symm; subst h3; rw [HC.out])
    | (go_at_call 42; refine HSUM.out.mono ?_; rintro e w5 ⟨rfl, hbw⟩; have HB5 := hid hbw; clear hbw)
    | refine wpList_alloc_row rfl 37 rfl _ zero32 ?_
    | refine wpList_store_row rfl 37 _ _ rfl _ _ rfl rfl _ _ (CAt.new _ _ _) (size32 _) (by simp only [aB_size]) (aB_one _ _) ?_)
   have hb6 : Below w.heap.size w ((w5.alloc (.cells (aB 32 zB) 37)).setRow w5.heap.size (aB 32 dg)) := below_setRow (HB5.out.alloc HB5.out.size _) HB5.out.size _
   have hd : CAt ((w5.alloc (.cells (aB 32 zB) 37)).setRow w5.heap.size (aB 32 dg)) w5.heap.size (aB 32 dg) 37 := (CAt.new _ _ _).row _
   generalize ((w5.alloc (.cells (aB 32 zB) 37)).setRow w5.heap.size (aB 32 dg)) = W6 at *
   generalize w5.heap.size = g5 at *
   have c1 : ∀ k, (convert 22 9 (.slice (some ⟨g5, 0, none⟩) 32 32)).run Tryz.prog (W6.drewN k) = .ok (.string (strN 32 dg)) (W6.drewN k) := fun k => conv_str _ _ _ _ _ (.inr ⟨_, 0, rfl, fun i hi => by rw [Nat.zero_add]; exact (hd.drewN k).cellB i hi⟩)
   have c2 : ∀ k, (convert 22 9 (.slice p3 32 (c - o))).run Tryz.prog (W6.drewN k) = .ok (.string (strN 32 (fun j => y (o + j)))) (W6.drewN k) := fun k => conv_str _ _ _ _ _ (HS3.out _ (Below.drewN' hb6 k))
   have HB6 := hid hb6
   clear hb6 hd
   have hob : (o : Int) ≤ (b : Int) := by have := HBo.out; omega
   generalize strN 32 dg = S1 at *
   generalize strN 32 (fun j => y (o + j)) = S2 at *
   go_quiet (fail)
   go_wp2
   go_ret2
   have h9 := HG.out
   rw [← HSE.out] at h9
   exact h9 _ (Below.drewN' HB6.out _)
 ·have h1' : (m : Int) < (d : Int) := by omega
  have hF := hF h1
  have HG := hid (hg none 0 0 w (Below.refl _ _) (fun h => absurd h h1))
  clear hg
  go_enter Tryz.func92, Tryz.ntmps92
  clear hcn hC hi
  go_wp2
  go_ret2
  rw [hF] at HG
  exact HG.out
end Go.Proofs.YtopibkoklagceaaGreat.H
