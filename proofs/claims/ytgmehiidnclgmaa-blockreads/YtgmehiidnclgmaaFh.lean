/- Contract of Bad of package block: which blocks are not sound. -/
import Derived.Test.YtgmehiidnclgmaaFg
import Derived.Scope
namespace Go.Proofs.Ytgmehiidnclgmaa
open Go Go.RowKit

theorem Try.infoInt : (Try.prog.info? 3).map (fun i => (i.zero, i.size, i.bytes)) = some (some (.int .i64 0), 1, 8) := by kernel_rfl
def i64v (k : Nat) : Value := .int .i64 (k : Int)
/-- The value v owns just the numbers L. -/
def BufI (B : Nat) (w : World) (v : Value) (L : List Nat) : Prop := w.ownsRow B 3 1 v L.length (L.map i64v)
theorem BufI.nil (B : Nat) (w : World) : BufI B w (.slice none 0 0) [] := World.ownsRow_nil w B 3 1
theorem BufI.kept {B : Nat} {w w' : World} {v : Value} {L : List Nat} {row : Option Nat} (h : BufI B w v L) (hg : w.grownBy w' row) (hne : v.ownBlock = none ∨ v.ownBlock ≠ row) : BufI B w' v L := World.ownsRow.kept h hg hne
theorem BufI.below {B : Nat} {w w' : World} {v : Value} {L : List Nat} (h : BufI B w v L) (hb : Below w.heap.size w w') : BufI B w' v L := by
  obtain ⟨hl, h | ⟨g, cap, cur, rfl, hB, hg, hc, hm, hs, ht⟩⟩ := h
  · exact ⟨hl, .inl h⟩
  · refine ⟨hl, .inr ⟨g, cap, cur, rfl, hB, ?_, hc, hm, hs, ht⟩⟩
    exact (hb.block g (CAt.lt hg)).trans hg
theorem BufI.cells {B : Nat} {w : World} {v : Value} {L : List Nat} (h : BufI B w v L) : ∀ (j : Nat) (o : Obj), v.ownBlock = some j → w.heap[j]? = some o → o.isCells = true := by
  intro j o hj ho
  obtain ⟨_, h | ⟨g, cap, cur, rfl, _, hg, _⟩⟩ := h
  · rw [h.1] at hj; cases hj
  · cases hj; rw [hg] at ho; cases ho; rfl
theorem BufI.ge {B : Nat} {w : World} {v : Value} {L : List Nat} (h : BufI B w v L) : ∀ j, v.ownBlock = some j → B ≤ j ∧ j < w.heap.size := fun j hj => World.ownsRow.lt h j hj
theorem BufI.form {B : Nat} {w : World} {v : Value} {L : List Nat} (h : BufI B w v L) : ∃ po cc, v = .slice po L.length cc := by
  obtain ⟨_, ⟨h1, h2⟩ | ⟨g, cap, cur, rfl, _⟩⟩ := h
  · exact ⟨none, 0, by rw [h1, h2]⟩
  · exact ⟨_, _, rfl⟩
theorem BufI.form3 {B : Nat} {w : World} {v : Value} {L : List Nat} (h : BufI B w v L) : ∃ po k cc, v = .slice po k cc := by
  obtain ⟨po, cc, e⟩ := h.form
  exact ⟨po, _, cc, e⟩
theorem BufI.push {B : Nat} {W : World} {v : Value} {L : List Nat} (hv : BufI B W v L) (k : Nat) (hn : L.length ≤ 100000) (hB : B ≤ W.heap.size) :
    ∃ v' w', (Builtin.append_ #[35, 35] 35 #[v, .slice (some ⟨W.heap.size, 0, none⟩) 1 1]).run Try.prog (W.alloc (.cells #[.int .i64 (k : Int)] 3)) = .ok v' w' ∧ BufI B w' v' (L ++ [k]) ∧ (W.alloc (.cells #[.int .i64 (k : Int)] 3)).grownBy w' v.ownBlock := by
  obtain ⟨i0, hi0, hz0, hz1, hz2⟩ := info_parts Try.infoInt
  have hv1 : BufI B (W.alloc (.cells #[.int .i64 (k : Int)] 3)) v L := hv.below ((Below.refl _ _).alloc (Nat.le_refl _) _)
  obtain ⟨v', w', hr, h2, h3, _, _⟩ := run_append_own_at (P := Try.prog) _ B 35 35 3 i0 (.int .i64 0) 1 8 Try.underlying35 hi0 hz0 hz1 hz2 rfl (by decide) v L.length (L.map i64v) hv1 ⟨W.heap.size, 0, none⟩ 1 1 [i64v k] rfl
    (fun j u hj => by
      match j, hj with
      | 0, hj => simp at hj; subst hj; rw [add_plain', World.cell?_alloc_new]; rfl
      | j + 1, hj => simp at hj)
    (fun u hu => by simp at hu; subst hu; rfl) (by unfold maxLen; omega) (by omega) (by simp; omega)
  refine ⟨v', w', hr, ?_, h3⟩
  unfold BufI
  rw [List.length_append, List.map_append]
  exact h2
/-- A list in a variable's box: a number put behind it, and the variable set. -/
theorem box_push {W : World} {Bx B : Nat} {v : Value} {L : List Nat} (hv : Boxed W Bx 35 v) (hb : BufI B W v L) (hB : B ≤ W.heap.size) (hBx : Bx < B) (k : Nat) (hn : L.length ≤ 100000) :
    ∃ po kk cc W1, (Builtin.append_ #[35, 35] 35 #[v, .slice (some ⟨W.heap.size, 0, none⟩) 1 1]).run Try.prog (W.alloc (.cells #[.int .i64 (k : Int)] 3)) = .ok (.slice po kk cc) W1 ∧ Boxed W1 Bx 35 v ∧
      Boxed (W1.setCell ⟨Bx, 0, none⟩ (.slice po kk cc)) Bx 35 (.slice po kk cc) ∧ BufI B (W1.setCell ⟨Bx, 0, none⟩ (.slice po kk cc)) (.slice po kk cc) (L ++ [k]) ∧
      KeepsOthers W (W1.setCell ⟨Bx, 0, none⟩ (.slice po kk cc)) ∧ (∀ C t u, C ≠ Bx → C < B → Boxed W C t u → Boxed (W1.setCell ⟨Bx, 0, none⟩ (.slice po kk cc)) C t u) ∧
      Below Bx W (W1.setCell ⟨Bx, 0, none⟩ (.slice po kk cc)) := by
  obtain ⟨v', W1, hr, h2, h3⟩ := hb.push k hn hB
  obtain ⟨po, kk, cc, rfl⟩ := h2.form3
  have hne0 : ∀ C, C < B → some C ≠ v.ownBlock := fun C hC e => by have := (hb.ge C e.symm).1; omega
  have b1 : Boxed W1 Bx 35 v := (hv.alloc _).kept h3 (hne0 Bx hBx)
  have hne : some Bx ≠ Value.ownBlock (.slice po kk cc) := fun e => by have := (h2.ge Bx e.symm).1; omega
  refine ⟨po, kk, cc, W1, hr, b1, b1.set _, h2.kept (grownBy_setCell' W1 Bx _) (.inr hne.symm), ((KeepsOthers.alloc _ _).trans (KeepsOthers.of_grownBy h3 (hb.below ((Below.refl _ _).alloc (Nat.le_refl _) _)).cells)).trans (KeepsOthers.setCell _ _ _), ?_, ?_⟩
  · intro C t u hC hCB hb2
    exact ((hb2.alloc _).kept h3 (hne0 C hCB)).other hC _
  · exact (((Below.refl Bx W).alloc (by omega) _).grown h3 (by simp; omega) (fun k e => by have := (hb.ge k e).1; omega)).setCell (p := ⟨Bx, 0, none⟩) (Nat.le_refl _) _
def badL (y : Nat → Nat) (m n : Nat) : List Nat := (List.range (cnt n)).filter fun i => !snd y m n i
def badP (y : Nat → Nat) (m n : Nat) (pre : List (Fin (cnt n))) : List Nat := (pre.map (fun i => i.val)).filter fun i => !snd y m n i
theorem badP_all (y : Nat → Nat) (m n : Nat) : badP y m n (List.finRange (cnt n)) = badL y m n := by
  unfold badP badL
  rw [show (List.finRange (cnt n)).map (fun i => i.val) = List.range (cnt n) from by
    apply List.ext_getElem
    · simp
    · intro i h1 h2; simp]
theorem badP_hit (y : Nat → Nat) (m n : Nat) (pre : List (Fin (cnt n))) (i : Fin (cnt n)) (h : snd y m n i.val = false) : badP y m n (pre ++ [i]) = badP y m n pre ++ [i.val] := by unfold badP; simp [h]
theorem badP_miss (y : Nat → Nat) (m n : Nat) (pre : List (Fin (cnt n))) (i : Fin (cnt n)) (h : snd y m n i.val = true) : badP y m n (pre ++ [i]) = badP y m n pre := by unfold badP; simp [h]
theorem badP_len (y : Nat → Nat) (m n : Nat) (pre : List (Fin (cnt n))) : (badP y m n pre).length ≤ pre.length := by
  unfold badP; exact Nat.le_trans (List.length_filter_le _ _) (by simp)

structure BadM (w W : World) (p : Option Addr) (m c n : Nat) (v : Value) (L : List Nat) : Prop where
  bb : Boxed W w.heap.size 22 (.slice p m c)
  bz : Boxed W (w.heap.size + 1) 3 (.int .i64 (n : Int))
  bf : Boxed W (w.heap.size + 1 + 1) 35 v
  bn : Boxed W (w.heap.size + 1 + 1 + 1) 3 (.int .i64 (n : Int))
  buf : BufI (w.heap.size + 4) W v L
  below : Below w.heap.size w W
  sz : w.heap.size + 4 ≤ W.heap.size
theorem BadM.grown {w W W' : World} {p : Option Addr} {m c n : Nat} {v : Value} {L : List Nat} {row : Option Nat} (h : BadM w W p m c n v L) (hg : W.grownBy W' row)
    (hr : ∀ r, row = some r → w.heap.size + 4 ≤ r ∧ ∃ o : Obj, W.heap[r]? = some o ∧ o.isCells = false) : BadM w W' p m c n v L where
  bb := h.bb.kept hg (fun e => by have := (hr _ e.symm).1; omega)
  bz := h.bz.kept hg (fun e => by have := (hr _ e.symm).1; omega)
  bf := h.bf.kept hg (fun e => by have := (hr _ e.symm).1; omega)
  bn := h.bn.kept hg (fun e => by have := (hr _ e.symm).1; omega)
  buf := h.buf.kept hg (by
    cases ho : v.ownBlock with
    | none => exact .inl rfl
    | some g =>
      refine .inr fun e => ?_
      obtain ⟨_, o, h1, h2⟩ := hr g e.symm
      rw [h.buf.cells g o ho h1] at h2; cases h2)
  below := h.below.grown hg h.below.size (fun k e => by have := (hr k e).1; omega)
  sz := Nat.le_trans h.sz hg.size
theorem BadM.on {w W W' : World} {p : Option Addr} {m c n : Nat} {v : Value} {L : List Nat} (h : BadM w W p m c n v L) (hb : Below W.heap.size W W') : BadM w W' p m c n v L where
  bb := (hb.block _ h.bb.lt).trans h.bb
  bz := (hb.block _ h.bz.lt).trans h.bz
  bf := (hb.block _ h.bf.lt).trans h.bf
  bn := (hb.block _ h.bn.lt).trans h.bn
  buf := h.buf.below hb
  below := h.below.trans (hb.mono h.below.size)
  sz := Nat.le_trans h.sz hb.size
def BadI (w : World) (p : Option Addr) (m c n : Nat) (y : Nat → Nat) (pre : List (Fin (cnt n))) (W : World) : Prop := ∃ v, BadM w W p m c n v (badP y m n pre)
def ListAt (w : World) (L : List Nat) (e : Ending) (w' : World) : Prop := ∃ v, e = .returned (.tuple #[v, .int .i64 0]) ∧ BufI w.heap.size w' v L ∧ Below w.heap.size w w'
theorem BufI.mono {B B' : Nat} {w : World} {v : Value} {L : List Nat} (h : BufI B w v L) (hB : B' ≤ B) : BufI B' w v L := by
  obtain ⟨hl, h | ⟨g, cap, cur, rfl, hb, h⟩⟩ := h
  · exact ⟨hl, .inl h⟩
  · exact ⟨hl, .inr ⟨g, cap, cur, rfl, by omega, h⟩⟩
set_option maxRecDepth 100000 in
set_option maxHeartbeats 1000000 in
theorem bad_ok (p : Option Addr) (m c n : Nat) (y : Nat → Nat) (w : World) (hn : n ≤ 65536) (hm : m ≤ 100000) (hc : m ≤ c) (hy : StrAt w p m y) (hb : ∀ i, i < m → y i < 256) :
    Calls Try.prog 22 #[.slice p m c, .int .i64 (n : Int)] w (ListAt w (badL y m n)) := by
  have HY := hid hy
  have HB := hid hb
  have hsz := szV_nat n hn
  have hse := szE_nat n hn
  have HN : Hid (cnt n ≤ 257) := by show cnt n ≤ 257; unfold cnt; omega
  generalize n + 32 * cnt n = sz at hsz
  refine (callsIn_wide (n := 5)).1 ?_
  refine callsIn_of_wp_marks Try.func22 rfl trivial ?_ rfl
  refine wpIn_wide.2 ?_
  simp only [Try.ntmps22, List.size_toArray, List.length_cons, List.length_nil, Nat.reduceAdd, Nat.reduceSub, Array.replicate_succ, Array.replicate_zero, List.push_toArray, List.append_toArray, List.nil_append, List.cons_append]
  clear hy hb
  go_wp2_with fail
  refine wp_scope_straight ?_
  go_wp2_with (go_at_call 12; refine (size_any _ _).mono ?_; rintro e w5 ⟨rfl, rfl⟩; rw [hsz, hse])
  refine wp_label ?_
  rename_i Ky hKy
  refine hKy _ _ ?_
  clear hKy Ky
  go_wp2_with (go_at_call 35; refine (blocks_any _ _).mono ?_; rintro e w5 ⟨rfl, rfl⟩)
  rename_i Kx hKx
  have m0 : BadM w ((((w.alloc (.cells #[.slice p m c] 22)).alloc (.cells #[.int .i64 (n : Int)] 3)).alloc (.cells #[.slice none 0 0] 35)).alloc (.cells #[.int .i64 (n : Int)] 3)) p m c n (.slice none 0 0) [] := by
    have b1 := Boxed.new w 22 (.slice p m c)
    have b2 := Boxed.new (w.alloc (.cells #[.slice p m c] 22)) 3 (.int .i64 (n : Int))
    have b3 := Boxed.new ((w.alloc (.cells #[.slice p m c] 22)).alloc (.cells #[.int .i64 (n : Int)] 3)) 35 (.slice none 0 0)
    have b4 := Boxed.new (((w.alloc (.cells #[.slice p m c] 22)).alloc (.cells #[.int .i64 (n : Int)] 3)).alloc (.cells #[.slice none 0 0] 35)) 3 (.int .i64 (n : Int))
    simp only [World.size_alloc] at b2 b3 b4
    exact ⟨((b1.alloc _).alloc _).alloc _, (b2.alloc _).alloc _, b3.alloc _, b4, BufI.nil _ _, ((((Below.refl _ w).alloc (by simp) _).alloc (by simp) _).alloc (by simp; omega) _).alloc (by simp; omega) _, by simp⟩
  have hsz0 : ((((w.alloc (.cells #[.slice p m c] 22)).alloc (.cells #[.int .i64 (n : Int)] 3)).alloc (.cells #[.slice none 0 0] 35)).alloc (.cells #[.int .i64 (n : Int)] 3)).heap.size = w.heap.size + 4 := by simp
  generalize ((((w.alloc (.cells #[.slice p m c] 22)).alloc (.cells #[.int .i64 (n : Int)] 3)).alloc (.cells #[.slice none 0 0] 35)).alloc (.cells #[.int .i64 (n : Int)] 3)) = W0 at m0 hsz0 ⊢
  refine (wpIn_wide (n := 5)).1 ?_
  refine wpIn_rangeFunc_ownG rfl (by omega) (gf := 48) (lb := #[.pointer (some ⟨w.heap.size + 1 + 1 + 1, 0, none⟩)]) rfl trivial (enters_of Try.func48 (by kernel_rfl) rfl)
    (blocks_stops 3 (w.heap.size + 1 + 1 + 1) n hn W0 m0.bn) keepsAt_t (keepsAt_b (by omega)) (Below.refl _ _) (fun _ => rfl)
    (BadI w p m c n y) (fun _ _ _ => False) ?hI (fun _ _ _ _ _ h _ _ => h) ⟨_, m0⟩
    (fun i => { tmps := #[.slice p m c, .int .i64 n, .pointer (some ⟨w.heap.size, 0, none⟩), .pointer (some ⟨w.heap.size + 1, 0, none⟩), .slice none 0 0, .int .i64 0, .int .i64 sz, .int .i64 0, .pointer (some ⟨w.heap.size + 1 + 1, 0, none⟩), .int .i64 ((256 * i.val : Nat) : Int), .int .i64 ((bend n i.val : Nat) : Int),
      .tuple #[.int .i64 sz, .int .i64 0], .int .i64 n, .tuple #[.int .i64 sz, .int .i64 0], .int .i64 sz, .int .i64 0, .int .i64 0, .bool false, undef, .int .i64 n,
      .func (.func 48) #[] #[.pointer (some ⟨w.heap.size + 1 + 1 + 1, 0, none⟩)], .int .i64 ((256 * i.val : Nat) : Int), .int .i64 ((bend n i.val : Nat) : Int), undef, undef, undef, undef, undef, undef, undef, undef, undef, undef, undef], defers := [] }) ?assign ?body ?done ?stop
  case hI =>
    rintro pre A B row ⟨v, h⟩ hg hr
    exact ⟨v, h.grown hg (fun r e => by rw [hsz0] at hr; exact hr r e)⟩
  case assign =>
    intro l i W K hK
    unfold bEnc
    generalize 256 * i.val = q at *
    generalize bend n i.val = r at *
    refine wpIn_seq (round_list (fun _ _ h => h) (by kernel_rfl) ?_)
    go_wp2
    refine round_list (fun _ _ h => h) (by kernel_rfl) ?_
    go_wp2
    exact hK
  case body =>
    rintro l pre i W ⟨v, hM⟩ hlt
    have hi := i.isLt
    have HS := hid (fun W' (hW' : Below w.heap.size w W') => sound_any p m c y n i.val W' hn hi hm hc (HY.out.below hW') HB.out)
    have HH := hid (badP_hit y m n pre i)
    have HI := hid (badP_miss y m n pre i)
    have HL := hid (badP_len y m n pre)
    have HLT := hid hlt
    have e1 : IntKind.i64.wrap ((((256 * i.val : Nat) : Int)).tdiv 256) = ((i.val : Nat) : Int) := by rw [IntWalk.i64_quo _ _ ⟨by omega, by have := HN.out; omega, by omega⟩]; omega
    have e2 : wrap64 (((256 * i.val : Nat) : Int) / 256) = ((i.val : Nat) : Int) := by unfold wrap64; have := HN.out; omega
    generalize 256 * i.val = q at *
    generalize bend n i.val = r at *
    generalize snd y m n i.val = s at *
    have HM := hid hM
    have hbc := hM.bb.cell
    have hbz := hM.bz.cell
    clear hM
    refine wpIn_block (wpIn_seq (wpIn_seq (round_list (fun _ _ h => h) (by kernel_rfl) ?_)))
    go_wp2_with (go_at_call 40; refine (HS.out _ HM.out.below).mono ?_; rintro e w5 ⟨rfl, hbw⟩; have HB5 := hid hbw; clear hbw)
    have HM5 := hid (HM.out.on HB5.out)
    have HK := hid (keeps_below HB5.out)
    clear hbc hbz HB5
    cases s with
    | true =>
      refine wpIn_cond_true rfl (wpIn_exit ?_)
      refine ⟨HK.out.from _, Eq.trans HM5.out.bn (Eq.symm HM.out.bn), v, ?_⟩
      rw [HI.out rfl]; exact HM5.out
    | false =>
      refine wpIn_cond_false rfl (wpIn_skip ?_)
      obtain ⟨po, kk, cc, W8, r8, b8, b9, f9, k9, o9, w9⟩ := box_push HM5.out.bf HM5.out.buf HM5.out.sz (by omega) i.val (by have := HL.out; have := HLT.out; have := HN.out; omega)
      have HM9 : Hid (BadM w (W8.setCell ⟨w.heap.size + 1 + 1, 0, none⟩ (.slice po kk cc)) p m c n (.slice po kk cc) (badP y m n pre ++ [i.val])) :=
        ⟨o9 _ _ _ (by omega) (by omega) HM5.out.bb, o9 _ _ _ (by omega) (by omega) HM5.out.bz, b9, o9 _ _ _ (by omega) (by omega) HM5.out.bn, f9, HM5.out.below.trans (w9.mono (by omega)), Nat.le_trans HM5.out.sz k9.size⟩
      have HK := hid (HK.out.trans k9)
      have HR8 := hid r8
      have hc8 := b8.cell
      have hf8 := b8.frozen
      have hfc := HM5.out.bf.cell
      have HV := hid (HH.out rfl)
      clear r8 b8 b9 f9 k9 o9 w9
      generalize i.val = ii at *
      refine round_list (fun _ _ h => h) (by kernel_rfl) ?_
      go_wp2_with (refine wpList_append_eq rfl _ _ 35 rfl _ _ rfl rfl _ _ HR8.out ?_)
      refine ⟨HK.out.from _, Eq.trans HM9.out.bn (Eq.symm HM.out.bn), .slice po kk cc, ?_⟩
      rw [HV.out]; exact HM9.out
  case done =>
    rintro D ys W hD rfl ⟨v, hM⟩ hK
    have hc1 := hM.bf.cell
    refine hKx _ _ ?_
    go_wp2
    rw [Exit.noGoto_ret]
    refine ⟨by simp, .inl ⟨_, _, rfl, run_takeDeferred hK, ?_⟩⟩
    refine ⟨_, results_tmp2 rfl _ _ _, v, rfl, ?_, ?_⟩
    · rw [← badP_all]; exact BufI.mono (ownsRow_putObj hM.buf _ hK rfl) (by omega)
    · exact hM.below.trans (belowK_b (w := w) (Nat.le_refl _) W D _ _ (by omega) hK rfl rfl)
  case stop =>
    rintro D c pre W _ _ h _
    exact h.elim
theorem bad_no (p : Option Addr) (m c : Nat) (z : Int) (w : World) (hz : ¬ (0 ≤ z ∧ z ≤ 65536)) :
    Calls Try.prog 22 #[.slice p m c, .int .i64 z] w fun e w' => e = .returned (.tuple #[.slice none 0 0, .int .i64 5]) ∧ Below w.heap.size w w' := by
  have hsz : szV z = 0 := by unfold szV; rw [if_neg hz]
  have hse : szE z = 5 := by unfold szE; rw [if_neg hz]
  go_enter Try.func22, Try.ntmps22
  go_wp2_with fail
  refine wp_scope_straight ?_
  go_wp2_with (go_at_call 12; refine (size_any _ _).mono ?_; rintro e w5 ⟨rfl, rfl⟩; rw [hsz, hse])
  rw [Exit.noGoto_ret]
  go_ret2
  exact ⟨rfl, ((Below.refl _ _).alloc (by omega) _).alloc (by simp) _⟩
end Go.Proofs.Ytgmehiidnclgmaa
