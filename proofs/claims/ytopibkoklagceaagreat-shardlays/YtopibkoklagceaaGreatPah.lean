/- Texts laid into one, cut to what is needed: the remark ahead of each part says what is proved there. -/
import Derived.Test.YtopibkoklagceaaGreatPag
import Derived.Scope
/- Contracts of SameBytes and bytes.Equal, of sound of package block, and of stands of the document's own answer. -/
namespace Go.Proofs.YtopibkoklagceaaGreat.H
open Go Go.RowKit

theorem strN_inj (n m : Nat) (x y : Nat → Nat) (hx : ∀ i, i < n → x i < 256) (hy : ∀ i, i < m → y i < 256) : strN n x = strN m y ↔ n = m ∧ ∀ i, i < n → x i = y i := by
  constructor
  · intro h
    unfold strN strOfNums at h
    have h1 := congrArg (fun s : ByteArray => s.data.toList) h
    simp only [List.map_map] at h1
    have hl := congrArg List.length h1
    simp at hl
    refine ⟨hl, fun i hi => ?_⟩
    have h2 := congrArg (fun l : List UInt8 => l[i]?) h1
    simp [hi, show i < m by omega] at h2
    have h3 := congrArg UInt8.toNat h2
    have := hx i hi
    have := hy i (by omega)
    simp at h3
    omega
  · rintro ⟨rfl, h⟩
    unfold strN; congr 1; apply List.map_congr_left; intro i hi; rw [h i (List.mem_range.1 hi)]
def sameB (n : Nat) (x : Nat → Nat) (m : Nat) (y : Nat → Nat) : Bool := decide (n = m) && eqD n x y
theorem sameB_iff (n : Nat) (x : Nat → Nat) (m : Nat) (y : Nat → Nat) : sameB n x m y = true ↔ n = m ∧ ∀ i, i < n → x i = y i := by
  unfold sameB; rw [Bool.and_eq_true, decide_eq_true_eq, eqD_iff]
theorem str_eq (n m : Nat) (x y : Nat → Nat) (hx : ∀ i, i < n → x i < 256) (hy : ∀ i, i < m → y i < 256) : ((strN n x).toList == (strN m y).toList) = sameB n x m y := by
  rw [Bool.eq_iff_iff, beq_iff_eq, sameB_iff, ← strN_inj n m x y hx hy, Go.ByteArray.toList_eq, Go.ByteArray.toList_eq]
  exact ⟨Go.WideShapes.bytes_inj, fun h => by rw [h]⟩
set_option maxHeartbeats 400000 in
theorem same_any (p q : Option Addr) (n m c d : Nat) (x y : Nat → Nat) (w : World) (hp : StrAt w p n x) (hq : StrAt w q m y) (hx : ∀ i, i < n → x i < 256) (hy : ∀ i, i < m → y i < 256) :
    Calls Tryz.prog 23 #[.slice p n c, .slice q m d] w fun e w' => e = .returned (.bool (sameB n x m y)) ∧ w' = w := by
  have h1 := conv_str w p n c x hp
  have h2 := conv_str w q m d y hq
  have h3 := str_eq n m x y hx hy
  go_enter Tryz.func23, Tryz.ntmps23
  go_wp2
  go_ret
  exact ⟨by first | rfl | (rw [← h3]; rfl), rfl⟩
set_option maxHeartbeats 400000 in
theorem equal_any (p q : Option Addr) (n m c d : Nat) (x y : Nat → Nat) (w : World) (hp : StrAt w p n x) (hq : StrAt w q m y) (hx : ∀ i, i < n → x i < 256) (hy : ∀ i, i < m → y i < 256) :
    Calls Tryz.prog 68 #[.slice p n c, .slice q m d] w fun e w' => e = .returned (.bool (sameB n x m y)) ∧ w' = w := by
  have h1 := conv_str w p n c x hp
  have h2 := conv_str w q m d y hq
  have h3 := str_eq n m x y hx hy
  go_enter Tryz.func68, Tryz.ntmps68
  go_wp2
  go_ret
  exact ⟨by first | rfl | (rw [← h3]; rfl), rfl⟩
/-- Where the bytes of a block end in a file of m bytes. -/
def sEnd (m n i : Nat) : Nat := if bend n i = n then m else 288 * i + 32 + (bend n i - 256 * i)
/-- Is the block sound? -/
def snd (y : Nat → Nat) (m n i : Nat) : Bool := decide (288 * i + 32 + (bend n i - 256 * i) ≤ m) && eqD 32 (sha (sEnd m n i - (288 * i + 32)) (fun j => y (288 * i + 32 + j))) (fun j => y (288 * i + j))
theorem eq32 (x y : Nat → Nat) : sameB 32 x 32 y = eqD 32 x y := by unfold sameB; simp
theorem snd_false {y : Nat → Nat} {m n i : Nat} (h : ¬ 288 * i + 32 + (bend n i - 256 * i) ≤ m) : snd y m n i = false := by unfold snd; simp [h]
theorem snd_eq {y : Nat → Nat} {m n i : Nat} (h : 288 * i + 32 + (bend n i - 256 * i) ≤ m) : snd y m n i = eqD 32 (sha (sEnd m n i - (288 * i + 32)) (fun j => y (288 * i + 32 + j))) (fun j => y (288 * i + j)) := by unfold snd; simp [h]
set_option maxRecDepth 100000 in
set_option maxHeartbeats 1000000 in
theorem sound_any (p : Option Addr) (m c : Nat) (y : Nat → Nat) (n i : Nat) (w : World) (hn : n ≤ 65536) (hi : i < cnt n) (hm : m ≤ 100000) (hc : m ≤ c) (hy : StrAt w p m y) (hb : ∀ j, j < m → y j < 256) :
    Calls Tryz.prog 130 #[.slice p m c, .int .i64 (n : Int), .int .i64 ((256 * i : Nat) : Int), .int .i64 ((bend n i : Nat) : Int)] w fun e w' => e = .returned (.bool (snd y m n i)) ∧ Below w.heap.size w w' := by
  have hcn : cnt n = (n + 255) / 256 := rfl
  have HN := hid hcn
  have HY := hid hy
  have HB := hid hb
  have hF := @snd_false y m n i
  have hT := @snd_eq y m n i
  have hE : sEnd m n i = if bend n i = n then m else 288 * i + 32 + (bend n i - 256 * i) := rfl
  have hbd : bend n i = min (256 * i + 256) n := rfl
  obtain ⟨s, hs⟩ : ∃ s, snd y m n i = s := ⟨_, rfl⟩
  obtain ⟨E, hEe⟩ : ∃ E, sEnd m n i = E := ⟨_, rfl⟩
  obtain ⟨r, hr⟩ : ∃ r, bend n i = r := ⟨_, rfl⟩
  obtain ⟨q, hq⟩ : ∃ q, 256 * i = q := ⟨_, rfl⟩
  obtain ⟨b, hbb⟩ : ∃ b, 288 * i + 32 = b := ⟨_, rfl⟩
  rw [hs, hr, hq, hbb] at hF
  rw [hs, hr, hq, hbb, hEe] at hT
  rw [hr, hq] at hbd
  rw [hEe, hr, hq, hbb] at hE
  rw [hs, hr, hq]
  have hqr : q < r ∧ r ≤ n ∧ r - q ≤ 256 := by omega
  have hpl : q + 32 * i + 32 = b := by omega
  have hqi : q / 256 = i := by omega
  have e1 : IntKind.i64.wrap ((b : Int) + (r : Int)) = (b : Int) + (r : Int) := IntWalk.i64_in _ ⟨by omega, by omega⟩
  obtain ⟨d, hd⟩ : ∃ d, b + (r - q) = d := ⟨_, rfl⟩
  have e2 : IntKind.i64.wrap ((b : Int) + (r : Int) - (q : Int)) = (d : Int) := by rw [IntWalk.i64_in _ ⟨by omega, by omega⟩]; omega
  have e3 : IntKind.i64.wrap ((b : Int) - 32) = ((288 * i : Nat) : Int) := by rw [IntWalk.i64_in _ ⟨by omega, by omega⟩]; omega
  rw [hd] at hF hT hE
  by_cases h1 : d ≤ m
  · have h1' : ¬ (m : Int) < (d : Int) := by omega
    have hT := hT h1
    obtain ⟨o, ho⟩ : ∃ o, 288 * i = o := ⟨_, rfl⟩
    rw [ho] at e3 hT
    have hEm : b ≤ E ∧ E ≤ m := by split at hE <;> omega
    obtain ⟨p2, hcut, hp2, _⟩ := run_cut p m c b E hEm.1 (by omega)
    obtain ⟨p3, hcut3, hp3, _⟩ := run_cut p m c o b (by omega) (by omega)
    have h32 : b - o = 32 := by omega
    rw [h32] at hcut3
    have HS2 : Hid (StrAt w p2 (E - b) (fun j => y (b + j))) := hy.cut hc hEm.2 hp2
    have HS3 : Hid (∀ W', Below w.heap.size w W' → StrAt W' p3 32 (fun j => y (o + j))) := fun W' hW' => by
      have := (hy.below hW').cut (h := b) hc (by omega) hp3
      rwa [h32] at this
    obtain ⟨dg, hdg⟩ : ∃ dg, sha (E - b) (fun j => y (b + j)) = dg := ⟨_, rfl⟩
    rw [hdg] at hT
    have HSUM : Hid (Calls Tryz.prog 51 #[.slice p2 (E - b) (c - b)] w fun e w' => e = .returned (.agg (aB 32 dg)) ∧ Below w.heap.size w w') := by
      show Calls _ _ _ _ _
      rw [← hdg]; exact sum_any _ _ _ _ _ (by omega) (by omega) HS2.out (fun j hj => hb _ (by omega))
    have HDL : Hid (∀ j, j < 32 → dg j < 256) := fun j _ => by rw [← hdg]; exact sha_lt _ _ _
    have HYL : Hid (∀ j, j < 32 → y (o + j) < 256) := fun j hj => hb _ (by omega)
    have HT := hid hT
    have HBo : Hid (b = o + 32) := by show b = o + 32; omega
    clear hdg hF hT hy hb hp2 hp3 HS2 hEm hbd h32
    by_cases h2 : r = n
    · rw [if_pos h2] at hE
      subst hE
      have h2' : (r : Int) = (n : Int) := by omega
      go_enter Tryz.func130, Tryz.ntmps130
      go_upto_region 8 with (first
        | (go_at_call 131; refine (place_any q i (by omega) hqi _).mono ?_; rintro e w5 ⟨rfl, hw⟩; have h3 := hw.symm; subst h3; rw [hpl])
        | (go_at_call 51; refine HSUM.out.mono ?_; rintro e w5 ⟨rfl, hbw⟩; have HB5 := hid hbw; clear hbw)
        | refine wpList_alloc_row rfl 37 rfl _ zero32 ?_
        | refine wpList_store_row rfl 37 _ _ rfl _ _ rfl rfl _ _ (CAt.new _ _ _) (size32 _) (by simp only [aB_size]) (aB_one _ _) ?_)
      have hb6 : Below w.heap.size w ((w5.alloc (.cells (aB 32 zB) 37)).setRow w5.heap.size (aB 32 dg)) := below_setRow (HB5.out.alloc HB5.out.size _) HB5.out.size _
      have hd : CAt ((w5.alloc (.cells (aB 32 zB) 37)).setRow w5.heap.size (aB 32 dg)) w5.heap.size (aB 32 dg) 37 := (CAt.new _ _ _).row _
      generalize ((w5.alloc (.cells (aB 32 zB) 37)).setRow w5.heap.size (aB 32 dg)) = W6 at *
      generalize w5.heap.size = g5 at *
      have HA : Hid (∀ k, StrAt (W6.drewN k) (some ⟨g5, 0, none⟩) 32 dg) := fun k => .inr ⟨_, 0, rfl, fun i hi => by rw [Nat.zero_add]; exact (hd.drewN k).cellB i hi⟩
      have HC : Hid (∀ k, StrAt (W6.drewN k) p3 32 (fun j => y (o + j))) := fun k => HS3.out _ (Below.drewN' hb6 k)
      have HB6 := hid hb6
      clear hb6 hd
      have hob : (o : Int) ≤ (b : Int) := by have := HBo.out; omega
      go_quiet ((go_at_call 68; refine Calls.quiet_of_same (equal_any _ _ _ _ _ _ dg (fun j => y (o + j)) _ (HA.out _) (HC.out _) HDL.out HYL.out)))
      go_wp2
      go_ret
      exact ⟨by rw [HT.out, ← eq32]; rfl, Below.drewN' HB6.out _⟩
    · rw [if_neg h2] at hE
      subst hE
      have h2' : ¬ (r : Int) = (n : Int) := by omega
      go_enter Tryz.func130, Tryz.ntmps130
      go_upto_region 8 with (first
        | (go_at_call 131; refine (place_any q i (by omega) hqi _).mono ?_; rintro e w5 ⟨rfl, hw⟩; have h3 := hw.symm; subst h3; rw [hpl])
        | (go_at_call 51; refine HSUM.out.mono ?_; rintro e w5 ⟨rfl, hbw⟩; have HB5 := hid hbw; clear hbw)
        | refine wpList_alloc_row rfl 37 rfl _ zero32 ?_
        | refine wpList_store_row rfl 37 _ _ rfl _ _ rfl rfl _ _ (CAt.new _ _ _) (size32 _) (by simp only [aB_size]) (aB_one _ _) ?_)
      have hb6 : Below w.heap.size w ((w5.alloc (.cells (aB 32 zB) 37)).setRow w5.heap.size (aB 32 dg)) := below_setRow (HB5.out.alloc HB5.out.size _) HB5.out.size _
      have hd : CAt ((w5.alloc (.cells (aB 32 zB) 37)).setRow w5.heap.size (aB 32 dg)) w5.heap.size (aB 32 dg) 37 := (CAt.new _ _ _).row _
      generalize ((w5.alloc (.cells (aB 32 zB) 37)).setRow w5.heap.size (aB 32 dg)) = W6 at *
      generalize w5.heap.size = g5 at *
      have HA : Hid (∀ k, StrAt (W6.drewN k) (some ⟨g5, 0, none⟩) 32 dg) := fun k => .inr ⟨_, 0, rfl, fun i hi => by rw [Nat.zero_add]; exact (hd.drewN k).cellB i hi⟩
      have HC : Hid (∀ k, StrAt (W6.drewN k) p3 32 (fun j => y (o + j))) := fun k => HS3.out _ (Below.drewN' hb6 k)
      have HB6 := hid hb6
      clear hb6 hd
      have hob : (o : Int) ≤ (b : Int) := by have := HBo.out; omega
      go_quiet ((go_at_call 68; refine Calls.quiet_of_same (equal_any _ _ _ _ _ _ dg (fun j => y (o + j)) _ (HA.out _) (HC.out _) HDL.out HYL.out)))
      go_wp2
      go_ret
      exact ⟨by rw [HT.out, ← eq32]; rfl, Below.drewN' HB6.out _⟩
  · have h1' : (m : Int) < (d : Int) := by omega
    have hF := hF h1
    go_enter Tryz.func130, Tryz.ntmps130
    go_wp2_with (go_at_call 131; refine (place_any q i (by omega) hqi _).mono ?_; rintro e w5 ⟨rfl, hw⟩; have h3 := hw.symm; subst h3; rw [hpl])
    go_ret
    exact ⟨by rw [hF]; rfl, Below.refl _ _⟩
end Go.Proofs.YtopibkoklagceaaGreat.H

/- Contract of Bad of package block: which blocks are not sound. -/
namespace Go.Proofs.YtopibkoklagceaaGreat.H
open Go Go.RowKit

def i64v (k : Nat) : Value := .int .i64 (k : Int)
/-- The value v owns just the numbers L. -/
def BufI (B : Nat) (w : World) (v : Value) (L : List Nat) : Prop := w.ownsRow B 3 1 v L.length (L.map i64v)
theorem BufI.nil (B : Nat) (w : World) : BufI B w (.slice none 0 0) [] := World.ownsRow_nil w B 3 1
theorem BufI.kept {B : Nat} {w w' : World} {v : Value} {L : List Nat} {row : Option Nat} (h : BufI B w v L) (hg : w.grownBy w' row) (hne : v.ownBlock = none ∨ v.ownBlock ≠ row) : BufI B w' v L := World.ownsRow.kept h hg hne
theorem BufI.below {B : Nat} {w w' : World} {v : Value} {L : List Nat} (h : BufI B w v L) (hb : Below w.heap.size w w') : BufI B w' v L := by
  obtain ⟨hl, h | ⟨g, cap, cur, rfl, hB, hg, hc, hm, hs, ht⟩⟩ := h
  · exact ⟨hl, .inl h⟩
  · refine ⟨hl, .inr ⟨g, cap, cur, rfl, hB, ?_, hc, hm, hs, ht⟩⟩
    exact (hb.block g (CAt.lt hg)).trans hg
theorem BufI.cells {B : Nat} {w : World} {v : Value} {L : List Nat} (h : BufI B w v L) : ∀ (j : Nat) (o : Obj), v.ownBlock = some j → w.heap[j]? = some o → o.isCells = true := by
  intro j o hj ho
  obtain ⟨_, h | ⟨g, cap, cur, rfl, _, hg, _⟩⟩ := h
  · rw [h.1] at hj; cases hj
  · cases hj; rw [hg] at ho; cases ho; rfl
theorem BufI.ge {B : Nat} {w : World} {v : Value} {L : List Nat} (h : BufI B w v L) : ∀ j, v.ownBlock = some j → B ≤ j ∧ j < w.heap.size := fun j hj => World.ownsRow.lt h j hj
theorem BufI.form {B : Nat} {w : World} {v : Value} {L : List Nat} (h : BufI B w v L) : ∃ po cc, v = .slice po L.length cc := by
  obtain ⟨_, ⟨h1, h2⟩ | ⟨g, cap, cur, rfl, _⟩⟩ := h
  · exact ⟨none, 0, by rw [h1, h2]⟩
  · exact ⟨_, _, rfl⟩
structure BadM (w W : World) (p : Option Addr) (m c n : Nat) (v : Value) (L : List Nat) : Prop where
  bb : Boxed W w.heap.size 22 (.slice p m c)
  bz : Boxed W (w.heap.size + 1) 3 (.int .i64 (n : Int))
  bf : Boxed W (w.heap.size + 1 + 1) 47 v
  bn : Boxed W (w.heap.size + 1 + 1 + 1) 3 (.int .i64 (n : Int))
  buf : BufI (w.heap.size + 4) W v L
  below : Below w.heap.size w W
  sz : w.heap.size + 4 ≤ W.heap.size
theorem BadM.on {w W W' : World} {p : Option Addr} {m c n : Nat} {v : Value} {L : List Nat} (h : BadM w W p m c n v L) (hb : Below W.heap.size W W') : BadM w W' p m c n v L where
  bb := (hb.block _ h.bb.lt).trans h.bb
  bz := (hb.block _ h.bz.lt).trans h.bz
  bf := (hb.block _ h.bf.lt).trans h.bf
  bn := (hb.block _ h.bn.lt).trans h.bn
  buf := h.buf.below hb
  below := h.below.trans (hb.mono h.below.size)
  sz := Nat.le_trans h.sz hb.size
theorem BufI.mono {B B' : Nat} {w : World} {v : Value} {L : List Nat} (h : BufI B w v L) (hB : B' ≤ B) : BufI B' w v L := by
  obtain ⟨hl, h | ⟨g, cap, cur, rfl, hb, h⟩⟩ := h
  · exact ⟨hl, .inl h⟩
  · exact ⟨hl, .inr ⟨g, cap, cur, rfl, by omega, h⟩⟩
end Go.Proofs.YtopibkoklagceaaGreat.H

/- Parts of a file's bytes, block by block, as lists. -/
namespace Go.Proofs.YtopibkoklagceaaGreat.H
open Go Go.RowKit

def plo (a i : Nat) : Nat := max (256 * i) a
def phi (n b i : Nat) : Nat := min (bend n i) b
def pcs (y : Nat → Nat) (n a b i : Nat) : List Nat := (List.range (phi n b i - plo a i)).map fun j => y (288 * i + 32 + (plo a i - 256 * i) + j)
def parL (y : Nat → Nat) (n a b : Nat) : List Nat := (List.range (cnt n)).flatMap (pcs y n a b)
def parP (y : Nat → Nat) (n a b : Nat) (pre : List (Fin (cnt n))) : List Nat := pre.flatMap fun i => pcs y n a b i.val
def parOK (y : Nat → Nat) (m n a b : Nat) : Bool := (List.range (cnt n)).all fun i => decide (phi n b i ≤ plo a i) || snd y m n i
def parB (y : Nat → Nat) (m n a b : Nat) (pre : List (Fin (cnt n))) : Prop := ∀ i ∈ pre, phi n b i.val ≤ plo a i.val ∨ snd y m n i.val = true
theorem pcs_len (y : Nat → Nat) (n a b i : Nat) : (pcs y n a b i).length = phi n b i - plo a i := by simp [pcs]
theorem pcs_nil (y : Nat → Nat) (n a b i : Nat) (h : phi n b i ≤ plo a i) : pcs y n a b i = [] := by unfold pcs; rw [Nat.sub_eq_zero_of_le h]; rfl
theorem parP_snoc (y : Nat → Nat) (n a b : Nat) (pre : List (Fin (cnt n))) (i : Fin (cnt n)) : parP y n a b (pre ++ [i]) = parP y n a b pre ++ pcs y n a b i.val := by simp [parP]
theorem parP_len (y : Nat → Nat) (n a b : Nat) : ∀ pre : List (Fin (cnt n)), (parP y n a b pre).length ≤ 256 * pre.length
  | [] => by simp [parP]
  | i :: pre => by
    have := parP_len y n a b pre
    have h : (pcs y n a b i.val).length ≤ 256 := by rw [pcs_len]; unfold phi plo bend; omega
    unfold parP at *
    rw [List.flatMap_cons, List.length_append, List.length_cons]; omega
theorem parP_take (y : Nat → Nat) (n a b : Nat) (hab : a ≤ b) (hbn : b ≤ n) : ∀ k, k ≤ cnt n → (parP y n a b ((List.finRange (cnt n)).take k)).length = min b (256 * k) - a
  | 0, _ => by simp [parP]
  | k + 1, hk => by
    have ih := parP_take y n a b hab hbn k (by omega)
    rw [take_snoc _ k hk, parP_snoc, List.length_append, ih, pcs_len]
    show _ + (phi n b k - plo a k) = _
    have : cnt n = (n + 255) / 256 := rfl
    unfold phi plo bend; omega
theorem fin_range (c : Nat) : (List.finRange c).map (fun i => i.val) = List.range c := by
  apply List.ext_getElem
  · simp
  · intro i h1 h2; simp
theorem parP_all (y : Nat → Nat) (n a b : Nat) : parP y n a b (List.finRange (cnt n)) = parL y n a b := by
  unfold parP parL
  rw [← fin_range, List.flatMap_map]
theorem parL_len (y : Nat → Nat) (n a b : Nat) (hab : a ≤ b) (hbn : b ≤ n) : (parL y n a b).length = b - a := by
  have h := parP_take y n a b hab hbn (cnt n) (Nat.le_refl _)
  rw [List.take_of_length_le (by simp), parP_all] at h
  rw [h]
  have : cnt n = (n + 255) / 256 := rfl
  omega
theorem parOK_true {y : Nat → Nat} {m n a b : Nat} (h : parB y m n a b (List.finRange (cnt n))) : parOK y m n a b = true := by
  unfold parOK
  rw [List.all_eq_true]
  intro i hi
  have := h ⟨i, List.mem_range.1 hi⟩ (List.mem_finRange _)
  simpa using this
theorem parOK_false {y : Nat → Nat} {m n a b : Nat} {i : Nat} (hi : i < cnt n) (h1 : plo a i < phi n b i) (h2 : snd y m n i = false) : parOK y m n a b = false := by
  unfold parOK
  rw [Bool.eq_false_iff]
  intro h
  rw [List.all_eq_true] at h
  have := h i (List.mem_range.2 hi)
  rw [h2] at this
  simp at this
  omega
/-- What Part tells. -/
def PartAt (w : World) (ok : Bool) (L : List Nat) (e : Ending) (w' : World) : Prop := Below w.heap.size w w' ∧
  ((ok = true ∧ ∃ g, e = .returned (.tuple #[.slice (some ⟨g, 0, none⟩) L.length L.length, .int .i64 0]) ∧ w.heap.size ≤ g ∧ RowL w' g L) ∨ (ok = false ∧ e = .returned (.tuple #[.slice none 0 0, .int .i64 14])))
end Go.Proofs.YtopibkoklagceaaGreat.H
