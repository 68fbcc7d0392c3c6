/- Texts laid into one, cut to what is needed: the remark ahead of each part says what is proved there. -/
import Derived.Test.YtdohmokhfajjpaaGreatDoorPaf
import Derived.Scope
/- Contract of Bad of package block: which blocks are not sound. -/
namespace Go.Proofs.YtdohmokhfajjpaaGreatDoor.H
open Go Go.RowKit

def i64v (k : Nat) : Value := .int .i64 (k : Int)
/-- The value v owns just the numbers L. -/
def BufI (B : Nat) (w : World) (v : Value) (L : List Nat) : Prop := w.ownsRow B 3 1 v L.length (L.map i64v)
theorem BufI.nil (B : Nat) (w : World) : BufI B w (.slice none 0 0) [] := World.ownsRow_nil w B 3 1
theorem BufI.kept {B : Nat} {w w' : World} {v : Value} {L : List Nat} {row : Option Nat} (h : BufI B w v L) (hg : w.grownBy w' row) (hne : v.ownBlock = none ∨ v.ownBlock ≠ row) : BufI B w' v L := World.ownsRow.kept h hg hne
theorem BufI.below {B : Nat} {w w' : World} {v : Value} {L : List Nat} (h : BufI B w v L) (hb : Below w.heap.size w w') : BufI B w' v L := by
 obtain ⟨hl, h | ⟨g, cap, cur, rfl, hB, hg, hc, hm, hs, ht⟩⟩ := h
 ·exact ⟨hl, .inl h⟩
 ·refine ⟨hl, .inr ⟨g, cap, cur, rfl, hB, ?_, hc, hm, hs, ht⟩⟩
  exact (hb.block g (CAt.lt hg)).trans hg
theorem BufI.cells {B : Nat} {w : World} {v : Value} {L : List Nat} (h : BufI B w v L) : ∀ (j : Nat) (o : Obj), v.ownBlock = some j → w.heap[j]? = some o → o.isCells = true := by
 intro j o hj ho
 obtain ⟨_, h | ⟨g, cap, cur, rfl, _, hg, _⟩⟩ := h
 ·rw [h.1] at hj; cases hj
 ·cases hj; rw [hg] at ho; cases ho; rfl
theorem BufI.ge {B : Nat} {w : World} {v : Value} {L : List Nat} (h : BufI B w v L) : ∀ j, v.ownBlock = some j → B ≤ j ∧ j < w.heap.size := fun j hj => World.ownsRow.lt h j hj
theorem BufI.form {B : Nat} {w : World} {v : Value} {L : List Nat} (h : BufI B w v L) : ∃ po cc, v = .slice po L.length cc := by
 obtain ⟨_, ⟨h1, h2⟩ | ⟨g, cap, cur, rfl, _⟩⟩ := h
 ·exact ⟨none, 0, by rw [h1, h2]⟩
 ·exact ⟨_, _, rfl⟩
structure BadM (w W : World) (p : Option Addr) (m c n : Nat) (v : Value) (L : List Nat) : Prop where
 bb : Boxed W w.heap.size 22 (.slice p m c)
 bz : Boxed W (w.heap.size + 1) 3 (.int .i64 (n : Int))
 bf : Boxed W (w.heap.size + 1 + 1) 30 v
 bn : Boxed W (w.heap.size + 1 + 1 + 1) 3 (.int .i64 (n : Int))
 buf : BufI (w.heap.size + 4) W v L
 below : Below w.heap.size w W
 sz : w.heap.size + 4 ≤ W.heap.size
theorem BadM.grown {w W W' : World} {p : Option Addr} {m c n : Nat} {v : Value} {L : List Nat} {row : Option Nat} (h : BadM w W p m c n v L) (hg : W.grownBy W' row)
  (hr : ∀ r, row = some r → w.heap.size + 4 ≤ r ∧ ∃ o : Obj, W.heap[r]? = some o ∧ o.isCells = false) : BadM w W' p m c n v L where
 bb := h.bb.kept hg (fun e => by have := (hr _ e.symm).1; omega)
 bz := h.bz.kept hg (fun e => by have := (hr _ e.symm).1; omega)
 bf := h.bf.kept hg (fun e => by have := (hr _ e.symm).1; omega)
 bn := h.bn.kept hg (fun e => by have := (hr _ e.symm).1; omega)
 buf := h.buf.kept hg (by
  cases ho : v.ownBlock with
  | none => exact .inl rfl
  | some g =>
   refine .inr fun e => ?_
   obtain ⟨_, o, h1, h2⟩ := hr g e.symm
   rw [h.buf.cells g o ho h1] at h2; cases h2)
 below := h.below.grown hg h.below.size (fun k e => by have := (hr k e).1; omega)
 sz := Nat.le_trans h.sz hg.size
theorem BadM.on {w W W' : World} {p : Option Addr} {m c n : Nat} {v : Value} {L : List Nat} (h : BadM w W p m c n v L) (hb : Below W.heap.size W W') : BadM w W' p m c n v L where
 bb := (hb.block _ h.bb.lt).trans h.bb
 bz := (hb.block _ h.bz.lt).trans h.bz
 bf := (hb.block _ h.bf.lt).trans h.bf
 bn := (hb.block _ h.bn.lt).trans h.bn
 buf := h.buf.below hb
 below := h.below.trans (hb.mono h.below.size)
 sz := Nat.le_trans h.sz hb.size
theorem BufI.mono {B B' : Nat} {w : World} {v : Value} {L : List Nat} (h : BufI B w v L) (hB : B' ≤ B) : BufI B' w v L := by
 obtain ⟨hl, h | ⟨g, cap, cur, rfl, hb, h⟩⟩ := h
 ·exact ⟨hl, .inl h⟩
 ·exact ⟨hl, .inr ⟨g, cap, cur, rfl, by omega, h⟩⟩
end Go.Proofs.YtdohmokhfajjpaaGreatDoor.H

/- Parts of a file's bytes, block by block, as lists. -/
namespace Go.Proofs.YtdohmokhfajjpaaGreatDoor.H
open Go Go.RowKit

def plo (a i : Nat) : Nat := max (256 * i) a
def phi (n b i : Nat) : Nat := min (bend n i) b
def pcs (y : Nat → Nat) (n a b i : Nat) : List Nat := (List.range (phi n b i - plo a i)).map fun j => y (288 * i + 32 + (plo a i - 256 * i) + j)
def parL (y : Nat → Nat) (n a b : Nat) : List Nat := (List.range (cnt n)).flatMap (pcs y n a b)
def parP (y : Nat → Nat) (n a b : Nat) (pre : List (Fin (cnt n))) : List Nat := pre.flatMap fun i => pcs y n a b i.val
def parOK (y : Nat → Nat) (m n a b : Nat) : Bool := (List.range (cnt n)).all fun i => decide (phi n b i ≤ plo a i) || snd y m n i
def parB (y : Nat → Nat) (m n a b : Nat) (pre : List (Fin (cnt n))) : Prop := ∀ i ∈ pre, phi n b i.val ≤ plo a i.val ∨ snd y m n i.val = true
theorem pcs_len (y : Nat → Nat) (n a b i : Nat) : (pcs y n a b i).length = phi n b i - plo a i := by simp [pcs]
theorem pcs_nil (y : Nat → Nat) (n a b i : Nat) (h : phi n b i ≤ plo a i) : pcs y n a b i = [] := by unfold pcs; rw [Nat.sub_eq_zero_of_le h]; rfl
theorem parP_snoc (y : Nat → Nat) (n a b : Nat) (pre : List (Fin (cnt n))) (i : Fin (cnt n)) : parP y n a b (pre ++ [i]) = parP y n a b pre ++ pcs y n a b i.val := by simp [parP]
theorem parP_len (y : Nat → Nat) (n a b : Nat) : ∀ pre : List (Fin (cnt n)), (parP y n a b pre).length ≤ 256 * pre.length
 | [] => by simp [parP]
 | i :: pre => by
  have := parP_len y n a b pre
  have h : (pcs y n a b i.val).length ≤ 256 := by rw [pcs_len]; unfold phi plo bend; omega
  unfold parP at *
  rw [List.flatMap_cons, List.length_append, List.length_cons]; omega
theorem parP_take (y : Nat → Nat) (n a b : Nat) (hab : a ≤ b) (hbn : b ≤ n) : ∀ k, k ≤ cnt n → (parP y n a b ((List.finRange (cnt n)).take k)).length = min b (256 * k) - a
 | 0, _ => by simp [parP]
 | k + 1, hk => by
  have ih := parP_take y n a b hab hbn k (by omega)
  rw [take_snoc _ k hk, parP_snoc, List.length_append, ih, pcs_len]
  show _ + (phi n b k - plo a k) = _
  have : cnt n = (n + 255) / 256 := rfl
  unfold phi plo bend; omega
theorem fin_range (c : Nat) : (List.finRange c).map (fun i => i.val) = List.range c := by
 apply List.ext_getElem
 ·simp
 ·intro i h1 h2; simp
theorem parP_all (y : Nat → Nat) (n a b : Nat) : parP y n a b (List.finRange (cnt n)) = parL y n a b := by
 unfold parP parL
 rw [← fin_range, List.flatMap_map]
theorem parL_len (y : Nat → Nat) (n a b : Nat) (hab : a ≤ b) (hbn : b ≤ n) : (parL y n a b).length = b - a := by
 have h := parP_take y n a b hab hbn (cnt n) (Nat.le_refl _)
 rw [List.take_of_length_le (by simp), parP_all] at h
 rw [h]
 have : cnt n = (n + 255) / 256 := rfl
 omega
theorem parOK_true {y : Nat → Nat} {m n a b : Nat} (h : parB y m n a b (List.finRange (cnt n))) : parOK y m n a b = true := by
 unfold parOK
 rw [List.all_eq_true]
 intro i hi
 have := h ⟨i, List.mem_range.1 hi⟩ (List.mem_finRange _)
 simpa using this
theorem parOK_false {y : Nat → Nat} {m n a b : Nat} {i : Nat} (hi : i < cnt n) (h1 : plo a i < phi n b i) (h2 : snd y m n i = false) : parOK y m n a b = false := by
 unfold parOK
 rw [Bool.eq_false_iff]
 intro h
 rw [List.all_eq_true] at h
 have := h i (List.mem_range.2 hi)
 rw [h2] at this
 simp at this
 omega
/-- What Part tells. -/
def PartAt (w : World) (ok : Bool) (L : List Nat) (e : Ending) (w' : World) : Prop := Below w.heap.size w w' ∧
 ((ok = true ∧ ∃ g, e = .returned (.tuple #[.slice (some ⟨g, 0, none⟩) L.length L.length, .int .i64 0]) ∧ w.heap.size ≤ g ∧ RowL w' g L) ∨ (ok = false ∧ e = .returned (.tuple #[.slice none 0 0, .int .i64 14])))
end Go.Proofs.YtdohmokhfajjpaaGreatDoor.H

/- Contract of Part of package block: some bytes of a file. -/
namespace Go.Proofs.YtdohmokhfajjpaaGreatDoor.H
open Go Go.RowKit

structure PartM (w W : World) (p : Option Addr) (m c n a b : Nat) (v : Value) (L : List Nat) : Prop where
 b0 : Boxed W (w.heap.size) 22 (.slice p m c)
 b1 : Boxed W (w.heap.size + 1) 3 (.int .i64 (n : Int))
 b2 : Boxed W (w.heap.size + 1 + 1) 3 (.int .i64 (a : Int))
 b3 : Boxed W (w.heap.size + 1 + 1 + 1) 3 (.int .i64 (b : Int))
 b4 : Boxed W (w.heap.size + 1 + 1 + 1 + 1) 22 (.slice none 0 0)
 b5 : Boxed W (w.heap.size + 1 + 1 + 1 + 1 + 1) 26 (.int .i64 0)
 b7 : Boxed W (w.heap.size + 1 + 1 + 1 + 1 + 1 + 1 + 1) 22 v
 b8 : Boxed W (w.heap.size + 1 + 1 + 1 + 1 + 1 + 1 + 1 + 1) 3 (.int .i64 (n : Int))
 buf : BufL (w.heap.size + 1 + 1 + 1 + 1 + 1 + 1) W v L
 below : Below w.heap.size w W
 sz : w.heap.size + 9 ≤ W.heap.size
theorem PartM.grown {w W W' : World} {p : Option Addr} {m c n a b : Nat} {v : Value} {L : List Nat} {row : Option Nat} (h : PartM w W p m c n a b v L) (hg : W.grownBy W' row)
  (hr : ∀ r, row = some r → w.heap.size + 9 ≤ r ∧ ∃ o : Obj, W.heap[r]? = some o ∧ o.isCells = false) : PartM w W' p m c n a b v L where
 b0 := h.b0.kept hg (fun e => by have := (hr _ e.symm).1; omega)
 b1 := h.b1.kept hg (fun e => by have := (hr _ e.symm).1; omega)
 b2 := h.b2.kept hg (fun e => by have := (hr _ e.symm).1; omega)
 b3 := h.b3.kept hg (fun e => by have := (hr _ e.symm).1; omega)
 b4 := h.b4.kept hg (fun e => by have := (hr _ e.symm).1; omega)
 b5 := h.b5.kept hg (fun e => by have := (hr _ e.symm).1; omega)
 b7 := h.b7.kept hg (fun e => by have := (hr _ e.symm).1; omega)
 b8 := h.b8.kept hg (fun e => by have := (hr _ e.symm).1; omega)
 buf := h.buf.kept hg (by
  cases ho : v.ownBlock with
  | none => exact .inl rfl
  | some g =>
   refine .inr fun e => ?_
   obtain ⟨_, o, h1, h2⟩ := hr g e.symm
   rw [h.buf.cells g o ho h1] at h2; cases h2)
 below := h.below.grown hg h.below.size (fun k e => by have := (hr k e).1; omega)
 sz := Nat.le_trans h.sz hg.size
theorem PartM.on {w W W' : World} {p : Option Addr} {m c n a b : Nat} {v : Value} {L : List Nat} (h : PartM w W p m c n a b v L) (hb : Below W.heap.size W W') : PartM w W' p m c n a b v L where
 b0 := (hb.block _ h.b0.lt).trans h.b0
 b1 := (hb.block _ h.b1.lt).trans h.b1
 b2 := (hb.block _ h.b2.lt).trans h.b2
 b3 := (hb.block _ h.b3.lt).trans h.b3
 b4 := (hb.block _ h.b4.lt).trans h.b4
 b5 := (hb.block _ h.b5.lt).trans h.b5
 b7 := (hb.block _ h.b7.lt).trans h.b7
 b8 := (hb.block _ h.b8.lt).trans h.b8
 buf := h.buf.below hb
 below := h.below.trans (hb.mono h.below.size)
 sz := Nat.le_trans h.sz hb.size
theorem PartM.drewN {w W : World} {p : Option Addr} {m c n a b : Nat} {v : Value} {L : List Nat} (h : PartM w W p m c n a b v L) (k : Nat) : PartM w (W.drewN k) p m c n a b v L := h.on (Below.drewN' (Below.refl _ _) k)
def PartI (w : World) (p : Option Addr) (m c n a b : Nat) (y : Nat → Nat) (pre : List (Fin (cnt n))) (W : World) : Prop := ∃ v, PartM w W p m c n a b v (parP y n a b pre) ∧ parB y m n a b pre ∧
 ((∃ k, k ≤ cnt n ∧ pre = (List.finRange (cnt n)).take k) → v = .slice (some ⟨w.heap.size + 1 + 1 + 1 + 1 + 1 + 1, 0, none⟩) (parP y n a b pre).length (b - a))
structure PartX (w W : World) : Prop where
 b4 : Boxed W (w.heap.size + 1 + 1 + 1 + 1) 22 (.slice none 0 0)
 b5 : Boxed W (w.heap.size + 1 + 1 + 1 + 1 + 1) 26 (.int .i64 14)
 below : Below w.heap.size w W
theorem PartX.grown {w W W' : World} {row : Option Nat} (h : PartX w W) (hg : W.grownBy W' row)
  (hr : ∀ r, row = some r → w.heap.size + 9 ≤ r ∧ ∃ o : Obj, W.heap[r]? = some o ∧ o.isCells = false) : PartX w W' where
 b4 := h.b4.kept hg (fun e => by have := (hr _ e.symm).1; omega)
 b5 := h.b5.kept hg (fun e => by have := (hr _ e.symm).1; omega)
 below := h.below.grown hg h.below.size (fun k e => by have := (hr k e).1; omega)
def PartJ (w : World) (m n a b : Nat) (y : Nat → Nat) (c : Code) (_ : List (Fin (cnt n))) (W : World) : Prop := c = .ret ∧ parOK y m n a b = false ∧ PartX w W
set_option maxRecDepth 100000 in
set_option maxHeartbeats 2000000 in
theorem part_ok (p : Option Addr) (m c n a b : Nat) (y : Nat → Nat) (w : World) (hn : n ≤ 65536) (hm : m = n + 32 * cnt n) (hab : a ≤ b) (hbn : b ≤ n) (hc : m ≤ c) (hp : p = none → m = 0 ∧ c = 0) (hy : StrAt w p m y) (hb : ∀ i, i < m → y i < 256) :
  Calls Tryz.prog 91 #[.slice p m c, .int .i64 (n : Int), .int .i64 (a : Int), .int .i64 (b : Int)] w (PartAt w (parOK y m n a b) (parL y n a b)) := by
 have HY := hid hy
 have HB := hid hb
 have HP := hid hp
 have HM0 := hid hm
 have HAB := hid hab
 have HBN := hid hbn
 have hsz := szV_nat n hn
 have hse := szE_nat n hn
 rw [← hm] at hsz
 have HN : Hid (cnt n = (n + 255) / 256) := rfl
 have hm2 : m ≤ 100000 := by rw [hm, HN.out]; omega
 have t1 : ¬ (a : Int) < 0 := by omega
 have t2 : ¬ (b : Int) < (a : Int) := by omega
 have t3 : ¬ (n : Int) < (b : Int) := by omega
 have t4 : IntKind.i64.wrap ((b : Int) - (a : Int)) = ((b - a : Nat) : Int) := by rw [IntWalk.i64_in _ ⟨by omega, by omega⟩]; omega
 obtain ⟨ba, hba⟩ : ∃ ba, b - a = ba := ⟨_, rfl⟩
 rw [hba] at t4
 have hmk := run_make_cap ba (by omega)
 have HBA := hid hba
 have hba2 : ba ≤ 65536 := by omega
 clear hm hba hab hbn hy hb hp
 refine (callsIn_wide (n := 5)).1 ?_
 refine callsIn_of_wp_marks Tryz.func91 rfl trivial ?_ rfl
 refine wpIn_wide.2 ?_
 simp only [Tryz.ntmps91, List.size_toArray, List.length_cons, List.length_nil, Nat.reduceAdd, Nat.reduceSub, Array.replicate_succ, Array.replicate_zero, List.push_toArray, List.append_toArray, List.nil_append, List.cons_append]
 go_wp2_with (first
  | (go_at_call 29; refine (size_any _ _).mono ?_; rintro e w5 ⟨rfl, rfl⟩; rw [hsz, hse])
  | (go_at_call 30; refine (blocks_any _ _).mono ?_; rintro e w5 ⟨rfl, rfl⟩))
 rename_i Kx hKx
 have m0 : PartM w (((((((((w.alloc (.cells #[.slice p m c] 22)).alloc (.cells #[.int .i64 (n : Int)] 3)).alloc (.cells #[.int .i64 (a : Int)] 3)).alloc (.cells #[.int .i64 (b : Int)] 3)).alloc (.cells #[.slice none 0 0] 22)).alloc (.cells #[.int .i64 0] 26)).alloc (.cells (madeCells #[.int .u8 0] ba) 5)).alloc (.cells #[.slice (some ⟨w.heap.size + 1 + 1 + 1 + 1 + 1 + 1, 0, none⟩) 0 ba] 22)).alloc (.cells #[.int .i64 (n : Int)] 3)) p m c n a b (.slice (some ⟨w.heap.size + 1 + 1 + 1 + 1 + 1 + 1, 0, none⟩) 0 ba) [] := by
  have b0 := Boxed.new w 22 (.slice p m c)
  have b1 := Boxed.new (w.alloc (.cells #[.slice p m c] 22)) 3 (.int .i64 (n : Int))
  have b2 := Boxed.new ((w.alloc (.cells #[.slice p m c] 22)).alloc (.cells #[.int .i64 (n : Int)] 3)) 3 (.int .i64 (a : Int))
  have b3 := Boxed.new (((w.alloc (.cells #[.slice p m c] 22)).alloc (.cells #[.int .i64 (n : Int)] 3)).alloc (.cells #[.int .i64 (a : Int)] 3)) 3 (.int .i64 (b : Int))
  have b4 := Boxed.new ((((w.alloc (.cells #[.slice p m c] 22)).alloc (.cells #[.int .i64 (n : Int)] 3)).alloc (.cells #[.int .i64 (a : Int)] 3)).alloc (.cells #[.int .i64 (b : Int)] 3)) 22 (.slice none 0 0)
  have b5 := Boxed.new (((((w.alloc (.cells #[.slice p m c] 22)).alloc (.cells #[.int .i64 (n : Int)] 3)).alloc (.cells #[.int .i64 (a : Int)] 3)).alloc (.cells #[.int .i64 (b : Int)] 3)).alloc (.cells #[.slice none 0 0] 22)) 26 (.int .i64 0)
  have f6 := BufL.made ((((((w.alloc (.cells #[.slice p m c] 22)).alloc (.cells #[.int .i64 (n : Int)] 3)).alloc (.cells #[.int .i64 (a : Int)] 3)).alloc (.cells #[.int .i64 (b : Int)] 3)).alloc (.cells #[.slice none 0 0] 22)).alloc (.cells #[.int .i64 0] 26)) (w.heap.size + 1 + 1 + 1 + 1 + 1 + 1) ba (by simp) (by omega)
  have b7 := Boxed.new (((((((w.alloc (.cells #[.slice p m c] 22)).alloc (.cells #[.int .i64 (n : Int)] 3)).alloc (.cells #[.int .i64 (a : Int)] 3)).alloc (.cells #[.int .i64 (b : Int)] 3)).alloc (.cells #[.slice none 0 0] 22)).alloc (.cells #[.int .i64 0] 26)).alloc (.cells (madeCells #[.int .u8 0] ba) 5)) 22 (.slice (some ⟨w.heap.size + 1 + 1 + 1 + 1 + 1 + 1, 0, none⟩) 0 ba)
  have b8 := Boxed.new ((((((((w.alloc (.cells #[.slice p m c] 22)).alloc (.cells #[.int .i64 (n : Int)] 3)).alloc (.cells #[.int .i64 (a : Int)] 3)).alloc (.cells #[.int .i64 (b : Int)] 3)).alloc (.cells #[.slice none 0 0] 22)).alloc (.cells #[.int .i64 0] 26)).alloc (.cells (madeCells #[.int .u8 0] ba) 5)).alloc (.cells #[.slice (some ⟨w.heap.size + 1 + 1 + 1 + 1 + 1 + 1, 0, none⟩) 0 ba] 22)) 3 (.int .i64 (n : Int))
  simp only [World.size_alloc] at b1 b2 b3 b4 b5 f6 b7 b8
  refine ⟨(((((((b0.alloc _).alloc _).alloc _).alloc _).alloc _).alloc _).alloc _).alloc _, ((((((b1.alloc _).alloc _).alloc _).alloc _).alloc _).alloc _).alloc _, (((((b2.alloc _).alloc _).alloc _).alloc _).alloc _).alloc _, ((((b3.alloc _).alloc _).alloc _).alloc _).alloc _, (((b4.alloc _).alloc _).alloc _).alloc _, ((b5.alloc _).alloc _).alloc _, b7.alloc _, b8, ?_, ?_, by simp⟩
  ·exact (f6.below ((Below.refl _ _).alloc (by simp) _)).below ((Below.refl _ _).alloc (by simp) _)
  ·exact (((((((((Below.refl _ w).alloc (by simp) _).alloc (by simp) _).alloc (by simp; omega) _).alloc (by simp; omega) _).alloc (by simp; omega) _).alloc (by simp; omega) _).alloc (by simp; omega) _).alloc (by simp; omega) _).alloc (by simp; omega) _
 have hsz0 : (((((((((w.alloc (.cells #[.slice p m c] 22)).alloc (.cells #[.int .i64 (n : Int)] 3)).alloc (.cells #[.int .i64 (a : Int)] 3)).alloc (.cells #[.int .i64 (b : Int)] 3)).alloc (.cells #[.slice none 0 0] 22)).alloc (.cells #[.int .i64 0] 26)).alloc (.cells (madeCells #[.int .u8 0] ba) 5)).alloc (.cells #[.slice (some ⟨w.heap.size + 1 + 1 + 1 + 1 + 1 + 1, 0, none⟩) 0 ba] 22)).alloc (.cells #[.int .i64 (n : Int)] 3)).heap.size = w.heap.size + 9 := by simp
 generalize (((((((((w.alloc (.cells #[.slice p m c] 22)).alloc (.cells #[.int .i64 (n : Int)] 3)).alloc (.cells #[.int .i64 (a : Int)] 3)).alloc (.cells #[.int .i64 (b : Int)] 3)).alloc (.cells #[.slice none 0 0] 22)).alloc (.cells #[.int .i64 0] 26)).alloc (.cells (madeCells #[.int .u8 0] ba) 5)).alloc (.cells #[.slice (some ⟨w.heap.size + 1 + 1 + 1 + 1 + 1 + 1, 0, none⟩) 0 ba] 22)).alloc (.cells #[.int .i64 (n : Int)] 3)) = W0 at m0 hsz0 ⊢
 refine (wpIn_wide (n := 5)).1 ?_
 refine wpIn_rangeFunc_ownG rfl (by omega) (gf := 43) (lb := #[.pointer (some ⟨w.heap.size + 1 + 1 + 1 + 1 + 1 + 1 + 1 + 1, 0, none⟩)]) rfl trivial (enters_of Tryz.func43 (by kernel_rfl) rfl)
  (blocks_stops 3 (w.heap.size + 1 + 1 + 1 + 1 + 1 + 1 + 1 + 1) n hn W0 m0.b8) keepsAt_t (keepsAt_b (by omega)) (Below.refl _ _) (fun _ => rfl)
  (PartI w p m c n a b y) (PartJ w m n a b y) ?hI ?hJ ⟨_, m0, (fun _ h => by cases h), fun _ => by rw [HBA.out]; rfl⟩
  (fun i => { tmps := #[.slice p m c, .int .i64 n, .int .i64 a, .int .i64 b, .pointer (some ⟨w.heap.size, 0, none⟩), .pointer (some ⟨w.heap.size + 1, 0, none⟩), .pointer (some ⟨w.heap.size + 1 + 1, 0, none⟩), .pointer (some ⟨w.heap.size + 1 + 1 + 1, 0, none⟩), .pointer (some ⟨w.heap.size + 1 + 1 + 1 + 1, 0, none⟩), .pointer (some ⟨w.heap.size + 1 + 1 + 1 + 1 + 1, 0, none⟩), .int .i64 m, .int .i64 0, .pointer (some ⟨w.heap.size + 1 + 1 + 1 + 1 + 1 + 1 + 1, 0, none⟩), .int .i64 ((256 * i.val : Nat) : Int), .int .i64 ((bend n i.val : Nat) : Int), undef, undef, undef, .tuple #[.int .i64 m, .int .i64 0], .int .i64 n, .tuple #[.int .i64 m, .int .i64 0], .int .i64 m, .int .i64 0, .int .i64 0, .bool false, .bool false, .int .i64 a, .bool (decide ((a : Int) < 0)), .bool (decide ((a : Int) < 0)), .bool (decide ((a : Int) < 0)), .int .i64 b, .int .i64 a, .bool false, .bool (decide ((a : Int) < 0)), .bool (decide ((a : Int) < 0)), .int .i64 b, .int .i64 n, .bool false, .bool (decide ((a : Int) < 0)), .slice p m c, .int .i64 m, .int .i64 m, .bool false, .int .i64 b, .int .i64 a, .int .i64 ba, .slice (some ⟨w.heap.size + 1 + 1 + 1 + 1 + 1 + 1, 0, none⟩) 0 ba, .int .i64 n, .func (.func 43) #[] #[.pointer (some ⟨w.heap.size + 1 + 1 + 1 + 1 + 1 + 1 + 1 + 1, 0, none⟩)], .int .i64 ((256 * i.val : Nat) : Int), .int .i64 ((bend n i.val : Nat) : Int), undef, undef, undef, undef, undef, undef, undef, undef, undef, undef, undef, undef, undef, undef, undef, undef, undef, undef, undef, undef, undef, undef, undef, undef, undef, undef, undef, undef], defers := [] }) ?assign ?body ?done ?stop
 case hI =>
  rintro pre A B row ⟨v, h, h2, h3⟩ hg hr
  exact ⟨v, h.grown hg (fun r e => by rw [hsz0] at hr; exact hr r e), h2, h3⟩
 case hJ =>
  rintro cd pre A B row ⟨h1, h2, h3⟩ hg hr
  exact ⟨h1, h2, h3.grown hg (fun r e => by rw [hsz0] at hr; exact hr r e)⟩
 case assign =>
  intro l i W K hK
  unfold bEnc
  generalize 256 * i.val = q at *
  generalize bend n i.val = r at *
  refine wpIn_seq (round_list (fun _ _ h => h) (by kernel_rfl) ?_)
  go_wp2
  refine round_list (fun _ _ h => h) (by kernel_rfl) ?_
  go_wp2
  exact hK
 case body =>
  rintro l pre i W ⟨v, hM, hPB, hG⟩ hlt
  have hi := i.isLt
  have HS := hid (fun W' (hW' : Below w.heap.size w W') => sound_any p m c y n i.val W' hn hi hm2 hc (HY.out.below hW') HB.out)
  have HPB := hid hPB
  have HG := hid hG
  have HPS := hid (parP_snoc y n a b pre i)
  have HL := hid (parP_len y n a b pre)
  have HLT := hid hlt
  have HM := hid hM
  have HNIL := hid (pcs_nil y n a b i.val)
  have HOKF := hid (fun h1 h2 => @parOK_false y m n a b i.val hi h1 h2)
  have hplo : plo a i.val = max (256 * i.val) a := rfl
  have hphi : phi n b i.val = min (bend n i.val) b := rfl
  have hbd : bend n i.val = min (256 * i.val + 256) n := rfl
  have hpcs : pcs y n a b i.val = (List.range (phi n b i.val - plo a i.val)).map fun j => y (288 * i.val + 32 + (plo a i.val - 256 * i.val) + j) := rfl
  have HPB2 : Hid (phi n b i.val ≤ plo a i.val ∨ snd y m n i.val = true → parB y m n a b (pre ++ [i])) := fun h j hj => by
   rcases List.mem_append.1 hj with h' | h'
   ·exact hPB j h'
   ·rw [List.mem_singleton.1 h']; exact h
  have HPI : Hid (∀ (v' : Value) (W' : World), PartM w W' p m c n a b v' (parP y n a b (pre ++ [i])) → (phi n b i.val ≤ plo a i.val ∨ snd y m n i.val = true) → ((∃ k, k ≤ cnt n ∧ pre ++ [i] = (List.finRange (cnt n)).take k) → v' = .slice (some ⟨w.heap.size + 1 + 1 + 1 + 1 + 1 + 1, 0, none⟩) (parP y n a b (pre ++ [i])).length (b - a)) → PartI w p m c n a b y (pre ++ [i]) W') := fun v' W' h1 h2 h3 => ⟨v', h1, HPB2.out h2, h3⟩
  have HT : Hid (∀ k, k ≤ cnt n → (parP y n a b ((List.finRange (cnt n)).take k)).length = min b (256 * k) - a) := parP_take y n a b HAB.out HBN.out
  obtain ⟨q, hq⟩ : ∃ q, 256 * i.val = q := ⟨_, rfl⟩
  obtain ⟨r, hr⟩ : ∃ r, bend n i.val = r := ⟨_, rfl⟩
  obtain ⟨lo, hlo⟩ : ∃ lo, plo a i.val = lo := ⟨_, rfl⟩
  obtain ⟨hh, hhh⟩ : ∃ hh, phi n b i.val = hh := ⟨_, rfl⟩
  obtain ⟨s, hs⟩ : ∃ s, snd y m n i.val = s := ⟨_, rfl⟩
  rw [hlo, hq] at hplo
  rw [hhh, hr] at hphi
  rw [hr, hq] at hbd
  rw [hhh, hlo] at hpcs HNIL HOKF HPI
  rw [hs] at HOKF HPI HS
  rw [hq, hr] at HS
  rw [hq, hr]
  have HQ : Hid (q = 256 * i.val ∧ q < r ∧ r ≤ n ∧ r - q ≤ 256) := by
   show q = 256 * i.val ∧ q < r ∧ r ≤ n ∧ r - q ≤ 256
   have := HN.out
   omega
  have HLO : Hid (lo = max q a) := hplo
  have HHI : Hid (hh = min r b) := hphi
  have e1 : (if q < a then (a : Int) else (q : Int)) = (lo : Int) := by split <;> omega
  have e2 : (if b < r then (b : Int) else (r : Int)) = (hh : Int) := by split <;> omega
  have c6 := hM.b2.cell
  have c7 := hM.b3.cell
  clear hM hPB hG hplo hphi hbd HPB2 hlt hq hr hlo hhh hs hsz hse t1 t2 t3 t4 hmk
  refine wpIn_block (wpIn_seq (round_tail 7 (by kernel_rfl) (fun _ _ h => h) (by kernel_rfl) rfl (by kernel_rfl) ?_))
  dsimp only [List.take]
  repeat (go_big_quiet_step (fail))
  refine wpQuiet_nil ?_
  intro nr
  have HM7 := hid (HM.out.drewN nr)
  have HK := hid (keeps_below (Below.drewN' (Below.refl W.heap.size W) nr))
  clear c6 c7
  generalize W.drewN nr = W7 at *
  clear e1 e2
  go_wp2
  refine wpIn_seq (wpIn_seq (round_list (fun _ _ h => h) (by kernel_rfl) ?_))
  by_cases h5 : hh ≤ lo
  ·have t5 : (hh : Int) ≤ (lo : Int) := by omega
   go_wp2
   refine wpIn_cond_true rfl (wpIn_exit ?_)
   refine ⟨HK.out.from _, Eq.trans HM7.out.b8 (Eq.symm HM.out.b8), HPI.out v _ ?_ (.inl h5) ?_⟩
   ·rw [HPS.out, HNIL.out h5, List.append_nil]; exact HM7.out
   ·intro h
    obtain ⟨k, hk, hp1, _⟩ := take_pre h
    rw [HPS.out, HNIL.out h5, List.append_nil]
    exact HG.out ⟨k, by omega, hp1⟩
  ·have t5 : ¬ (hh : Int) ≤ (lo : Int) := by omega
   go_wp2
   refine wpIn_cond_false rfl (wpIn_skip ?_)
   have c4 := HM7.out.b0.cell
   have c5 := HM7.out.b1.cell
   refine wpIn_seq (wpIn_seq (round_list (fun _ _ h => h) (by kernel_rfl) ?_))
   go_wp2_with (go_at_call 103; refine (HS.out _ HM7.out.below).mono ?_; rintro e w5 ⟨rfl, hbw⟩; have HB5 := hid hbw; clear hbw)
   have HM5 := hid (HM7.out.on HB5.out)
   have HK5 := hid (HK.out.trans (keeps_below HB5.out))
   clear c4 c5 HB5
   cases s with
   | false =>
    refine wpIn_cond_true rfl (wpIn_seq (round_list (fun _ _ h => h) (by kernel_rfl) ?_))
    have c8 := HM5.out.b4.cell
    have f8 := HM5.out.b4.frozen
    have c9 := (HM5.out.b5.other (B' := w.heap.size + 1 + 1 + 1 + 1) (by omega) (.slice none 0 0)).cell
    have f9 := (HM5.out.b5.other (B' := w.heap.size + 1 + 1 + 1 + 1) (by omega) (.slice none 0 0)).frozen
    have HX : Hid (PartX w ((w5.setCell ⟨w.heap.size + 1 + 1 + 1 + 1, 0, none⟩ (.slice none 0 0)).setCell ⟨w.heap.size + 1 + 1 + 1 + 1 + 1, 0, none⟩ (.int .i64 14))) :=
     ⟨(HM5.out.b4.set _).other (by omega) _, (HM5.out.b5.other (by omega) _).set _, (HM5.out.below.setCell (p := ⟨w.heap.size + 1 + 1 + 1 + 1, 0, none⟩) (by show w.heap.size ≤ w.heap.size + 1 + 1 + 1 + 1; omega) _).setCell (p := ⟨w.heap.size + 1 + 1 + 1 + 1 + 1, 0, none⟩) (by show w.heap.size ≤ w.heap.size + 1 + 1 + 1 + 1 + 1; omega) _⟩
    go_wp2
    refine wpIn_ret ?_
    exact ⟨((HK5.out.trans (KeepsOthers.setCell _ _ _)).trans (KeepsOthers.setCell _ _ _)).from _, rfl, HOKF.out (by omega) (by first | rfl | trivial), HX.out⟩
   | true =>
    refine wpIn_cond_false rfl (wpIn_skip ?_)
    have hlk : lo / 256 = i.val := by have := HQ.out; have := HLO.out; have := HHI.out; omega
    obtain ⟨tt, htt⟩ : ∃ tt, lo + 32 * i.val + 32 = tt := ⟨_, rfl⟩
    obtain ⟨u, hu⟩ : ∃ u, hh - lo = u := ⟨_, rfl⟩
    obtain ⟨d, hd⟩ : ∃ d, tt + u = d := ⟨_, rfl⟩
    have hlo2 : lo ≤ 65536 := by have := HQ.out; have := HLO.out; have := HHI.out; omega
    have hdm : d ≤ m := by
     have := HQ.out; have := HLO.out; have := HHI.out; have := HM0.out; have := HN.out
     omega
    have e3 : IntKind.i64.wrap ((tt : Int) + (hh : Int)) = (tt : Int) + (hh : Int) := IntWalk.i64_in _ ⟨by omega, by omega⟩
    have e4 : IntKind.i64.wrap ((tt : Int) + (hh : Int) - (lo : Int)) = (d : Int) := by rw [IntWalk.i64_in _ ⟨by omega, by omega⟩]; omega
    have HPL : Hid (∀ W' : World, Calls Tryz.prog 104 #[.int .i64 (lo : Int)] W' fun e w' => e = .returned (.int .i64 (tt : Int)) ∧ w' = W') := fun W' => by rw [← htt]; exact place_any lo i.val hlo2 hlk W'
    obtain ⟨p2, hcut, hp2, hp3⟩ := run_cut p m c tt d (by omega) (by omega)
    have hdu : d - tt = u := by omega
    rw [hdu] at hcut
    have HS2 : Hid (∀ W', Below w.heap.size w W' → StrAt W' p2 u (fun j => y (tt + j))) := fun W' hW' => by
     have := (HY.out.below hW').cut (h := d) hc hdm hp2
     rwa [hdu] at this
    have HP2 : Hid (p2 = none → u = 0 ∧ c - tt = 0) := fun h => by have := HP.out (hp3 h); omega
    have HPC : Hid (pcs y n a b i.val = (List.range u).map fun j => y (tt + j)) := by
     show _ = _
     rw [hpcs, hu]
     apply List.map_congr_left
     intro j _
     congr 1
     have := HQ.out; have := HLO.out; omega
    have HU : Hid (u ≤ 256) := by show u ≤ 256; have := HQ.out; have := HLO.out; have := HHI.out; omega
    obtain ⟨ys, hys⟩ : ∃ ys : Nat → Nat, (fun j => y (tt + j)) = ys := ⟨_, rfl⟩
    rw [hys] at HPC HS2
    clear hlk hlo2 hp2 hp3 hys hpcs t5 h5 hd hu htt hdu
    refine wpIn_seq (round_list (fun _ _ h => h) (by kernel_rfl) ?_)
    go_wp2_with (go_at_call 104; refine (HPL.out _).mono ?_; rintro e w6 ⟨rfl, hw⟩; have h3 := hw.symm; subst h3)
    have c4 := HM5.out.b0.cell
    have c12 := HM5.out.b7.cell
    refine round_tail 9 (by kernel_rfl) (fun _ _ h => h) (by kernel_rfl) rfl (by kernel_rfl) ?_
    dsimp only [List.take]
    repeat (go_big_quiet_step (fail))
    refine wpQuiet_nil ?_
    intro nr2
    have HM8 := hid (HM5.out.drewN nr2)
    have HK8 := hid (HK5.out.trans (keeps_below (Below.drewN' (Below.refl _ _) nr2)))
    clear c4 c12
    generalize w5.drewN nr2 = W8 at *
    have hL2 : (parP y n a b pre).length ≤ 80000 := by have := HL.out; have := HLT.out; have := HN.out; omega
    obtain ⟨po, cc, W9, r8, b8, b9, f9, k9, o9, w9, fit⟩ := box_app HM8.out.b7 HM8.out.buf (by have := HM8.out.sz; omega) (by omega) p2 u (c - tt) ys (HS2.out _ HM8.out.below) HP2.out (by have := HU.out; omega)
    have HM9 : Hid (PartM w (W9.setCell ⟨w.heap.size + 1 + 1 + 1 + 1 + 1 + 1 + 1, 0, none⟩ (.slice po ((parP y n a b pre).length + u) cc)) p m c n a b (.slice po ((parP y n a b pre).length + u) cc) (parP y n a b pre ++ (List.range u).map ys)) :=
     ⟨o9 _ _ _ (by omega) (by decide) HM8.out.b0, o9 _ _ _ (by omega) (by decide) HM8.out.b1, o9 _ _ _ (by omega) (by decide) HM8.out.b2, o9 _ _ _ (by omega) (by decide) HM8.out.b3, o9 _ _ _ (by omega) (by decide) HM8.out.b4, o9 _ _ _ (by omega) (by decide) HM8.out.b5, b9, o9 _ _ _ (by omega) (by decide) HM8.out.b8, f9, HM8.out.below.trans (w9.mono (by omega)), Nat.le_trans HM8.out.sz k9.size⟩
    have HK9 := hid (HK8.out.trans k9)
    have HR8 := hid r8
    have hc8 := b8.cell
    have hf8 := b8.frozen
    have HFIT := hid fit
    clear r8 b8 b9 f9 k9 o9 w9 fit
    generalize hkk : (parP y n a b pre).length + u = kk at *
    have HKK := hid hkk
    clear hkk
    go_wp2_with (refine wpList_append_eq rfl _ _ 22 rfl _ _ rfl rfl _ _ HR8.out ?_)
    refine ⟨HK9.out.from _, Eq.trans HM9.out.b8 (Eq.symm HM.out.b8), HPI.out (.slice po kk cc) _ ?_ (.inr (by first | rfl | trivial)) ?_⟩
    ·rw [HPS.out, HPC.out]; exact HM9.out
    ·intro h
     obtain ⟨k, hk, hp1, hik⟩ := take_pre h
     have hv := HG.out ⟨k, by omega, hp1⟩
     obtain ⟨k', hk', e'⟩ := h
     have hlen := HT.out (k + 1) hk
     rw [take_snoc _ k hk, ← hp1, show (⟨k, hk⟩ : Fin (cnt n)) = i from Fin.ext hik.symm, HPS.out, HPC.out] at hlen
     simp only [List.length_append, List.length_map, List.length_range] at hlen
     have hfit := HFIT.out _ _ _ hv (by have := HKK.out; omega)
     rw [hfit.1, hfit.2, HPS.out, HPC.out]
     simp only [List.length_append, List.length_map, List.length_range]
     rw [HKK.out]
 case done =>
  rintro D ys W hD rfl ⟨v, hM, hPB, hG⟩ hK
  have hv := hG ⟨cnt n, Nat.le_refl _, (List.take_of_length_le (by simp)).symm⟩
  have hlen := parL_len y n a b HAB.out HBN.out
  rw [parP_all] at hv hM
  rw [hlen, HBA.out] at hv
  subst hv
  have hok := parOK_true hPB
  have c12 := hM.b7.cell
  have c8 := hM.b4.cell
  have f8 := hM.b4.frozen
  have b5' := hM.b5.other (B' := w.heap.size + 1 + 1 + 1 + 1) (by omega) (.slice (some ⟨w.heap.size + 1 + 1 + 1 + 1 + 1 + 1, 0, none⟩) ba ba)
  have c9 := b5'.cell
  have f9 := b5'.frozen
  have r4 : Boxed ((W.setCell ⟨w.heap.size + 1 + 1 + 1 + 1, 0, none⟩ (.slice (some ⟨w.heap.size + 1 + 1 + 1 + 1 + 1 + 1, 0, none⟩) ba ba)).setCell ⟨w.heap.size + 1 + 1 + 1 + 1 + 1, 0, none⟩ (.int .i64 0)) (w.heap.size + 1 + 1 + 1 + 1) 22 (.slice (some ⟨w.heap.size + 1 + 1 + 1 + 1 + 1 + 1, 0, none⟩) ba ba) := (hM.b4.set _).other (by omega) _
  have r5 : Boxed ((W.setCell ⟨w.heap.size + 1 + 1 + 1 + 1, 0, none⟩ (.slice (some ⟨w.heap.size + 1 + 1 + 1 + 1 + 1 + 1, 0, none⟩) ba ba)).setCell ⟨w.heap.size + 1 + 1 + 1 + 1 + 1, 0, none⟩ (.int .i64 0)) (w.heap.size + 1 + 1 + 1 + 1 + 1) 26 (.int .i64 0) := b5'.set _
  have hb2 : BufL (w.heap.size + 1 + 1 + 1 + 1 + 1 + 1) ((W.setCell ⟨w.heap.size + 1 + 1 + 1 + 1, 0, none⟩ (.slice (some ⟨w.heap.size + 1 + 1 + 1 + 1 + 1 + 1, 0, none⟩) ba ba)).setCell ⟨w.heap.size + 1 + 1 + 1 + 1 + 1, 0, none⟩ (.int .i64 0)) (.slice (some ⟨w.heap.size + 1 + 1 + 1 + 1 + 1 + 1, 0, none⟩) ba ba) (parL y n a b) :=
   (hM.buf.kept (grownBy_setCell' W (w.heap.size + 1 + 1 + 1 + 1) _) (.inr (boxed_notBuf hM.b4 (by decide) hM.buf).symm)).kept (grownBy_setCell' _ (w.heap.size + 1 + 1 + 1 + 1 + 1) _) (.inr (boxed_notBuf b5' (by decide) (hM.buf.kept (grownBy_setCell' W (w.heap.size + 1 + 1 + 1 + 1) _) (.inr (boxed_notBuf hM.b4 (by decide) hM.buf).symm))).symm)
  have hK2 : ((W.setCell ⟨w.heap.size + 1 + 1 + 1 + 1, 0, none⟩ (.slice (some ⟨w.heap.size + 1 + 1 + 1 + 1 + 1 + 1, 0, none⟩) ba ba)).setCell ⟨w.heap.size + 1 + 1 + 1 + 1 + 1, 0, none⟩ (.int .i64 0)).heap[D]? = some (.deferred (some [])) := ((KeepsOthers.setCell W ⟨w.heap.size + 1 + 1 + 1 + 1, 0, none⟩ (.slice (some ⟨w.heap.size + 1 + 1 + 1 + 1 + 1 + 1, 0, none⟩) ba ba)).trans (KeepsOthers.setCell _ ⟨w.heap.size + 1 + 1 + 1 + 1 + 1, 0, none⟩ (.int .i64 0))).same D _ hK rfl
  have hbel : Below w.heap.size w ((W.setCell ⟨w.heap.size + 1 + 1 + 1 + 1, 0, none⟩ (.slice (some ⟨w.heap.size + 1 + 1 + 1 + 1 + 1 + 1, 0, none⟩) ba ba)).setCell ⟨w.heap.size + 1 + 1 + 1 + 1 + 1, 0, none⟩ (.int .i64 0)) := (hM.below.setCell (p := ⟨w.heap.size + 1 + 1 + 1 + 1, 0, none⟩) (by show w.heap.size ≤ w.heap.size + 1 + 1 + 1 + 1; omega) _).setCell (p := ⟨w.heap.size + 1 + 1 + 1 + 1 + 1, 0, none⟩) (by show w.heap.size ≤ w.heap.size + 1 + 1 + 1 + 1 + 1; omega) _
  refine hKx _ _ ?_
  go_wp2
  refine ⟨by simp, .inl ⟨_, _, rfl, run_takeDeferred hK2, ?_⟩⟩
  generalize ((W.setCell ⟨w.heap.size + 1 + 1 + 1 + 1, 0, none⟩ (.slice (some ⟨w.heap.size + 1 + 1 + 1 + 1 + 1 + 1, 0, none⟩) ba ba)).setCell ⟨w.heap.size + 1 + 1 + 1 + 1 + 1, 0, none⟩ (.int .i64 0)) = W2 at *
  have q4 := (r4.kept (grownBy_putObj' _ D (.deferred none)) (fun e => by cases e; rw [show W2.heap[w.heap.size + 1 + 1 + 1 + 1]? = _ from r4] at hK2; cases hK2)).cell
  have q5 := (r5.kept (grownBy_putObj' _ D (.deferred none)) (fun e => by cases e; rw [show W2.heap[w.heap.size + 1 + 1 + 1 + 1 + 1]? = _ from r5] at hK2; cases hK2)).cell
  have hlb : (parL y n a b).length = ba := by rw [hlen, HBA.out]
  refine ⟨.tuple #[.slice (some ⟨w.heap.size + 1 + 1 + 1 + 1 + 1 + 1, 0, none⟩) ba ba, .int .i64 0], ?_, hbel.trans (belowK_b (w := w) (Nat.le_refl _) W2 D _ _ (by omega) hK2 rfl rfl), .inl ⟨hok, w.heap.size + 1 + 1 + 1 + 1 + 1 + 1, by rw [hlb], by omega, ?_⟩⟩
  ·simp [results, Tryz.f91, go_sem, q4, q5]
  ·have h7 : BufL (w.heap.size + 1 + 1 + 1 + 1 + 1 + 1) (W2.putObj D (.deferred none)) (.slice (some ⟨w.heap.size + 1 + 1 + 1 + 1 + 1 + 1, 0, none⟩) ba ba) (parL y n a b) := ownsRow_putObj hb2 _ hK2 rfl
   rw [← hlb] at h7
   exact h7.full
 case stop =>
  rintro D cd pre W hD _ ⟨rfl, hok, hX⟩ hK
  refine wpIn_ret ?_
  refine ⟨by simp, .inl ⟨_, _, rfl, run_takeDeferred hK, ?_⟩⟩
  have q4 := (hX.b4.kept (grownBy_putObj' _ D (.deferred none)) (fun e => by cases e; rw [show W.heap[w.heap.size + 1 + 1 + 1 + 1]? = _ from hX.b4] at hK; cases hK)).cell
  have q5 := (hX.b5.kept (grownBy_putObj' _ D (.deferred none)) (fun e => by cases e; rw [show W.heap[w.heap.size + 1 + 1 + 1 + 1 + 1]? = _ from hX.b5] at hK; cases hK)).cell
  refine ⟨.tuple #[.slice none 0 0, .int .i64 14], ?_, hX.below.trans (belowK_b (w := w) (Nat.le_refl _) W D _ _ (by omega) hK rfl rfl), .inr ⟨hok, rfl⟩⟩
  simp [results, Tryz.f91, go_sem, q4, q5]
end Go.Proofs.YtdohmokhfajjpaaGreatDoor.H

/- Part and Read of package block, of any numbers; Bad likewise. -/
namespace Go.Proofs.YtdohmokhfajjpaaGreatDoor.H
open Go Go.RowKit

def rngB (z a b : Int) : Prop := 0 ≤ z ∧ z ≤ 65536 ∧ 0 ≤ a ∧ a ≤ b ∧ b ≤ z
instance (z a b : Int) : Decidable (rngB z a b) := by unfold rngB; infer_instance
def partL (y : Nat → Nat) (m : Nat) (z a b : Int) : List Nat := if rngB z a b ∧ (m : Int) = szV z ∧ parOK y m z.toNat a.toNat b.toNat = true then parL y z.toNat a.toNat b.toNat else []
def partE (y : Nat → Nat) (m : Nat) (z a b : Int) : Int := if rngB z a b then (if (m : Int) = szV z then (if parOK y m z.toNat a.toNat b.toNat = true then 0 else 14) else 4) else 5
/-- What Part tells, of any numbers. -/
def PartU (w : World) (L : List Nat) (E : Int) (e : Ending) (w' : World) : Prop := ∃ po, e = .returned (.tuple #[.slice po L.length L.length, .int .i64 E]) ∧ Below w.heap.size w w' ∧
 ((po = none ∧ L = []) ∨ ∃ g, po = some ⟨g, 0, none⟩ ∧ w.heap.size ≤ g ∧ RowL w' g L)
theorem below6 (w : World) (o0 o1 o2 o3 o4 o5 : Obj) : Below w.heap.size w ((((((w.alloc o0).alloc o1).alloc o2).alloc o3).alloc o4).alloc o5) :=
 ((((((Below.refl _ w).alloc (by simp) _).alloc (by simp) _).alloc (by simp; omega) _).alloc (by simp; omega) _).alloc (by simp; omega) _).alloc (by simp; omega) _
set_option maxRecDepth 100000 in
set_option maxHeartbeats 1000000 in
theorem part_range (p : Option Addr) (m c : Nat) (z a b : Int) (w : World) (h : ¬ rngB z a b) :
  Calls Tryz.prog 91 #[.slice p m c, .int .i64 z, .int .i64 a, .int .i64 b] w fun e w' => e = .returned (.tuple #[.slice none 0 0, .int .i64 5]) ∧ Below w.heap.size w w' := by
 by_cases h1 : 0 ≤ z ∧ z ≤ 65536
 ·have hse : szE z = 0 := by unfold szE; rw [if_pos h1]
  by_cases h2 : a < 0
  ·go_enter Tryz.func91, Tryz.ntmps91
   go_wp2_with (go_at_call 29; refine (size_any _ _).mono ?_; rintro e w5 ⟨rfl, rfl⟩; rw [hse])
   refine ⟨rfl, .tuple #[.slice none 0 0, .int .i64 5], ?_, rfl, below6 _ _ _ _ _ _ _⟩
   simp [results, Tryz.f91, go_sem]
  ·by_cases h3 : b < a
   ·go_enter Tryz.func91, Tryz.ntmps91
    go_wp2_with (go_at_call 29; refine (size_any _ _).mono ?_; rintro e w5 ⟨rfl, rfl⟩; rw [hse])
    refine ⟨rfl, .tuple #[.slice none 0 0, .int .i64 5], ?_, rfl, below6 _ _ _ _ _ _ _⟩
    simp [results, Tryz.f91, go_sem]
   ·have h4 : z < b := by unfold rngB at h; omega
    have h2' : ¬ a < 0 := h2
    go_enter Tryz.func91, Tryz.ntmps91
    go_wp2_with (go_at_call 29; refine (size_any _ _).mono ?_; rintro e w5 ⟨rfl, rfl⟩; rw [hse])
    refine ⟨rfl, .tuple #[.slice none 0 0, .int .i64 5], ?_, rfl, below6 _ _ _ _ _ _ _⟩
    simp [results, Tryz.f91, go_sem]
 ·have hse : szE z = 5 := by unfold szE; rw [if_neg h1]
  clear h
  go_enter Tryz.func91, Tryz.ntmps91
  go_wp2_with (go_at_call 29; refine (size_any _ _).mono ?_; rintro e w5 ⟨rfl, rfl⟩; rw [hse])
  refine ⟨rfl, .tuple #[.slice none 0 0, .int .i64 5], ?_, rfl, below6 _ _ _ _ _ _ _⟩
  simp [results, Tryz.f91, go_sem]
set_option maxRecDepth 100000 in
set_option maxHeartbeats 1000000 in
theorem part_size (p : Option Addr) (m c : Nat) (z a b : Int) (w : World) (h : rngB z a b) (hm : ¬ (m : Int) = szV z) :
  Calls Tryz.prog 91 #[.slice p m c, .int .i64 z, .int .i64 a, .int .i64 b] w fun e w' => e = .returned (.tuple #[.slice none 0 0, .int .i64 4]) ∧ Below w.heap.size w w' := by
 have hse : szE z = 0 := by unfold szE; rw [if_pos ⟨h.1, h.2.1⟩]
 have h2 : ¬ a < 0 := by have := h.2.2; omega
 have h3 : ¬ b < a := by have := h.2.2; omega
 have h4 : ¬ z < b := by have := h.2.2; omega
 clear h
 go_enter Tryz.func91, Tryz.ntmps91
 go_wp2_with (go_at_call 29; refine (size_any _ _).mono ?_; rintro e w5 ⟨rfl, rfl⟩; rw [hse])
 refine ⟨rfl, .tuple #[.slice none 0 0, .int .i64 4], ?_, rfl, below6 _ _ _ _ _ _ _⟩
 simp [results, Tryz.f91, go_sem]
theorem part_any (p : Option Addr) (m c : Nat) (y : Nat → Nat) (z a b : Int) (w : World) (hc : m ≤ c) (hp : p = none → m = 0 ∧ c = 0) (hy : StrAt w p m y) (hb : ∀ i, i < m → y i < 256) :
  Calls Tryz.prog 91 #[.slice p m c, .int .i64 z, .int .i64 a, .int .i64 b] w (PartU w (partL y m z a b) (partE y m z a b)) := by
 by_cases h1 : rngB z a b
 ·by_cases h2 : (m : Int) = szV z
  ·obtain ⟨h5, h6, h7, h8, h9⟩ := h1
   obtain ⟨n, rfl⟩ : ∃ n : Nat, z = n := ⟨z.toNat, by omega⟩
   obtain ⟨a, rfl⟩ : ∃ n : Nat, a = n := ⟨a.toNat, by omega⟩
   obtain ⟨b, rfl⟩ : ∃ n : Nat, b = n := ⟨b.toNat, by omega⟩
   have hr : rngB (n : Int) a b := ⟨h5, h6, h7, h8, h9⟩
   have hm : m = n + 32 * cnt n := by rw [szV_nat n (by omega)] at h2; omega
   refine (part_ok p m c n a b y w (by omega) hm (by omega) (by omega) hc hp hy hb).mono ?_
   rintro e w' ⟨hbel, ⟨hok, g, rfl, hg, hrow⟩ | ⟨hok, rfl⟩⟩
   ·have hL : partL y m n a b = parL y n a b := by unfold partL; rw [if_pos ⟨hr, h2, hok⟩]; rfl
    have hE : partE y m n a b = 0 := by unfold partE; rw [if_pos hr, if_pos h2]; exact if_pos hok
    rw [hL, hE]
    exact ⟨_, rfl, hbel, .inr ⟨g, rfl, hg, hrow⟩⟩
   ·have hok' : ¬ parOK y m ((n : Int)).toNat ((a : Int)).toNat ((b : Int)).toNat = true := by simp [hok]
    have hL : partL y m n a b = [] := by unfold partL; rw [if_neg (fun h => hok' h.2.2)]
    have hE : partE y m n a b = 14 := by unfold partE; rw [if_pos hr, if_pos h2, if_neg hok']
    rw [hL, hE]
    exact ⟨none, rfl, hbel, .inl ⟨rfl, rfl⟩⟩
  ·have hL : partL y m z a b = [] := by unfold partL; rw [if_neg (fun h => h2 h.2.1)]
   have hE : partE y m z a b = 4 := by unfold partE; rw [if_pos h1, if_neg h2]
   rw [hL, hE]
   refine (part_size p m c z a b w h1 h2).mono ?_
   rintro e w' ⟨rfl, hbel⟩
   exact ⟨none, rfl, hbel, .inl ⟨rfl, rfl⟩⟩
 ·have hL : partL y m z a b = [] := by unfold partL; rw [if_neg (fun h => h1 h.1)]
  have hE : partE y m z a b = 5 := by unfold partE; rw [if_neg h1]
  rw [hL, hE]
  refine (part_range p m c z a b w h1).mono ?_
  rintro e w' ⟨rfl, hbel⟩
  exact ⟨none, rfl, hbel, .inl ⟨rfl, rfl⟩⟩
theorem read_any (p : Option Addr) (m c : Nat) (y : Nat → Nat) (z : Int) (w : World) (hc : m ≤ c) (hp : p = none → m = 0 ∧ c = 0) (hy : StrAt w p m y) (hb : ∀ i, i < m → y i < 256) :
  Calls Tryz.prog 78 #[.slice p m c, .int .i64 z] w (PartU w (partL y m z 0 z) (partE y m z 0 z)) := by
 have HP := hid (part_any p m c y z 0 z w hc hp hy hb)
 generalize partL y m z 0 z = L at *
 generalize partE y m z 0 z = E at *
 clear hp hy hb
 go_enter Tryz.func78, Tryz.ntmps78
 go_wp2_with (go_at_call 91; refine HP.out.mono ?_; rintro e w5 ⟨po, rfl, hx⟩; have HX := hid hx; clear hx)
 go_ret2
 exact ⟨po, rfl, HX.out⟩
end Go.Proofs.YtdohmokhfajjpaaGreatDoor.H
