/- Texts laid into one: the remark ahead of each part says what is proved there. -/
import Derived.Test.YtcbmimjjpkkoeaaQar
import Derived.Test.YtcbmimjjpkkoeaaQaa
import Derived.Test.YtcbmimjjpkkoeaaQap
import Derived.Test.YtcbmimjjpkkoeaaQaf
import Derived.Lib.SlBytesConst
import Derived.LaidEql
import Derived.Stop.Asserts
import Derived.RowKitTokens
import Derived.Laws.Externs
import Derived.Deep.QuietTactic
import Derived.BigQuiet
import Derived.Test.YtcbmimjjpkkoeaaQao
import Derived.Test.YtcbmimjjpkkoeaaQab
import Derived.Test.YtcbmimjjpkkoeaaQag
/- Contracts of Eight and Sum of the document's own answer: a number's eight bytes; the digest of bytes. -/
namespace Go.Proofs.Ytcbmimjjpkkoeaa.H
open Go Go.RowKit

def be8 (C i : Nat) : Nat := C / 2 ^ (56 - 8 * i) % 256
theorem be8_lt (C i : Nat) : be8 C i < 256 := Nat.mod_lt _ (by omega)
theorem be8_int (C k : Nat) : ((C : Nat) : Int) / 2 ^ (56 - 8 * k) % 256 = ((be8 C k : Nat) : Int) := by unfold be8; simp
def EightAt (w : World) (C : Nat) (e : Ending) (w' : World) : Prop := ∃ v, e = .returned v ∧ Buf w.heap.size w' v 8 (be8 C) ∧ Below w.heap.size w w'
/-- One byte behind a buffer. -/
theorem Buf.push {B : Nat} {w : World} {v : Value} {n : Nat} {x : Nat → Nat} (hv : Buf B w v n x) (u : Nat) (hn : n ≤ 1000000) (hB : B ≤ w.heap.size) :
    ∃ v' w', (Builtin.append_ #[68, 68] 68 #[v, .slice (some ⟨w.heap.size, 0, none⟩) 1 1]).run Try.prog (w.alloc (.cells #[.int .u8 ((u : Nat) : Int)] 5)) = .ok v' w' ∧ Buf B w' v' (n + 1) (fun i => if i < n then x i else u) ∧ Below B w w' := by
  have hb : Below w.heap.size w (w.alloc (.cells #[.int .u8 ((u : Nat) : Int)] 5)) := (Below.refl _ _).alloc (by omega) _
  have hs : StrAt (w.alloc (.cells #[.int .u8 ((u : Nat) : Int)] 5)) (some ⟨w.heap.size, 0, none⟩) 1 (fun _ => u) := .inr ⟨_, _, rfl, fun i hi => by
    have e : i = 0 := by omega
    subst e
    rw [cell_of_row _ _ _ _ 5 _ (heap_alloc_new _ _)]; rfl⟩
  obtain ⟨v', w', h1, h2, h3⟩ := (hv.below hb).app _ 1 1 _ hs (fun e => by cases e) (by omega) (Nat.le_trans hB hb.size)
  exact ⟨v', w', h1, h2, (hb.mono hB).trans h3⟩
theorem Buf.empty (B : Nat) (w : World) (hB : B ≤ w.heap.size) (x : Nat → Nat) : Buf B (w.alloc (.cells #[] 5)) (.slice (some ⟨w.heap.size, 0, none⟩) 0 0) 0 x :=
  ⟨by simp [valN], .inr ⟨w.heap.size, 0, #[], rfl, hB, heap_alloc_new _ _, by omega, by unfold maxLen; omega, rfl, by simp [valN]⟩⟩
/-- The bytes, a byte 128 and noughts. -/
def pz (n : Nat) (x : Nat → Nat) (i : Nat) : Nat := if i < n then x i else if i = n then 128 else 0
theorem pz_lt (n : Nat) (x : Nat → Nat) (hx : ∀ i, i < n → x i < 256) (i : Nat) : pz n x i < 256 := by
  unfold pz; by_cases h : i < n
  · rw [if_pos h]; exact hx i h
  · rw [if_neg h]; split <;> omega
theorem padF_lt (n : Nat) (x : Nat → Nat) (hx : ∀ i, i < n → x i < 256) (i : Nat) : padF n x i < 256 := by
  unfold padF; by_cases h : i < n
  · rw [if_pos h]; exact hx i h
  · rw [if_neg h]; split
    · omega
    · split
      · omega
      · exact Nat.mod_lt _ (by omega)
theorem pad_join (n : Nat) (x : Nat → Nat) (i : Nat) (hi : i < 64 * nbl n - 8 + 8) : (if i < 64 * nbl n - 8 then pz n x i else be8 (8 * n) (i - (64 * nbl n - 8))) = padF n x i := by
  have hq : 64 * nbl n ≤ n + 72 ∧ n + 72 < 64 * nbl n + 64 := by unfold nbl; omega
  unfold padF pz be8
  by_cases h : i < 64 * nbl n - 8
  · rw [if_pos h]
    by_cases h1 : i < n
    · rw [if_pos h1, if_pos h1]
    · rw [if_neg h1, if_neg h1]
      by_cases h2 : i = n
      · rw [if_pos h2, if_pos h2]
      · rw [if_neg h2, if_neg h2, if_pos h]
  · rw [if_neg h, if_neg (by omega), if_neg (by omega), if_neg h]
    rw [show (256 : Nat) = 2 ^ 8 by decide, ← Nat.pow_mul, show 8 * (64 * nbl n - 1 - i) = 56 - 8 * (i - (64 * nbl n - 8)) by omega]
structure RsM (w wr : World) (v : Value) (m : Nat) (f : Nat → Nat) : Prop where
  buf : Buf (w.heap.size + 1) wr v m f
  res : CAt wr w.heap.size (aB 32 zB) 26
  below : Below w.heap.size w wr
theorem RsM.size {w wr : World} {v : Value} {m : Nat} {f : Nat → Nat} (h : RsM w wr v m f) : w.heap.size + 1 ≤ wr.heap.size := h.res.lt
theorem out_byte2 (s : St) (k : Nat) (sw : BitVec 32) (h : s.get (k / 4) = sw) : wv sw / 2 ^ (24 - 8 * (k % 4)) % 256 = ((outB s k : Nat) : Int) := by
  unfold outB wv; rw [h]; simp
theorem row_setRow {w : World} {b o n g : Nat} {x : Nat → Nat} (h : RowAt w b o n x) (hne : b ≠ g) (cs : Array Value) : RowAt (w.setRow g cs) b o n x := fun i hi => by
  rw [cell_setRow_other _ _ _ _ (by exact hne)]; exact h i hi
end Go.Proofs.Ytcbmimjjpkkoeaa.H

/- Digests of bytes in slices, by lists. -/
namespace Go.Proofs.Ytcbmimjjpkkoeaa
open Go Go.RowKit

/-- The digest's 32 bytes. -/
def dig (x : List Nat) : List Nat := (List.range 32).map fun i => H.sha x.length (fun j => x.getD j 0) i
theorem dig_len (x : List Nat) : (dig x).length = 32 := by simp [dig]
theorem dig_lt (x : List Nat) : ∀ z ∈ dig x, z < 256 := fun z hz => by
  obtain ⟨i, _, rfl⟩ := List.mem_map.1 hz
  exact H.sha_lt _ _ _
theorem dig_arr (x : List Nat) : H.aB 32 (H.sha x.length fun j => x.getD j 0) = ((dig x).map u8).toArray := by
  unfold H.aB dig
  apply Array.ext
  · simp
  · intro i h1 h2
    simp [u8]
theorem BL.str {w : World} {po : Option Addr} {x : List Nat} (h : BL w po x) : H.StrAt w po x.length fun j => x.getD j 0 := by
  rcases h with rfl | ⟨b, o, e, h⟩
  · exact Or.inl rfl
  · exact Or.inr ⟨b, o, e, fun i hi => h i hi⟩
theorem get256 {x : List Nat} (h8 : ∀ z ∈ x, z < 256) (i : Nat) (hi : i < x.length) : x.getD i 0 < 256 := by
  rw [List.getD_eq_getElem?_getD, List.getElem?_eq_getElem hi]; exact h8 _ (List.getElem_mem hi)


end Go.Proofs.Ytcbmimjjpkkoeaa

/- journal.Bytes. -/
namespace Go.Proofs.Ytcbmimjjpkkoeaa
open Go Go.RowKit

theorem under5' : Try.prog.underlying 5 = some (.int .u8) := by kernel_rfl
/-- append to bytes that have no room. -/
theorem grow_buf (W : World) (g : Nat) (old : List Nat) (hold : ∀ j, j < old.length → W.cell? ⟨g, j, none⟩ = some (u8 (old.getD j 0))) (po : Option Addr) (c : Nat) (L : List Nat) (hL : BL W po L) (hne : L ≠ []) (hn : old.length + L.length ≤ 2000000) :
    ∃ v w', (Builtin.append_ #[68, 68] 68 #[.slice (some ⟨g, 0, none⟩) old.length old.length, .slice po L.length c]).run Try.prog W = .ok v w' ∧ Buf W.heap.size w' v (old ++ L) ∧ Below W.heap.size W w' := by
  obtain ⟨i0, hi0, hz0, hz1, hz2⟩ := info_parts Try.info5
  have hlen : 0 < L.length := List.length_pos_iff.2 hne
  rcases hL with h | ⟨b, o, rfl, hL⟩
  · exact absurd h hne
  have hget : ∀ (M : List Nat) (j : Nat) (v : Value), (M.map u8)[j]? = some v → j < M.length ∧ v = u8 (M.getD j 0) := fun M j v hj => by
    have hjl : j < M.length := by
      rcases Nat.lt_or_ge j M.length with q | q
      · exact q
      · rw [List.getElem?_eq_none (by simpa using q)] at hj; cases hj
    simp [hjl] at hj
    exact ⟨hjl, by rw [← hj]; simp [List.getD, hjl]⟩
  have hr := run_append_grow (P := Try.prog) W 68 68 5 i0 (.int .u8 0) Try.underlying68 hi0 hz0 ⟨g, 0, none⟩ old.length old.length (old.map u8) (by rw [hz1]; simp) (fun j v hj => by
      obtain ⟨h1, rfl⟩ := hget old j v hj
      rw [add_none, Nat.zero_add]; exact hold j h1) ⟨b, o, none⟩ L.length c (L.map u8) (by rw [hz1]; simp) (fun j v hj => by
      obtain ⟨h1, rfl⟩ := hget L j v hj
      rw [add_none]; exact hL j h1) (by omega) (by omega) (by rw [hz2]; exact growslice_fits (by omega) (by omega))
  refine ⟨_, _, hr, ⟨by simp, Or.inr ⟨W.heap.size, grownCap W (old.length + L.length) old.length 5, _, by rw [List.length_append], Nat.le_refl _, heap_alloc_new W.drew _, by rw [List.length_append]; exact grownCap_ge W _ _ _, grownCap_le_maxLen W _ _ _ (by unfold maxLen; omega), ?_, ?_⟩⟩, below_on (below_drew _) (below_al _ _)⟩
  · have := grownCap_ge W (old.length + L.length) old.length 5
    simp [Builtin.zeroCells, Value.cells]
    omega
  · have e : ((old.map u8).toArray ++ (L.map u8).toArray ++ Builtin.zeroCells (Value.int .u8 0).cells (grownCap W (old.length + L.length) old.length 5 - (old.length + L.length))).toList = (old ++ L).map u8 ++ (Builtin.zeroCells (Value.int .u8 0).cells (grownCap W (old.length + L.length) old.length 5 - (old.length + L.length))).toList := by simp
    rw [e, Nat.mul_one, List.take_left' (by simp)]
theorem zeroDg : (Try.prog.info? 26).map (·.zero) = some (some (.agg (sumC zeroD))) := by kernel_rfl
theorem underDg : Try.prog.underlying 26 = some (.array 32 5) := by kernel_rfl
theorem wpList_allocD {ops : Array Oper} {rest : List Oper} {o : Oper} {a : Act} {w : World} {Q : Exit → Act → World → Prop} (hg : o.guard = none) (ho : o.op = .alloc 26)
    (h : ∀ w1 g, CAt w1 g (sumC zeroD) 26 → Below w.heap.size w w1 → w.heap.size = g → wpList Try.prog ops Q rest (a.put o.dst (ptr g)) w1) : wpList Try.prog ops Q (o :: rest) a w := by
  refine wpList_plain hg fun _ hK => ?_
  obtain ⟨i, hq, hz'⟩ := Option.map_eq_some_iff.1 zeroDg
  unfold Oper.wp execOp
  simp only [ho, Instr.alloc, zeroValue, typeInfo, Sem.run_bind, newVar, newRow]
  generalize sumC zeroD = C at h hz'
  simp [hq, hz', Value.cells]
  exact hK _ _ (h _ _ (CAt.made _ _ _) (below_al _ _) rfl)
theorem run_storeD {w : World} {g : Nat} {x y : List Nat} (hx : x.length = 32) (hy : y.length = 32) (hb : CAt w g (sumC x) 26) : (Instr.storeAt 26 (.pointer (some ⟨g, 0, none⟩)) (.agg (sumC y))).run Try.prog w = .ok () (w.setRow g (sumC y)) ∧ CAt (w.setRow g (sumC y)) g (sumC y) 26 := by
  have e := run_storeVar_row (P := Try.prog) w g 26 26 (sumC x) (sumC y) hb (by rw [sumC_size, hy]; exact sizeD) (by rw [sumC_size, sumC_size, hx, hy]) (by rw [Array.all_eq_true_iff_forall_mem]; intro v hv; unfold sumC at hv; simp only [List.mem_toArray, List.mem_map] at hv; obtain ⟨k, _, rfl⟩ := hv; rfl)
  refine ⟨?_, setRow_heap w g (sumC x) (sumC y) _ _ hb⟩
  simp only [Instr.storeAt, Instr.sureAddr, Sem.run_bind, Sem.run_pure, Result.andThen_ok, e]
theorem wpList_storeD {ops : Array Oper} {rest : List Oper} {o : Oper} {a : Act} {w : World} {Q : Exit → Act → World → Prop} (hg : o.guard = none) (hdst : o.dst = none) (x y : Operand) (ho : o.op = .store 26 x y) (g : Nat) (hx : a.eval x = ptr g) {m n : List Nat} (hy : a.eval y = .agg (sumC n)) (hm : m.length = 32) (hn : n.length = 32) (hb : CAt w g (sumC m) 26)
    (h : ∀ w1, CAt w1 g (sumC n) 26 → Only (fun b => b = g) w w1 → wpList Try.prog ops Q rest a w1) : wpList Try.prog ops Q (o :: rest) a w := by
  refine wpList_plain hg fun _ hK => ?_
  obtain ⟨e1, e2⟩ := run_storeD hm hn hb
  unfold Oper.wp execOp
  simp only [ho, hx, hy, ptr, Sem.run_bind, e1, Result.andThen_ok, Sem.run_pure]
  refine hK (a.put o.dst undef) _ ?_
  rw [hdst]
  exact h _ e2 (only_setRow _ _ _ rfl)
theorem run_dig (g : Nat) (w : World) : (Instr.sliceAt 26 (.pointer (some ⟨g, 0, none⟩)) none none none).run Try.prog w = .ok (.slice (some ⟨g, 0, none⟩) 32 32) w := by kernel_rfl
theorem CAt.bl {w : World} {g : Nat} {x : List Nat} {t : TypeId} (h : CAt w g (sumC x) t) : BL w (some ⟨g, 0, none⟩) x := Or.inr ⟨g, 0, rfl, fun i hi => by rw [Nat.zero_add, h.cell, sumC_get hi]⟩
abbrev c3 : Array Value := #[.int .u8 83, .int .u8 74, .int .u8 49]
theorem c3_cells (w : World) (fz : Nat × Nat) : ∀ j, j < [83, 74, 49].length → (w.alloc (.cells c3 5 fz)).cell? ⟨w.heap.size, j, none⟩ = some (u8 ([83, 74, 49].getD j 0)) := fun j hj => by
  have h := heap_alloc_new w (.cells c3 5 fz)
  simp only [World.cell?, h]
  match j, hj with
  | 0, _ | 1, _ | 2, _ => rfl
theorem rsB_take {l : List Rc} {k : Nat} {x : Rc} (h : l[k]? = some x) : rsB (l.take (k + 1)) = rsB (l.take k) ++ rcB x := by
  have hk := (List.getElem?_eq_some_iff.1 h).1
  have e := (List.getElem?_eq_some_iff.1 h).2
  rw [List.take_succ_eq_append_getElem hk, e]
  simp [rsB]
theorem rsB_len {l : List Rp} (hok : ∀ x ∈ l, x.r.ok) (h : (rcs l).all okRc = true) : ∀ k, k ≤ l.length → (rsB ((rcs l).take k)).length ≤ k * 1000
  | 0, _ => by simp [rsB]
  | k + 1, hk => by
    obtain ⟨x, hx⟩ : ∃ x, l[k]? = some x := ⟨_, List.getElem?_eq_getElem (by omega)⟩
    have hxr : (rcs l)[k]? = some x.rc := by rw [rcs_get, hx]; rfl
    rw [rsB_take hxr, List.length_append]
    have := rsB_len hok h k (by omega)
    have hm := List.mem_of_getElem? hx
    have := rcB_len x.r (hok x hm) x.ps (List.all_eq_true.1 h x.rc (List.mem_of_getElem? hxr))
    have e : (rcB x.rc).length ≤ 1000 := this
    omega
theorem rsB_byte {l : List Rp} (hok : ∀ x ∈ l, x.r.ok) : ∀ z ∈ rsB (rcs l), z < 256 := fun z hz => by
  unfold rsB rcs at hz
  rw [List.map_map] at hz
  obtain ⟨b, hb, hz⟩ := List.mem_flatten.1 hz
  obtain ⟨x, hx, rfl⟩ := List.mem_map.1 hb
  exact rcB_byte x.r (hok x hx) x.ps z hz
/-- What stands ahead of the records. -/
def hdJ (s : Int) (n : Nat) : List Nat := [83, 74, 49] ++ ib s ++ nb n
theorem jBody_hd (s : Int) (l : List Rp) : jBody ⟨s, rcs l⟩ = hdJ s l.length ++ rsB (rcs l) := by unfold jBody hdJ; simp only [rcs_len]
theorem hdJ_len {s : Int} {n : Nat} (hs : s ≤ 1099511627776) (hn : n ≤ 64) : (hdJ s n).length ≤ 15 := by
  unfold hdJ
  have h1 := ib_le (n := s) (by omega)
  have h2 := nb_le (n := n) (by omega)
  simp only [List.length_append, List.length_cons, List.length_nil]
  omega
theorem hdJ_byte (s : Int) (n : Nat) : ∀ z ∈ hdJ s n, z < 256 := fun z hz => by
  unfold hdJ ib at hz
  simp only [List.mem_append, List.mem_cons, List.not_mem_nil, or_false] at hz
  rcases hz with ((rfl | rfl | rfl) | h) | h
  · decide
  · decide
  · decide
  · exact nb_byte _ z h
  · exact nb_byte _ z h
#print axioms grow_buf
end Go.Proofs.Ytcbmimjjpkkoeaa

/- errors.Is of two errors of errors.New; told. -/
namespace Go.Proofs.Ytcbmimjjpkkoeaa
open Go Go.RowKit Go.Extern.Stop Go.Stop Go.Extern


end Go.Proofs.Ytcbmimjjpkkoeaa

/- bytes.Equal, HasPrefix; what looks at a journal's sign and digest. -/
namespace Go.Proofs.Ytcbmimjjpkkoeaa
open Go Go.RowKit

theorem lst_eq_ba {A B : List Nat} (hA : ∀ z ∈ A, z < 256) (hB : ∀ z ∈ B, z < 256) : ((ba A).toList == (ba B).toList) = decide (A = B) := by
  rw [lst_beq, lst_ba hA, lst_ba hB]
theorem run_head8n (po : Option Addr) (n c h : Nat) (hh : h ≤ c) (w : World) : (Instr.slice 68 (.slice po n c) none (some (.int .i64 (h : Int))) none).run Try.prog w = .ok (.slice po h c) w := by
  rw [run_slice_h (P := Try.prog) w 68 po n c underE8 .i64 (h : Int) (by omega) (by omega), elem8]
  cases po with
  | none => simp [Result.andThen, sliced]
  | some a =>
    by_cases h0 : c = 0
    · simp [Result.andThen, sliced, h0]
    · simp [Result.andThen, sliced, h0, add_zero']
theorem len_take {L : List Nat} {k : Nat} (h : k ≤ L.length) : (L.take k).length = k := by rw [List.length_take]; omega
/-- What is left of bytes, and what was read of them so far: its cells. -/
def rC (l : Value) (n s : Int) (r : Value) : Array Value := #[l, i64 n, i64 s, r]
section


end
theorem sign_bl (w : World) (fz : Nat × Nat) : BL (w.alloc (.cells c3 5 fz)) (some ⟨w.heap.size, 0, none⟩) [83, 74, 49] := Or.inr ⟨_, _, rfl, fun i hi => by rw [Nat.zero_add]; exact c3_cells w fz i hi⟩

end Go.Proofs.Ytcbmimjjpkkoeaa

/- lookAtDigest; readNumber, readSeq, readCount. -/
namespace Go.Proofs.Ytcbmimjjpkkoeaa
open Go Go.RowKit

theorem run_from8s (b o n c l : Nat) (hl : l ≤ n) (hlt : l < c) (w : World) : (Instr.slice 68 (.slice (some ⟨b, o, none⟩) n c) (some (.int .i64 (l : Int))) none none).run Try.prog w = .ok (.slice (some ⟨b, o + l, none⟩) (n - l) (c - l)) w := by
  rw [run_slice_l (P := Try.prog) w 68 _ n c underE8 .i64 (l : Int) (by omega) (by omega), elem8]
  have e : ¬ c = l := by omega
  simp [Result.andThen, sliced, e, add_none]
theorem run_mid8s (b o n c l h : Nat) (hl : l ≤ h) (hh : h ≤ c) (hlt : l < c) (w : World) : (Instr.slice 68 (.slice (some ⟨b, o, none⟩) n c) (some (.int .i64 (l : Int))) (some (.int .i64 (h : Int))) none).run Try.prog w = .ok (.slice (some ⟨b, o + l, none⟩) (h - l) (c - l)) w := by
  rw [run_slice_lh (P := Try.prog) w 68 _ n c underE8 .i64 .i64 (l : Int) (h : Int) (by omega) (by omega) (by omega), elem8]
  have e : ¬ c = l := by omega
  simp [Result.andThen, sliced, e, add_none]
theorem CAt.r0 {w : World} {p : Nat} {l : Value} {n s : Int} {r : Value} {t : TypeId} (h : CAt w p (rC l n s r) t) (v : Value) : CAt (w.setCell ⟨p, 0, none⟩ v) p (rC v n s r) t := h.set 0 v
theorem CAt.r1 {w : World} {p : Nat} {l : Value} {n s : Int} {r : Value} {t : TypeId} (h : CAt w p (rC l n s r) t) (k : Int) : CAt (w.setCell ⟨p, 1, none⟩ (i64 k)) p (rC l k s r) t := h.set 1 _
theorem CAt.r2 {w : World} {p : Nat} {l : Value} {n s : Int} {r : Value} {t : TypeId} (h : CAt w p (rC l n s r) t) (k : Int) : CAt (w.setCell ⟨p, 2, none⟩ (i64 k)) p (rC l n k r) t := h.set 2 _
theorem CAt.r3 {w : World} {p : Nat} {l : Value} {n s : Int} {r : Value} {t : TypeId} (h : CAt w p (rC l n s r) t) (v : Value) : CAt (w.setCell ⟨p, 3, none⟩ v) p (rC l n s v) t := h.set 3 v
theorem digest_split {L : List Nat} (h : 35 ≤ L.length) : ∃ E, L.length = E + 32 ∧ 3 ≤ E := ⟨L.length - 32, by omega, by omega⟩
theorem rdU_sub {L M : List Nat} {x : Nat} (h8 : ∀ z ∈ L, z < 256) (h : rdU L = some (x, M)) : M.length ≤ L.length ∧ (∀ z ∈ M, z < 256) := by
  obtain ⟨e, _⟩ := rdU_some h8 h
  subst e
  exact ⟨by rw [List.length_append]; omega, (sub256 h8).2⟩



end Go.Proofs.Ytcbmimjjpkkoeaa

/- readRecords. -/
namespace Go.Proofs.Ytcbmimjjpkkoeaa
open Go Go.RowKit

theorem rdR_sub {L M : List Nat} {x : Rc} (h8 : ∀ z ∈ L, z < 256) (h : rdR L = some (x, M)) : M.length ≤ L.length ∧ (∀ z ∈ M, z < 256) := by
  obtain ⟨_, e⟩ := rdR_some h8 h
  subst e
  exact ⟨by rw [List.length_append]; omega, (sub256 h8).2⟩
theorem rdRs_zero (b : List Nat) : rdRs 0 b = some ([], b) := rfl
theorem rdRs_step {n : Nat} {b b' : List Nat} {r : Rc} (h : rdR b = some (r, b')) : rdRs (n + 1) b = (rdRs n b').map fun q => (r :: q.1, q.2) := by
  rw [rdRs, h]
  simp only [Option.bind_eq_bind, Option.bind_some]
  cases rdRs n b' <;> rfl
theorem rdRs_fail {n : Nat} {b : List Nat} (h : rdR b = none) : rdRs (n + 1) b = none := by rw [rdRs, h]; rfl
theorem rcs_app (l m : List Rp) : rcs (l ++ m) = rcs l ++ rcs m := by simp [rcs]

end Go.Proofs.Ytcbmimjjpkkoeaa

/- lookAtEnd; what Read needs. -/
namespace Go.Proofs.Ytcbmimjjpkkoeaa
open Go Go.RowKit

abbrev fV (k : Nat) : Value := .func (.func k) #[] #[]
theorem wpList_allocX (t : TypeId) (C : Array Value) (hz : (Try.prog.info? t).map (·.zero) = some (some (.agg C))) {ops : Array Oper} {rest : List Oper} {o : Oper} {a : Act} {w : World} {Q : Exit → Act → World → Prop} (hg : o.guard = none) (ho : o.op = .alloc t)
    (h : ∀ w1 g, CAt w1 g C t → Below w.heap.size w w1 → w.heap.size = g → wpList Try.prog ops Q rest (a.put o.dst (ptr g)) w1) : wpList Try.prog ops Q (o :: rest) a w := by
  refine wpList_plain hg fun _ hK => ?_
  obtain ⟨i, hq, hz'⟩ := Option.map_eq_some_iff.1 hz
  unfold Oper.wp execOp
  simp only [ho, Instr.alloc, zeroValue, typeInfo, Sem.run_bind, newVar, newRow]
  simp [hq, hz', Value.cells]
  exact hK _ _ (h _ _ (CAt.made _ _ _) (below_al _ _) rfl)
theorem wpList_storeX (t : TypeId) (k : Nat) (hs : (Try.prog.info? t).map (·.size) = some k) {ops : Array Oper} {rest : List Oper} {o : Oper} {a : Act} {w : World} {Q : Exit → Act → World → Prop} (hg : o.guard = none) (hdst : o.dst = none) (x y : Operand) (ho : o.op = .store t x y) (g : Nat) (hx : a.eval x = ptr g) {C D : Array Value} (hy : a.eval y = .agg D) (hC : C.size = k) (hD : D.size = k) (h1 : D.all (·.oneCell') = true) (hb : CAt w g C t)
    (h : ∀ w1, CAt w1 g D t → Only (fun b => b = g) w w1 → wpList Try.prog ops Q rest a w1) : wpList Try.prog ops Q (o :: rest) a w := by
  refine wpList_plain hg fun _ hK => ?_
  have e := run_storeVar_row (P := Try.prog) w g t t C D hb (by rw [hD]; exact hs) (by rw [hC, hD]) h1
  have e1 : (Instr.storeAt t (.pointer (some ⟨g, 0, none⟩)) (.agg D)).run Try.prog w = .ok () (w.setRow g D) := by simp only [Instr.storeAt, Instr.sureAddr, Sem.run_bind, Sem.run_pure, Result.andThen_ok, e]
  unfold Oper.wp execOp
  simp only [ho, hx, hy, ptr, Sem.run_bind, e1, Result.andThen_ok, Sem.run_pure]
  refine hK (a.put o.dst undef) _ ?_
  rw [hdst]
  exact h _ (setRow_heap w g C D _ _ hb) (only_setRow _ _ _ rfl)

end Go.Proofs.Ytcbmimjjpkkoeaa

/- Large. -/
namespace Go.Proofs.Ytcbmimjjpkkoeaa
open Go Go.RowKit

theorem zR_size : zR.cs.size = 42 := zR_ok.size
theorem zeroR8 : (Try.prog.info? 29).map (·.zero) = some (some (.agg zR.cs)) := zeroR
theorem up_at8 {r : Rv} (h : r.sum.length = 32) : r.cs[41]? = some (.string r.up) := by
  unfold Rv.cs
  rw [Array.getElem?_append_right (by simp), Array.getElem?_append_right (by rw [sumC_size, h]; simp), sumC_size, h]
  rfl
/-- The cells of a record's block that Large reads. -/
theorem box8 {w : World} {g : Nat} {r : Rv} (hs : r.sum.length = 32) (h : CAt w g r.cs 29) : w.cell? ⟨g, 0, none⟩ = some (.string r.id) ∧ w.cell? ⟨g, 4, none⟩ = some (.string r.etag) ∧ w.cell? ⟨g, 7, none⟩ = some (.string r.data) ∧ w.cell? ⟨g, 40, none⟩ = some r.pv ∧ w.cell? ⟨g, 41, none⟩ = some (.string r.up) :=
  ⟨by rw [h.cell, r.get8 0 (by omega)]; rfl, by rw [h.cell, r.get8 4 (by omega)]; rfl, by rw [h.cell, r.get8 7 (by omega)]; rfl, by rw [h.cell, pv_at8 hs], by rw [h.cell, up_at8 hs]⟩
theorem any_take {l : List Rp} {k : Nat} {x : Rp} (hx : l[k]? = some x) : (l.take (k + 1)).any bigP = ((l.take k).any bigP || bigP x) := by
  rw [List.take_add_one, hx]
  simp
theorem bigJ_of {l : List Rp} {k : Nat} {x : Rp} (hx : l[k]? = some x) (hb : bigP x = true) : bigJ l = true := by
  unfold bigJ
  rw [show l.any bigP = true from List.any_eq_true.2 ⟨x, List.mem_of_getElem? hx, hb⟩]
  rfl
set_option maxRecDepth 100000 in
set_option maxHeartbeats 4000000 in
theorem Large_any (s : Int) (v : Value) (l : List Rp) (w : World) (hl : IsJ w v l) : Calls Try.prog 4 #[.agg (jC s v)] w fun e w' => e = .returned (.bool (bigJ l)) ∧ Below w.heap.size w w' := by
  obtain ⟨R, hR⟩ : ∃ R : Bool, bigJ l = R := ⟨_, rfl⟩
  rw [hR]
  have HRR := hid hR
  clear hR
  obtain ⟨po, c, rfl, hc1, hcm, hz, hcell, heach⟩ := hl
  have HE := hid heach
  have HC := hid hcell
  have hlm : (l.length : Int) ≤ 9223372036854775807 := by have : l.length ≤ maxLen := Nat.le_trans hc1 hcm; unfold maxLen at this; omega
  clear heach hcell hcm hz hc1
  go_enter Try.func4, Try.ntmps4
  go_wp2_with ((with_reducible refine wpList_boxT 24 rfl _ rfl (jC s (.slice po l.length c)) ?_ ?_); exact rfl; intro w1 g1 hc1 hb1 hg1; have c0 := hc1.j0; have c1 := hc1.j1; have HJ := hid hc1; have HB := hid hb1; clear hb1 hc1)
  go_loopg [3] l.length (fun gg s3 wr => ∃ kk : Nat, kk ≤ l.length ∧ l.length - kk ≤ gg ∧ s3 = i64 kk ∧ Hid (Below w1.heap.size w1 wr) ∧ Hid ((l.take kk).any bigP = false))
  case atStart => exact ⟨0, Nat.zero_le _, by omega, rfl, Below.refl _ _, rfl⟩
  case round =>
    obtain ⟨kk, hkk, hg, rfl, BW, A⟩ := hrel
    clear c0 c1
    have c1 := (HJ.out.below BW.out).j1
    by_cases hlt : kk < l.length
    · have hltz : (kk : Int) < (l.length : Int) := by omega
      obtain ⟨x, hx⟩ : ∃ x, l[kk]? = some x := ⟨_, List.getElem?_eq_getElem hlt⟩
      have hxm := List.mem_of_getElem? hx
      obtain ⟨b, o, hpo, hcells⟩ : ∃ b o, po = some ⟨b, o, none⟩ ∧ RCells w b o l := by
        rcases HC.out with h | h
        · rw [h] at hlt; simp at hlt
        · exact h
      subst hpo
      have BW0 := hid (below_on HB.out BW.out)
      have hcw : RCells wr b o l := hcells.keep fun a ha => World.cell?_of_block (BW0.out.block a.block (cell_lt' ha))
      have HR : Hid (∀ j u, x.r.cs[j]? = some u → wr.cell? ⟨b, o + kk * 42 + j, none⟩ = some u) := hid (hcw kk x hx)
      obtain ⟨pp, cp, hpv, _⟩ := (HE.out x hxm).parts
      have HSL := hid (HE.out x hxm).sl
      have HX := hid hx
      have hone : x.r.pv.oneCell' = true := by rw [hpv]; rfl
      have HALL : Hid (x.r.cs.all (·.oneCell') = true) := hid (by rw [Array.all_eq_true']; intro u hu; exact x.r.cs_one hone u (by simpa using hu))
      have HPV := hid hpv
      have HA2 := hid (any_take HX.out)
      rw [A.out] at HA2
      clear hcells hcw hx hxm hpv hone
      generalize hrr : x.r.cs = CS at HR HALL
      have HRS := hid hrr
      have HSZ : Hid (CS.size = 42) := hid (by rw [← hrr]; exact cs_size8 HSL.out)
      clear hrr
      obtain ⟨n, hn⟩ : ∃ n, x.ps.length = n := ⟨_, rfl⟩
      obtain ⟨q1, hq1⟩ : ∃ q, x.r.id = q := ⟨_, rfl⟩
      obtain ⟨q2, hq2⟩ : ∃ q, x.r.etag = q := ⟨_, rfl⟩
      obtain ⟨q3, hq3⟩ : ∃ q, x.r.data = q := ⟨_, rfl⟩
      obtain ⟨q4, hq4⟩ : ∃ q, x.r.up = q := ⟨_, rfl⟩
      have HBX : Hid (∀ W g, CAt W g CS 29 → W.cell? ⟨g, 0, none⟩ = some (.string q1) ∧ W.cell? ⟨g, 4, none⟩ = some (.string q2) ∧ W.cell? ⟨g, 7, none⟩ = some (.string q3) ∧ W.cell? ⟨g, 40, none⟩ = some (.slice pp n cp) ∧ W.cell? ⟨g, 41, none⟩ = some (.string q4)) := hid fun W g h => by
        rw [← HRS.out] at h
        have := box8 HSL.out h
        rwa [HPV.out, hq1, hq2, hq3, hq4, hn] at this
      have HBIG : Hid (bigP x = (decide (100 < n) || decide (1000 < q1.size) || decide (1000 < q2.size) || decide (1000 < q3.size) || decide (1000 < q4.size))) := hid (by unfold bigP; rw [hq1, hq2, hq3, hq4, hn])
      clear hq1 hq2 hq3 hq4 hn HSL HPV HRS
      by_cases x0 : 100 < n
      · have y0 : 100 < (n : Int) := by omega
        go_wp2_with (first
          | ((with_reducible refine wpList_load_at 29 _ rfl ?_ b (o + kk * 42) ?_ CS (.struct (Try.prog.fieldsOf 29)) HR.out underRec rfl ?_ ?_); exact rfl; exact rfl; (rw [HSZ.out]; exact sizeR))
          | ((with_reducible refine wpList_allocR rfl rfl ?_); intro w2 g2 hz2 hb2 hg2; have HZ := hid hz2; have HB2 := hid hb2; have HG2 := hid hg2; clear hz2 hb2 hg2)
          | ((with_reducible refine wpList_storeX 29 42 sizeR rfl rfl _ _ rfl g2 ?_ (C := zR.cs) (D := CS) ?_ zR_size HSZ.out HALL.out HZ.out.at_ ?_); exact rfl; exact rfl; intro w3 h3 o3; have hbo := below_tr HB2.out (o3.below HB2.out.size (fun i e => by have := HG2.out; omega)); have HW3 := hid (below_on BW.out hbo); obtain ⟨d0, d4, d7, d40, d41⟩ := HBX.out _ _ h3; have j1 := (HJ.out.below HW3.out).j1; clear h3 o3 hbo))
        go_ret
        refine ⟨?_, below_on HB.out HW3.out⟩
        rw [← HRR.out, bigJ_of HX.out (by rw [HBIG.out]; simp [x0])]
        rfl
      have y0 : ¬ 100 < (n : Int) := by omega
      by_cases x1 : 1000 < q1.size
      · have y1 : 1000 < (q1.size : Int) := by omega
        go_wp2_with (first
          | ((with_reducible refine wpList_load_at 29 _ rfl ?_ b (o + kk * 42) ?_ CS (.struct (Try.prog.fieldsOf 29)) HR.out underRec rfl ?_ ?_); exact rfl; exact rfl; (rw [HSZ.out]; exact sizeR))
          | ((with_reducible refine wpList_allocR rfl rfl ?_); intro w2 g2 hz2 hb2 hg2; have HZ := hid hz2; have HB2 := hid hb2; have HG2 := hid hg2; clear hz2 hb2 hg2)
          | ((with_reducible refine wpList_storeX 29 42 sizeR rfl rfl _ _ rfl g2 ?_ (C := zR.cs) (D := CS) ?_ zR_size HSZ.out HALL.out HZ.out.at_ ?_); exact rfl; exact rfl; intro w3 h3 o3; have hbo := below_tr HB2.out (o3.below HB2.out.size (fun i e => by have := HG2.out; omega)); have HW3 := hid (below_on BW.out hbo); obtain ⟨d0, d4, d7, d40, d41⟩ := HBX.out _ _ h3; have j1 := (HJ.out.below HW3.out).j1; clear h3 o3 hbo))
        go_ret
        refine ⟨?_, below_on HB.out HW3.out⟩
        rw [← HRR.out, bigJ_of HX.out (by rw [HBIG.out]; simp [x1])]
        rfl
      have y1 : ¬ 1000 < (q1.size : Int) := by omega
      by_cases x2 : 1000 < q2.size
      · have y2 : 1000 < (q2.size : Int) := by omega
        go_wp2_with (first
          | ((with_reducible refine wpList_load_at 29 _ rfl ?_ b (o + kk * 42) ?_ CS (.struct (Try.prog.fieldsOf 29)) HR.out underRec rfl ?_ ?_); exact rfl; exact rfl; (rw [HSZ.out]; exact sizeR))
          | ((with_reducible refine wpList_allocR rfl rfl ?_); intro w2 g2 hz2 hb2 hg2; have HZ := hid hz2; have HB2 := hid hb2; have HG2 := hid hg2; clear hz2 hb2 hg2)
          | ((with_reducible refine wpList_storeX 29 42 sizeR rfl rfl _ _ rfl g2 ?_ (C := zR.cs) (D := CS) ?_ zR_size HSZ.out HALL.out HZ.out.at_ ?_); exact rfl; exact rfl; intro w3 h3 o3; have hbo := below_tr HB2.out (o3.below HB2.out.size (fun i e => by have := HG2.out; omega)); have HW3 := hid (below_on BW.out hbo); obtain ⟨d0, d4, d7, d40, d41⟩ := HBX.out _ _ h3; have j1 := (HJ.out.below HW3.out).j1; clear h3 o3 hbo))
        go_ret
        refine ⟨?_, below_on HB.out HW3.out⟩
        rw [← HRR.out, bigJ_of HX.out (by rw [HBIG.out]; simp [x2])]
        rfl
      have y2 : ¬ 1000 < (q2.size : Int) := by omega
      by_cases x3 : 1000 < q3.size
      · have y3 : 1000 < (q3.size : Int) := by omega
        go_wp2_with (first
          | ((with_reducible refine wpList_load_at 29 _ rfl ?_ b (o + kk * 42) ?_ CS (.struct (Try.prog.fieldsOf 29)) HR.out underRec rfl ?_ ?_); exact rfl; exact rfl; (rw [HSZ.out]; exact sizeR))
          | ((with_reducible refine wpList_allocR rfl rfl ?_); intro w2 g2 hz2 hb2 hg2; have HZ := hid hz2; have HB2 := hid hb2; have HG2 := hid hg2; clear hz2 hb2 hg2)
          | ((with_reducible refine wpList_storeX 29 42 sizeR rfl rfl _ _ rfl g2 ?_ (C := zR.cs) (D := CS) ?_ zR_size HSZ.out HALL.out HZ.out.at_ ?_); exact rfl; exact rfl; intro w3 h3 o3; have hbo := below_tr HB2.out (o3.below HB2.out.size (fun i e => by have := HG2.out; omega)); have HW3 := hid (below_on BW.out hbo); obtain ⟨d0, d4, d7, d40, d41⟩ := HBX.out _ _ h3; have j1 := (HJ.out.below HW3.out).j1; clear h3 o3 hbo))
        go_ret
        refine ⟨?_, below_on HB.out HW3.out⟩
        rw [← HRR.out, bigJ_of HX.out (by rw [HBIG.out]; simp [x3])]
        rfl
      have y3 : ¬ 1000 < (q3.size : Int) := by omega
      by_cases x4 : 1000 < q4.size
      · have y4 : 1000 < (q4.size : Int) := by omega
        go_wp2_with (first
          | ((with_reducible refine wpList_load_at 29 _ rfl ?_ b (o + kk * 42) ?_ CS (.struct (Try.prog.fieldsOf 29)) HR.out underRec rfl ?_ ?_); exact rfl; exact rfl; (rw [HSZ.out]; exact sizeR))
          | ((with_reducible refine wpList_allocR rfl rfl ?_); intro w2 g2 hz2 hb2 hg2; have HZ := hid hz2; have HB2 := hid hb2; have HG2 := hid hg2; clear hz2 hb2 hg2)
          | ((with_reducible refine wpList_storeX 29 42 sizeR rfl rfl _ _ rfl g2 ?_ (C := zR.cs) (D := CS) ?_ zR_size HSZ.out HALL.out HZ.out.at_ ?_); exact rfl; exact rfl; intro w3 h3 o3; have hbo := below_tr HB2.out (o3.below HB2.out.size (fun i e => by have := HG2.out; omega)); have HW3 := hid (below_on BW.out hbo); obtain ⟨d0, d4, d7, d40, d41⟩ := HBX.out _ _ h3; have j1 := (HJ.out.below HW3.out).j1; clear h3 o3 hbo))
        go_ret
        refine ⟨?_, below_on HB.out HW3.out⟩
        rw [← HRR.out, bigJ_of HX.out (by rw [HBIG.out]; simp [x4])]
        rfl
      have y4 : ¬ 1000 < (q4.size : Int) := by omega
      go_wp2_with (first
          | ((with_reducible refine wpList_load_at 29 _ rfl ?_ b (o + kk * 42) ?_ CS (.struct (Try.prog.fieldsOf 29)) HR.out underRec rfl ?_ ?_); exact rfl; exact rfl; (rw [HSZ.out]; exact sizeR))
          | ((with_reducible refine wpList_allocR rfl rfl ?_); intro w2 g2 hz2 hb2 hg2; have HZ := hid hz2; have HB2 := hid hb2; have HG2 := hid hg2; clear hz2 hb2 hg2)
          | ((with_reducible refine wpList_storeX 29 42 sizeR rfl rfl _ _ rfl g2 ?_ (C := zR.cs) (D := CS) ?_ zR_size HSZ.out HALL.out HZ.out.at_ ?_); exact rfl; exact rfl; intro w3 h3 o3; have hbo := below_tr HB2.out (o3.below HB2.out.size (fun i e => by have := HG2.out; omega)); have HW3 := hid (below_on BW.out hbo); obtain ⟨d0, d4, d7, d40, d41⟩ := HBX.out _ _ h3; have j1 := (HJ.out.below HW3.out).j1; clear h3 o3 hbo))
      go_roundg (l.length - (kk + 1))
      case measure => omega
      case rel =>
        refine ⟨kk + 1, by omega, by omega, by go_num, HW3.out, ?_⟩
        show _ = _
        rw [HA2.out, HBIG.out]
        simp [x0, x1, x2, x3, x4]
    · have hltz : ¬ (kk : Int) < (l.length : Int) := by omega
      have hA : l.any bigP = false := by have := A.out; rwa [List.take_of_length_le (by omega)] at this
      have hR2 : decide ((70 : Int) < (l.length : Int)) = R := by
        rw [← HRR.out]; unfold bigJ; rw [hA, Bool.false_or]; exact decide_eq_decide.2 (by omega)
      have HR2 := hid hR2
      clear hR2
      go_wp2
      go_ret
      refine ⟨?_, below_on HB.out BW.out⟩
      rw [← HR2.out]
      rfl
#print axioms Large_any
end Go.Proofs.Ytcbmimjjpkkoeaa

/- Pick; sealed; the bytes of a journal. -/
namespace Go.Proofs.Ytcbmimjjpkkoeaa
open Go Go.RowKit

def pkN (x : Int) (n : Nat) : Nat := if x.tmod n < 0 then (x.tmod n + n).toNat else (x.tmod n).toNat
theorem tmod_lo (x : Int) (n : Nat) (h : 1 ≤ n) : -(n : Int) < x.tmod n := by
  have := Int.tmod_lt_of_pos (-x) (b := (n : Int)) (by omega)
  rw [Int.neg_tmod] at this; omega
theorem pkN_lt (x : Int) (n : Nat) (h : 1 ≤ n) : pkN x n < n := by
  have b1 := Int.tmod_lt_of_pos x (b := (n : Int)) (by omega)
  have b2 := tmod_lo x n h
  unfold pkN; split <;> omega
/-- Are the last 32 bytes the digest of those ahead? -/
def sealB (L : List Nat) : Bool := decide (32 ≤ L.length) && decide (dig (L.take (L.length - 32)) = L.drop (L.length - 32))
theorem seal_rd {L : List Nat} (h : (rdJ dig L).1 = 0) : sealB L = true := by
  unfold rdJ at h
  by_cases h1 : L.length < 35 ∨ L.take 3 ≠ [83, 74, 49]
  · rw [if_pos h1] at h; cases h
  · rw [if_neg h1] at h
    by_cases h2 : dig (L.take (L.length - 32)) = L.drop (L.length - 32)
    · unfold sealB
      rw [decide_eq_true h2, decide_eq_true (show 32 ≤ L.length by omega)]; rfl
    · simp [h2] at h
theorem jB_len8 {w : World} {v : Value} {s : Int} {l : List Rp} (hl : RL w v l) (h : okJ ⟨s, rcs l⟩ = true) : 35 ≤ (jB dig ⟨s, rcs l⟩).length ∧ (jB dig ⟨s, rcs l⟩).length ≤ 100000 ∧ ∀ z ∈ jB dig ⟨s, rcs l⟩, z < 256 := by
  obtain ⟨k1, k2, k3, k4, _⟩ := okJ_parts h
  simp only [rcs_len] at k1 k2 k3 k4
  have h1 := rsB_len hl.ok k4 l.length (Nat.le_refl _)
  rw [List.take_of_length_le (by rw [rcs_len]; exact Nat.le_refl _)] at h1
  have h2 := hdJ_len (s := s) (n := l.length) (by omega) k3
  have h3 : (jB dig ⟨s, rcs l⟩).length = (hdJ s l.length).length + (rsB (rcs l)).length + 32 := by
    unfold jB; rw [List.length_append, dig_len, jBody_hd, List.length_append]
  have h4 : 3 ≤ (hdJ s l.length).length := by unfold hdJ; simp only [List.length_append, List.length_cons, List.length_nil]; omega
  refine ⟨by omega, by omega, fun z hz => ?_⟩
  unfold jB at hz
  rcases List.mem_append.1 hz with hz | hz
  · rw [jBody_hd] at hz
    rcases List.mem_append.1 hz with hz | hz
    · exact hdJ_byte _ _ z hz
    · exact rsB_byte hl.ok z hz
  · exact dig_lt _ z hz

end Go.Proofs.Ytcbmimjjpkkoeaa

/- The chapter's journal, reckoned. -/
namespace Go.Proofs.Ytcbmimjjpkkoeaa
open Go

/-- The mark null at a moment. -/
def mkN (t : Int) : Rc := ⟨[110, 117, 108, 108], t, true, 0, [], 0, 0, [], zeroD, [], []⟩
def oneJ : Jr := ⟨1, [mkN 5]⟩
theorem one_ok : okJ oneJ = true := by decide +kernel
theorem one_body : jBody oneJ = [83, 74, 49, 1, 1, 4, 110, 117, 108, 108, 5, 1] := by decide +kernel
theorem one_len : (jB dig oneJ).length = 44 := by
  unfold jB
  rw [List.length_append, dig_len, one_body]
  rfl
theorem one_back : rdJ dig (jB dig oneJ) = (0, some oneJ) := rdJ_jB dig_len one_ok
theorem one_43 : rdJ dig ((jB dig oneJ).take 43) = (14, none) := by decide +kernel
theorem one_turned : rdJ dig ((jB dig oneJ).set 9 109) = (14, none) := by decide +kernel
theorem none_34 : rdJ dig (List.replicate 34 0) = (4, none) := by decide +kernel
theorem none_35 : rdJ dig (List.replicate 35 0) = (4, none) := by decide +kernel
theorem one_add : addJ oneJ (mkN 9) = (0, some ⟨2, [mkN 9]⟩) := by decide +kernel
theorem one_rem : remJ oneJ [110, 117, 108, 108] = (0, some ⟨2, []⟩) := by decide +kernel
theorem one_remx : remJ oneJ [120] = (6, none) := by decide +kernel
theorem one_new : newJ ⟨2, []⟩ = (6, none) := by decide +kernel
theorem zero_add : addJ ⟨0, []⟩ (mkN 1) = (0, some ⟨1, [mkN 1]⟩) := by decide +kernel
#print axioms one_43
#print axioms one_turned
end Go.Proofs.Ytcbmimjjpkkoeaa

/- The chapter's journal: mark, one. -/
namespace Go.Proofs.Ytcbmimjjpkkoeaa
open Go Go.RowKit

def nul : ByteArray := ⟨#[110, 117, 108, 108]⟩
/-- The mark null at a moment, in memory. -/
def xM (t : Int) : Rp := ⟨mkR nul t, []⟩
theorem xM_rc (t : Int) : (xM t).rc = mkN t := by
  show Rv.rc (mkR nul t) [] = mkN t
  unfold Rv.rc mkR mkN
  congr 1
theorem nul_size : nul.size = 4 := rfl
theorem xM_ok (t : Int) : (xM t).r.ok := mkR_ok (by rw [nul_size]; omega)
theorem xM_at (t : Int) (w : World) : RpOk w (xM t) := ⟨xM_ok t, PL.nil w, fun n c e => by cases e; rfl⟩
theorem built_nul (t : Int) : Try.prog.built 29 [(0, .string nul), (1, i64 t), (2, .bool true)] = some (mkR nul t).cs := built_mark nul t
/-- The examples' journal, in memory. -/
def One1 (w : World) (e : Ending) (w' : World) : Prop := ∃ g, e = .returned (.agg (jC 1 (.slice (some ⟨g, 0, none⟩) 1 1))) ∧ RL w' (.slice (some ⟨g, 0, none⟩) 1 1) [xM 5] ∧ Below w.heap.size w w'
theorem rcs_one : rcs [xM 5] = [mkN 5] := by show [(xM 5).rc] = _; rw [xM_rc]

end Go.Proofs.Ytcbmimjjpkkoeaa

/- journal.Bytes: the walks. -/
namespace Go.Proofs.Ytcbmimjjpkkoeaa
open Go Go.RowKit

theorem Buf.form3 {B : Nat} {w : World} {v : Value} {L : List Nat} (h : Buf B w v L) : ∃ po n cc, v = .slice po n cc := by obtain ⟨p, c, e⟩ := h.form; exact ⟨p, _, c, e⟩
/-- Behind what was made so far. -/
structure B2 (w : World) (g1 : Nat) (s : Int) (v : Value) (W : World) : Prop where
  below : Below w.heap.size w W
  cj : CAt W g1 (jC s v) 24
theorem B2.on {w W W' : World} {g1 : Nat} {s : Int} {v : Value} (h : B2 w g1 s v W) (hb : Below W.heap.size W W') : B2 w g1 s v W' := ⟨below_on h.below hb, h.cj.below hb⟩
/-- The loop: so many records have been written behind the head. -/
structure BI (w1 : World) (s : Int) (n : Nat) (rs : List Rc) (k : Nat) (v : Value) (W : World) : Prop where
  below : Below w1.heap.size w1 W
  buf : Buf w1.heap.size W v (hdJ s n ++ rsB (rs.take k))
def BytE (w : World) (L : List Nat) (e : Ending) (w' : World) : Prop := ∃ v, e = .returned (.tuple #[v, i64 0]) ∧ Buf w.heap.size w' v L ∧ Below w.heap.size w w'
theorem BI.app {w1 W W1 : World} {s : Int} {n : Nat} {rs : List Rc} {k : Nat} {v : Value} (h : BI w1 s n rs k v W) (hb : Below W.heap.size W W1) {x : Rc} (hx : rs[k]? = some x) {po : Option Addr} (hbl : BL W1 po (rcB x)) (hz : po = none → (rcB x).length = 0) (hn : (hdJ s n ++ rsB (rs.take k)).length + (rcB x).length ≤ 2000000) :
    ∃ v' W2, (Builtin.append_ #[68, 68] 68 #[v, .slice po (rcB x).length (rcB x).length]).run Try.prog W1 = .ok v' W2 ∧ BI w1 s n rs (k + 1) v' W2 := by
  obtain ⟨v', W2, hr, hb2, hg⟩ := (h.buf.below hb).app po (rcB x).length (rcB x) hbl hz hn (Nat.le_trans h.below.size hb.size)
  refine ⟨v', W2, hr, below_grown (below_on h.below hb) hg (Nat.le_refl _) (fun b e => (own_ge h.buf b e).1), ?_⟩
  rw [rsB_take hx, ← List.append_assoc]; exact hb2

end Go.Proofs.Ytcbmimjjpkkoeaa

/- journal.Read. -/
namespace Go.Proofs.Ytcbmimjjpkkoeaa
open Go Go.RowKit

theorem rdJ_sign {L : List Nat} (h : L.length < 35 ∨ L.take 3 ≠ [83, 74, 49]) : rdJ dig L = (4, none) := by unfold rdJ; rw [if_pos h]
theorem rdJ_dig {L : List Nat} (h : ¬ (L.length < 35 ∨ L.take 3 ≠ [83, 74, 49])) (h2 : dig (L.take (L.length - 32)) ≠ L.drop (L.length - 32)) : rdJ dig L = (14, none) := by unfold rdJ; rw [if_neg h, if_pos h2]
theorem rdJ_mid {L : List Nat} (h : ¬ (L.length < 35 ∨ L.take 3 ≠ [83, 74, 49])) (h2 : ¬ dig (L.take (L.length - 32)) ≠ L.drop (L.length - 32)) : rdJ dig L = match rdMid ((L.take (L.length - 32)).drop 3) with | some j => if okJ j then (0, some j) else (4, none) | none => (4, none) := by unfold rdJ; rw [if_neg h, if_neg h2]; rfl
theorem rdMid_u1 {b : List Nat} (h : rdU b = none) : rdMid b = none := by unfold rdMid; rw [h]; rfl
theorem rdMid_u2 {b b1 : List Nat} {x : Nat} (h : rdU b = some (x, b1)) (h2 : rdU b1 = none) : rdMid b = none := by unfold rdMid; rw [h]; simp only [Option.bind_eq_bind, Option.bind_some]; rw [h2]; rfl
theorem rdMid_n {b b1 b2 : List Nat} {x n : Nat} (h : rdU b = some (x, b1)) (h2 : rdU b1 = some (n, b2)) (hn : 64 < n) : rdMid b = none := by unfold rdMid; rw [h]; simp only [Option.bind_eq_bind, Option.bind_some]; rw [h2]; simp only [Option.bind_some]; rw [if_pos hn]
theorem rdMid_r {b b1 b2 : List Nat} {x n : Nat} (h : rdU b = some (x, b1)) (h2 : rdU b1 = some (n, b2)) (hn : ¬ 64 < n) (h3 : rdRs n b2 = none) : rdMid b = none := by unfold rdMid; rw [h]; simp only [Option.bind_eq_bind, Option.bind_some]; rw [h2]; simp only [Option.bind_some]; rw [if_neg hn, h3]; rfl
theorem rdMid_e {b b1 b2 N : List Nat} {x n : Nat} {rs : List Rc} (h : rdU b = some (x, b1)) (h2 : rdU b1 = some (n, b2)) (hn : ¬ 64 < n) (h3 : rdRs n b2 = some (rs, N)) : rdMid b = if N = [] then some ⟨x, rs⟩ else none := by unfold rdMid; rw [h]; simp only [Option.bind_eq_bind, Option.bind_some]; rw [h2]; simp only [Option.bind_some]; rw [if_neg hn, h3]; rfl
theorem end_bad {b N : List Nat} {x : Nat} {rs : List Rc} (h : rdMid b = if N = [] then some ⟨x, rs⟩ else none) (hq : N ≠ [] ∨ okJ ⟨x, rs⟩ = false) : (match rdMid b with | some j => if okJ j then ((0 : Nat), some j) else (4, none) | none => (4, none)) = (4, none) := by
  rw [h]
  by_cases hN : N = []
  · rw [if_pos hN]
    have := hq.resolve_left (fun k => k hN)
    simp [this]
  · rw [if_neg hN]
theorem end_good {b N : List Nat} {x : Nat} {rs : List Rc} (h : rdMid b = if N = [] then some ⟨x, rs⟩ else none) (hq : ¬ (N ≠ [] ∨ okJ ⟨x, rs⟩ = false)) : (match rdMid b with | some j => if okJ j then ((0 : Nat), some j) else (4, none) | none => (4, none)) = (0, some ⟨x, rs⟩) := by
  have hN : N = [] := Classical.byContradiction fun k => hq (Or.inl k)
  have hj : okJ ⟨x, rs⟩ = true := by cases e : okJ ⟨x, rs⟩; exact absurd (Or.inr e) hq; rfl
  rw [h, if_pos hN]
  simp [hj]
theorem Rs.other7 {B : Nat} {w w' : World} {v : Value} {l : List Rp} {g : Nat} {C D : Array Value} (h : Rs B w v l) (_ : CAt w' g D 24) (ho : Only (fun b => b = g) w w') (hc : CAt w g C 24) : Rs B w' v l := by
  refine ⟨h.buf.keep fun b hv => ?_, fun x hx => ⟨(h.each x hx).ok, (h.each x hx).pl.other (by decide) hc ho⟩⟩
  rcases h.buf.2 with ⟨e, _⟩ | ⟨g', cap, cur, e, _, hg', _⟩
  · rw [e] at hv; cases hv
  · rw [e] at hv
    cases hv
    have h2 : CAt w g' cur 29 := hg'
    exact ho.block g' h2.lt (fun k => hc.apart h2 (by decide) k.symm)
theorem rC_one (po : Option Addr) (n c : Nat) (k s : Int) : (rC (.slice po n c) k s (.slice none 0 0)).all (·.oneCell') = true := by simp [rC, show ∀ q : Int, (i64 q).oneCell' = true from fun _ => rfl, show ∀ (a : Option Addr) (n c : Nat), (Value.slice a n c).oneCell' = true from fun _ _ _ => rfl]

end Go.Proofs.Ytcbmimjjpkkoeaa
