/- Texts laid into one: the remark ahead of each part says what is proved there. -/
import Derived.Test.YtcbmimjjpkkoeaaGreatDoorQaa
import Derived.Test.YtcbmimjjpkkoeaaGreatDoorQaw
import Derived.Test.YtcbmimjjpkkoeaaGreatDoorQax
import Derived.Test.YtcbmimjjpkkoeaaGreatDoorQat
import Derived.Test.YtcbmimjjpkkoeaaGreatDoorQak
import Derived.Lib.SlBytesConst
import Derived.Deep.QuietTactic
import Derived.BigQuiet
/- Digests of bytes in slices, by lists. -/
namespace Go.Proofs.YtcbmimjjpkkoeaaGreatDoor
open Go Go.RowKit

/-- The digest's 32 bytes. -/
def dig (x : List Nat) : List Nat := (List.range 32).map fun i => H.sha x.length (fun j => x.getD j 0) i
theorem dig_len (x : List Nat) : (dig x).length = 32 := by simp [dig]
theorem dig_lt (x : List Nat) : ∀ z ∈ dig x, z < 256 := fun z hz => by
  obtain ⟨i, _, rfl⟩ := List.mem_map.1 hz
  exact H.sha_lt _ _ _
theorem dig_arr (x : List Nat) : H.aB 32 (H.sha x.length fun j => x.getD j 0) = ((dig x).map u8).toArray := by
  unfold H.aB dig
  apply Array.ext
  · simp
  · intro i h1 h2
    simp [u8]
theorem BL.str {w : World} {po : Option Addr} {x : List Nat} (h : BL w po x) : H.StrAt w po x.length fun j => x.getD j 0 := by
  rcases h with rfl | ⟨b, o, e, h⟩
  · exact Or.inl rfl
  · exact Or.inr ⟨b, o, e, fun i hi => h i hi⟩
theorem get256 {x : List Nat} (h8 : ∀ z ∈ x, z < 256) (i : Nat) (hi : i < x.length) : x.getD i 0 < 256 := by
  rw [List.getD_eq_getElem?_getD, List.getElem?_eq_getElem hi]; exact h8 _ (List.getElem_mem hi)
/-- digest.Sum -/
theorem dsum_any (po : Option Addr) (c : Nat) (x : List Nat) (w : World) (hn : x.length ≤ 1000000) (hc : x.length ≤ c) (h : BL w po x) (h8 : ∀ z ∈ x, z < 256) :
    Calls Tryz.prog 25 #[.slice po x.length c] w fun e w' => e = .returned (.agg ((dig x).map u8).toArray) ∧ Below w.heap.size w w' := by
  rw [← dig_arr]
  exact H.sum_any po x.length c _ w hn hc h.str (get256 h8)
/-- The document's Sum. -/
theorem rdsum_any (po : Option Addr) (c : Nat) (x : List Nat) (w : World) (hn : x.length ≤ 500000) (hp : po = none → c = 0) (h : BL w po x) (h8 : ∀ z ∈ x, z < 256) :
    Calls Tryz.prog 33 #[.slice po x.length c] w fun e w' => e = .returned (.agg ((dig x).map u8).toArray) ∧ Below w.heap.size w w' := by
  rw [← dig_arr]
  refine H.rsum_any po x.length c _ w hn (fun e => ⟨?_, hp e⟩) h.str (get256 h8)
  rcases h with h | ⟨b, o, h, _⟩
  · rw [h]; rfl
  · rw [e] at h; cases h
#print axioms dsum_any
#print axioms rdsum_any
end Go.Proofs.YtcbmimjjpkkoeaaGreatDoor

/- journal.Bytes. -/
namespace Go.Proofs.YtcbmimjjpkkoeaaGreatDoor
open Go Go.RowKit

theorem under5' : Tryz.prog.underlying 5 = some (.int .u8) := by kernel_rfl
/-- append to bytes that have no room. -/
theorem grow_buf (W : World) (g : Nat) (old : List Nat) (hold : ∀ j, j < old.length → W.cell? ⟨g, j, none⟩ = some (u8 (old.getD j 0))) (po : Option Addr) (c : Nat) (L : List Nat) (hL : BL W po L) (hne : L ≠ []) (hn : old.length + L.length ≤ 2000000) :
    ∃ v w', (Builtin.append_ #[25, 25] 25 #[.slice (some ⟨g, 0, none⟩) old.length old.length, .slice po L.length c]).run Tryz.prog W = .ok v w' ∧ Buf W.heap.size w' v (old ++ L) ∧ Below W.heap.size W w' := by
  obtain ⟨i0, hi0, hz0, hz1, hz2⟩ := info_parts Tryz.info5
  have hlen : 0 < L.length := List.length_pos_iff.2 hne
  rcases hL with h | ⟨b, o, rfl, hL⟩
  · exact absurd h hne
  have hget : ∀ (M : List Nat) (j : Nat) (v : Value), (M.map u8)[j]? = some v → j < M.length ∧ v = u8 (M.getD j 0) := fun M j v hj => by
    have hjl : j < M.length := by
      rcases Nat.lt_or_ge j M.length with q | q
      · exact q
      · rw [List.getElem?_eq_none (by simpa using q)] at hj; cases hj
    simp [hjl] at hj
    exact ⟨hjl, by rw [← hj]; simp [List.getD, hjl]⟩
  have hr := run_append_grow (P := Tryz.prog) W 25 25 5 i0 (.int .u8 0) Tryz.underlying25 hi0 hz0 ⟨g, 0, none⟩ old.length old.length (old.map u8) (by rw [hz1]; simp) (fun j v hj => by
      obtain ⟨h1, rfl⟩ := hget old j v hj
      rw [add_none, Nat.zero_add]; exact hold j h1) ⟨b, o, none⟩ L.length c (L.map u8) (by rw [hz1]; simp) (fun j v hj => by
      obtain ⟨h1, rfl⟩ := hget L j v hj
      rw [add_none]; exact hL j h1) (by omega) (by omega) (by rw [hz2]; exact growslice_fits (by omega) (by omega))
  refine ⟨_, _, hr, ⟨by simp, Or.inr ⟨W.heap.size, grownCap W (old.length + L.length) old.length 5, _, by rw [List.length_append], Nat.le_refl _, heap_alloc_new W.drew _, by rw [List.length_append]; exact grownCap_ge W _ _ _, grownCap_le_maxLen W _ _ _ (by unfold maxLen; omega), ?_, ?_⟩⟩, below_on (below_drew _) (below_al _ _)⟩
  · have := grownCap_ge W (old.length + L.length) old.length 5
    simp [Builtin.zeroCells, Value.cells]
    omega
  · have e : ((old.map u8).toArray ++ (L.map u8).toArray ++ Builtin.zeroCells (Value.int .u8 0).cells (grownCap W (old.length + L.length) old.length 5 - (old.length + L.length))).toList = (old ++ L).map u8 ++ (Builtin.zeroCells (Value.int .u8 0).cells (grownCap W (old.length + L.length) old.length 5 - (old.length + L.length))).toList := by simp
    rw [e, Nat.mul_one, List.take_left' (by simp)]
theorem zeroDg : (Tryz.prog.info? 42).map (·.zero) = some (some (.agg (sumC zeroD))) := by kernel_rfl
theorem underDg : Tryz.prog.underlying 42 = some (.array 32 5) := by kernel_rfl
theorem wpList_allocD {ops : Array Oper} {rest : List Oper} {o : Oper} {a : Act} {w : World} {Q : Exit → Act → World → Prop} (hg : o.guard = none) (ho : o.op = .alloc 42)
    (h : ∀ w1 g, CAt w1 g (sumC zeroD) 42 → Below w.heap.size w w1 → w.heap.size = g → wpList Tryz.prog ops Q rest (a.put o.dst (ptr g)) w1) : wpList Tryz.prog ops Q (o :: rest) a w := by
  refine wpList_plain hg fun _ hK => ?_
  obtain ⟨i, hq, hz'⟩ := Option.map_eq_some_iff.1 zeroDg
  unfold Oper.wp execOp
  simp only [ho, Instr.alloc, zeroValue, typeInfo, Sem.run_bind, newVar, newRow]
  generalize sumC zeroD = C at h hz'
  simp [hq, hz', Value.cells]
  exact hK _ _ (h _ _ (CAt.made _ _ _) (below_al _ _) rfl)
theorem run_storeD {w : World} {g : Nat} {x y : List Nat} (hx : x.length = 32) (hy : y.length = 32) (hb : CAt w g (sumC x) 42) : (Instr.storeAt 42 (.pointer (some ⟨g, 0, none⟩)) (.agg (sumC y))).run Tryz.prog w = .ok () (w.setRow g (sumC y)) ∧ CAt (w.setRow g (sumC y)) g (sumC y) 42 := by
  have e := run_storeVar_row (P := Tryz.prog) w g 42 42 (sumC x) (sumC y) hb (by rw [sumC_size, hy]; exact sizeD) (by rw [sumC_size, sumC_size, hx, hy]) (by rw [Array.all_eq_true_iff_forall_mem]; intro v hv; unfold sumC at hv; simp only [List.mem_toArray, List.mem_map] at hv; obtain ⟨k, _, rfl⟩ := hv; rfl)
  refine ⟨?_, setRow_heap w g (sumC x) (sumC y) _ _ hb⟩
  simp only [Instr.storeAt, Instr.sureAddr, Sem.run_bind, Sem.run_pure, Result.andThen_ok, e]
theorem wpList_storeD {ops : Array Oper} {rest : List Oper} {o : Oper} {a : Act} {w : World} {Q : Exit → Act → World → Prop} (hg : o.guard = none) (hdst : o.dst = none) (x y : Operand) (ho : o.op = .store 42 x y) (g : Nat) (hx : a.eval x = ptr g) {m n : List Nat} (hy : a.eval y = .agg (sumC n)) (hm : m.length = 32) (hn : n.length = 32) (hb : CAt w g (sumC m) 42)
    (h : ∀ w1, CAt w1 g (sumC n) 42 → Only (fun b => b = g) w w1 → wpList Tryz.prog ops Q rest a w1) : wpList Tryz.prog ops Q (o :: rest) a w := by
  refine wpList_plain hg fun _ hK => ?_
  obtain ⟨e1, e2⟩ := run_storeD hm hn hb
  unfold Oper.wp execOp
  simp only [ho, hx, hy, ptr, Sem.run_bind, e1, Result.andThen_ok, Sem.run_pure]
  refine hK (a.put o.dst undef) _ ?_
  rw [hdst]
  exact h _ e2 (only_setRow _ _ _ rfl)
theorem run_dig (g : Nat) (w : World) : (Instr.sliceAt 42 (.pointer (some ⟨g, 0, none⟩)) none none none).run Tryz.prog w = .ok (.slice (some ⟨g, 0, none⟩) 32 32) w := by kernel_rfl
theorem CAt.bl {w : World} {g : Nat} {x : List Nat} {t : TypeId} (h : CAt w g (sumC x) t) : BL w (some ⟨g, 0, none⟩) x := Or.inr ⟨g, 0, rfl, fun i hi => by rw [Nat.zero_add, h.cell, sumC_get hi]⟩
abbrev c3 : Array Value := #[.int .u8 83, .int .u8 74, .int .u8 49]
theorem c3_cells (w : World) (fz : Nat × Nat) : ∀ j, j < [83, 74, 49].length → (w.alloc (.cells c3 5 fz)).cell? ⟨w.heap.size, j, none⟩ = some (u8 ([83, 74, 49].getD j 0)) := fun j hj => by
  have h := heap_alloc_new w (.cells c3 5 fz)
  simp only [World.cell?, h]
  match j, hj with
  | 0, _ | 1, _ | 2, _ => rfl
theorem rsB_take {l : List Rc} {k : Nat} {x : Rc} (h : l[k]? = some x) : rsB (l.take (k + 1)) = rsB (l.take k) ++ rcB x := by
  have hk := (List.getElem?_eq_some_iff.1 h).1
  have e := (List.getElem?_eq_some_iff.1 h).2
  rw [List.take_succ_eq_append_getElem hk, e]
  simp [rsB]
theorem rsB_len {l : List Rp} (hok : ∀ x ∈ l, x.r.ok) (h : (rcs l).all okRc = true) : ∀ k, k ≤ l.length → (rsB ((rcs l).take k)).length ≤ k * 1000
  | 0, _ => by simp [rsB]
  | k + 1, hk => by
    obtain ⟨x, hx⟩ : ∃ x, l[k]? = some x := ⟨_, List.getElem?_eq_getElem (by omega)⟩
    have hxr : (rcs l)[k]? = some x.rc := by rw [rcs_get, hx]; rfl
    rw [rsB_take hxr, List.length_append]
    have := rsB_len hok h k (by omega)
    have hm := List.mem_of_getElem? hx
    have := rcB_len x.r (hok x hm) x.ps (List.all_eq_true.1 h x.rc (List.mem_of_getElem? hxr))
    have e : (rcB x.rc).length ≤ 1000 := this
    omega
theorem rsB_byte {l : List Rp} (hok : ∀ x ∈ l, x.r.ok) : ∀ z ∈ rsB (rcs l), z < 256 := fun z hz => by
  unfold rsB rcs at hz
  rw [List.map_map] at hz
  obtain ⟨b, hb, hz⟩ := List.mem_flatten.1 hz
  obtain ⟨x, hx, rfl⟩ := List.mem_map.1 hb
  exact rcB_byte x.r (hok x hx) x.ps z hz
/-- What stands ahead of the records. -/
def hdJ (s : Int) (n : Nat) : List Nat := [83, 74, 49] ++ ib s ++ nb n
theorem jBody_hd (s : Int) (l : List Rp) : jBody ⟨s, rcs l⟩ = hdJ s l.length ++ rsB (rcs l) := by unfold jBody hdJ; simp only [rcs_len]
theorem hdJ_len {s : Int} {n : Nat} (hs : s ≤ 1099511627776) (hn : n ≤ 64) : (hdJ s n).length ≤ 15 := by
  unfold hdJ
  have h1 := ib_le (n := s) (by omega)
  have h2 := nb_le (n := n) (by omega)
  simp only [List.length_append, List.length_cons, List.length_nil]
  omega
theorem hdJ_byte (s : Int) (n : Nat) : ∀ z ∈ hdJ s n, z < 256 := fun z hz => by
  unfold hdJ ib at hz
  simp only [List.mem_append, List.mem_cons, List.not_mem_nil, or_false] at hz
  rcases hz with ((rfl | rfl | rfl) | h) | h
  · decide
  · decide
  · decide
  · exact nb_byte _ z h
  · exact nb_byte _ z h
#print axioms grow_buf
end Go.Proofs.YtcbmimjjpkkoeaaGreatDoor

/- bytes.Equal, HasPrefix; what looks at a journal's sign and digest. -/
namespace Go.Proofs.YtcbmimjjpkkoeaaGreatDoor
open Go Go.RowKit

theorem lst_eq_ba {A B : List Nat} (hA : ∀ z ∈ A, z < 256) (hB : ∀ z ∈ B, z < 256) : ((ba A).toList == (ba B).toList) = decide (A = B) := by
  rw [lst_beq, lst_ba hA, lst_ba hB]
theorem equalB_any (po qo : Option Addr) (c d : Nat) (A B : List Nat) (w : World) (hA : BL w po A) (hB : BL w qo B) (a8 : ∀ z ∈ A, z < 256) (b8 : ∀ z ∈ B, z < 256) : Calls Tryz.prog 91 #[.slice po A.length c, .slice qo B.length d] w fun e w' => e = .returned (.bool (decide (A = B))) ∧ w' = w := by
  have h1 := hA.conv c
  have h2 := hB.conv d
  have HE := hid (lst_eq_ba a8 b8)
  generalize ba A = SA at h1 HE
  generalize ba B = SB at h2 HE
  clear hA hB a8 b8
  go_enter Tryz.func91, Tryz.ntmps91
  go_wp2
  go_ret
  exact ⟨by rw [← HE.out]; rfl, rfl⟩
theorem run_head8n (po : Option Addr) (n c h : Nat) (hh : h ≤ c) (w : World) : (Instr.slice 25 (.slice po n c) none (some (.int .i64 (h : Int))) none).run Tryz.prog w = .ok (.slice po h c) w := by
  rw [run_slice_h (P := Tryz.prog) w 25 po n c underE8 .i64 (h : Int) (by omega) (by omega), elem8]
  cases po with
  | none => simp [Result.andThen, sliced]
  | some a =>
    by_cases h0 : c = 0
    · simp [Result.andThen, sliced, h0]
    · simp [Result.andThen, sliced, h0, add_zero']
theorem len_take {L : List Nat} {k : Nat} (h : k ≤ L.length) : (L.take k).length = k := by rw [List.length_take]; omega
theorem prefix_any (po qo : Option Addr) (c d : Nat) (A B : List Nat) (w : World) (hA : BL w po A) (hB : BL w qo B) (a8 : ∀ z ∈ A, z < 256) (b8 : ∀ z ∈ B, z < 256) (hl : B.length ≤ A.length) (hc : A.length ≤ c) : Calls Tryz.prog 90 #[.slice po A.length c, .slice qo B.length d] w fun e w' => e = .returned (.bool (decide (A.take B.length = B))) ∧ w' = w := by
  have hs := run_head8n po A.length c B.length (by omega)
  have hE := equalB_any po qo c d (A.take B.length) B w (hA.take B.length) hB (fun z hz => a8 z (List.mem_of_mem_take hz)) b8
  rw [len_take hl] at hE
  generalize decide (A.take B.length = B) = Q at hE
  have HE := hid hE
  have hl' : (B.length : Int) ≤ (A.length : Int) := by omega
  clear hE hA hB a8 b8
  go_enter Tryz.func90, Tryz.ntmps90
  go_wp2_with (go_at_call 91; refine HE.out.mono ?_; rintro e w1 ⟨rfl, hw1⟩; have hw2 := hw1.symm; subst hw2)
  go_ret
  exact ⟨rfl, rfl⟩
/-- What is left of bytes, and what was read of them so far: its cells. -/
def rC (l : Value) (n s : Int) (r : Value) : Array Value := #[l, i64 n, i64 s, r]
structure RdC (w : World) (p : Nat) (po : Option Addr) (L : List Nat) (c : Nat) (n s : Int) (r : Value) : Prop where
  at_ : CAt w p (rC (.slice po L.length c) n s r) 61
  bl : BL w po L
  ap : L ≠ [] → ∀ a, po = some a → a.block ≠ p
  le : L.length ≤ c
  lt : L.length ≤ 100000
  b8 : ∀ z ∈ L, z < 256
section
variable {w : World} {p : Nat} {po : Option Addr} {L : List Nat} {c : Nat} {n s : Int} {r : Value} (h : RdC w p po L c n s r)
include h
theorem RdC.below {w' : World} (hb : Below w.heap.size w w') : RdC w' p po L c n s r := ⟨h.at_.below hb, h.bl.below hb, h.ap, h.le, h.lt, h.b8⟩
theorem RdC.c0 : w.cell? ⟨p, 0, none⟩ = some (.slice po L.length c) := by rw [h.at_.cell]; rfl
theorem RdC.c1 : w.cell? ⟨p, 1, none⟩ = some (i64 n) := by rw [h.at_.cell]; rfl
theorem RdC.c2 : w.cell? ⟨p, 2, none⟩ = some (i64 s) := by rw [h.at_.cell]; rfl
theorem RdC.c3 : w.cell? ⟨p, 3, none⟩ = some r := by rw [h.at_.cell]; rfl
end
theorem sign_bl (w : World) (fz : Nat × Nat) : BL (w.alloc (.cells c3 5 fz)) (some ⟨w.heap.size, 0, none⟩) [83, 74, 49] := Or.inr ⟨_, _, rfl, fun i hi => by rw [Nat.zero_add]; exact c3_cells w fz i hi⟩
set_option maxRecDepth 100000 in
set_option maxHeartbeats 1000000 in
theorem sign_any (p : Nat) (po : Option Addr) (L : List Nat) (c : Nat) (n s : Int) (r : Value) (w : World) (a0 a1 : Addr) (h : RdC w p po L c n s r) (he : Ers w a0 a1) : Calls Tryz.prog 67 #[ptr p] w fun e w' => e = .returned (if L.length < 35 ∨ L.take 3 ≠ [83, 74, 49] then eV a1 else .nilIface) ∧ Below w.heap.size w w' := by
  obtain ⟨R, hR⟩ : ∃ R : Value, (if L.length < 35 ∨ L.take 3 ≠ [83, 74, 49] then eV a1 else .nilIface) = R := ⟨_, rfl⟩
  rw [hR]
  have HRR := hid hR
  clear hR
  have c0 := h.c0
  have HH := hid h
  have HER := hid he
  clear h he
  by_cases hl : L.length < 35
  · have hl' : (L.length : Int) < 35 := by omega
    have e1 := HER.out.c1
    go_enter Tryz.func67, Tryz.ntmps67
    go_wp2
    go_ret
    exact ⟨by rw [← HRR.out, if_pos (Or.inl hl)]; rfl, Below.refl _ _⟩
  · have hl' : ¬ (L.length : Int) < 35 := by omega
    have hcv := fun (w : World) (C : Array Value) (n c : Nat) => Go.Lib.run_convert_bytes_const (P := Tryz.prog) w 25 5 C n c Tryz.underlying25 under5'
    have hP := prefix_any po (some ⟨w.heap.size, 0, none⟩) c 3 L [83, 74, 49] (w.alloc (.cells c3 5 (3, 4))) (HH.out.bl.below (below_al _ _)) (sign_bl w (3, 4)) HH.out.b8 (by decide) (by simp only [List.length_cons, List.length_nil]; omega) HH.out.le
    have HP : Hid (Calls Tryz.prog 90 #[.slice po L.length c, .slice (some ⟨w.heap.size, 0, none⟩) 3 3] (w.alloc (.cells c3 5 (3, 4))) fun e w' => e = .returned (.bool (decide (L.take 3 = [83, 74, 49]))) ∧ w' = w.alloc (.cells c3 5 (3, 4))) := hid hP
    clear hP
    have HBW := hid (below_al w (.cells c3 5 (3, 4)))
    by_cases hq : L.take 3 = [83, 74, 49]
    · rw [decide_eq_true hq] at HP
      go_enter Tryz.func67, Tryz.ntmps67
      go_wp2_with (go_at_call 90; refine HP.out.mono ?_; rintro e w1 ⟨rfl, hw1⟩; have hw2 := hw1.symm; subst hw2)
      go_ret
      exact ⟨by rw [← HRR.out, if_neg (by rintro (k | k); exact hl k; exact k hq)]; rfl, HBW.out⟩
    · rw [decide_eq_false hq] at HP
      have e1 := (HER.out.below HBW.out).c1
      go_enter Tryz.func67, Tryz.ntmps67
      go_wp2_with (go_at_call 90; refine HP.out.mono ?_; rintro e w1 ⟨rfl, hw1⟩; have hw2 := hw1.symm; subst hw2)
      go_ret
      exact ⟨by rw [← HRR.out, if_pos (Or.inr hq)]; rfl, HBW.out⟩
#print axioms sign_any
end Go.Proofs.YtcbmimjjpkkoeaaGreatDoor

/- lookAtDigest; readNumber, readSeq, readCount. -/
namespace Go.Proofs.YtcbmimjjpkkoeaaGreatDoor
open Go Go.RowKit

theorem run_from8s (b o n c l : Nat) (hl : l ≤ n) (hlt : l < c) (w : World) : (Instr.slice 25 (.slice (some ⟨b, o, none⟩) n c) (some (.int .i64 (l : Int))) none none).run Tryz.prog w = .ok (.slice (some ⟨b, o + l, none⟩) (n - l) (c - l)) w := by
  rw [run_slice_l (P := Tryz.prog) w 25 _ n c underE8 .i64 (l : Int) (by omega) (by omega), elem8]
  have e : ¬ c = l := by omega
  simp [Result.andThen, sliced, e, add_none]
theorem run_mid8s (b o n c l h : Nat) (hl : l ≤ h) (hh : h ≤ c) (hlt : l < c) (w : World) : (Instr.slice 25 (.slice (some ⟨b, o, none⟩) n c) (some (.int .i64 (l : Int))) (some (.int .i64 (h : Int))) none).run Tryz.prog w = .ok (.slice (some ⟨b, o + l, none⟩) (h - l) (c - l)) w := by
  rw [run_slice_lh (P := Tryz.prog) w 25 _ n c underE8 .i64 .i64 (l : Int) (h : Int) (by omega) (by omega) (by omega), elem8]
  have e : ¬ c = l := by omega
  simp [Result.andThen, sliced, e, add_none]
theorem CAt.r0 {w : World} {p : Nat} {l : Value} {n s : Int} {r : Value} {t : TypeId} (h : CAt w p (rC l n s r) t) (v : Value) : CAt (w.setCell ⟨p, 0, none⟩ v) p (rC v n s r) t := h.set 0 v
theorem CAt.r1 {w : World} {p : Nat} {l : Value} {n s : Int} {r : Value} {t : TypeId} (h : CAt w p (rC l n s r) t) (k : Int) : CAt (w.setCell ⟨p, 1, none⟩ (i64 k)) p (rC l k s r) t := h.set 1 _
theorem CAt.r2 {w : World} {p : Nat} {l : Value} {n s : Int} {r : Value} {t : TypeId} (h : CAt w p (rC l n s r) t) (k : Int) : CAt (w.setCell ⟨p, 2, none⟩ (i64 k)) p (rC l n k r) t := h.set 2 _
theorem CAt.r3 {w : World} {p : Nat} {l : Value} {n s : Int} {r : Value} {t : TypeId} (h : CAt w p (rC l n s r) t) (v : Value) : CAt (w.setCell ⟨p, 3, none⟩ v) p (rC l n s v) t := h.set 3 v
/-- What is left has become other bytes. -/
def NxtS (w : World) (p : Nat) (M : List Nat) (n s : Int) (r : Value) (e : Ending) (w' : World) : Prop := e = .returned .nilIface ∧ Only (fun b => b = p) w w' ∧ ∃ po c, RdC w' p po M c n s r
theorem RdC.sub {w W : World} {p b o : Nat} {L : List Nat} {c : Nat} {n s : Int} {r : Value} (h : RdC w p (some ⟨b, o, none⟩) L c n s r) (hb : Below w.heap.size w W) {E : Nat} (hE : E ≤ L.length) (h3 : 3 ≤ E) : RdC (W.setCell ⟨p, 0, none⟩ (.slice (some ⟨b, o + 3, none⟩) (E - 3) (c - 3))) p (some ⟨b, o + 3, none⟩) ((L.take E).drop 3) (c - 3) n s r := by
  have hl : ((L.take E).drop 3).length = E - 3 := by rw [List.length_drop, len_take hE]
  have hle := h.le
  have hlt := h.lt
  have hne : L ≠ [] := fun e => by rw [e] at hE; simp at hE; omega
  refine ⟨by rw [hl]; exact (h.at_.below hb).r0 _, ?_, fun _ a e => by cases e; exact h.ap hne ⟨b, o, none⟩ rfl, by omega, by omega, fun z hz => h.b8 z (List.mem_of_mem_take (List.mem_of_mem_drop hz))⟩
  exact ((((h.bl.below hb).take E).drop 3).onlyAt (Only.set (S := fun b => b = p) W ⟨p, 0, none⟩ _ rfl) (fun _ a e => by cases e; exact h.ap hne ⟨b, o, none⟩ rfl))
theorem digest_split {L : List Nat} (h : 35 ≤ L.length) : ∃ E, L.length = E + 32 ∧ 3 ≤ E := ⟨L.length - 32, by omega, by omega⟩
set_option maxRecDepth 100000 in
set_option maxHeartbeats 2000000 in
theorem digest_bad (p : Nat) (po : Option Addr) (L : List Nat) (c : Nat) (n s : Int) (r : Value) (w : World) (a0 a1 : Addr) (h : RdC w p po L c n s r) (he : Ers w a0 a1) (hl : 35 ≤ L.length) (hq : dig (L.take (L.length - 32)) ≠ L.drop (L.length - 32)) : Calls Tryz.prog 68 #[ptr p] w fun e w' => e = .returned (eV a0) ∧ Below w.heap.size w w' := by
  obtain ⟨E, hE, hE3⟩ := digest_split hl
  rw [show L.length - 32 = E by omega] at hq
  obtain ⟨b, o, rfl, hcells⟩ : ∃ b o, po = some ⟨b, o, none⟩ ∧ ∀ i, i < L.length → w.cell? ⟨b, o + i, none⟩ = some (u8 (L.getD i 0)) := by
    rcases h.bl with k | k
    · rw [k] at hl; simp at hl
    · exact k
  have hle := h.le
  have hlt := h.lt
  have c0 := h.c0
  rw [hE] at c0
  have hs1 := run_head8n (some ⟨b, o, none⟩) (E + 32) c E (by omega)
  have hs2 : ∀ w, (Instr.slice 25 (.slice (some ⟨b, o, none⟩) (E + 32) c) (some (.int .i64 (E : Int))) none none).run Tryz.prog w = .ok (.slice (some ⟨b, o + E, none⟩) 32 (c - E)) w := fun w => by have := run_from8s b o (E + 32) c E (by omega) (by omega) w; rwa [show E + 32 - E = 32 by omega] at this
  obtain ⟨D, hD⟩ : ∃ D, dig (L.take E) = D := ⟨_, rfl⟩
  have hDl : D.length = 32 := by rw [← hD]; exact dig_len _
  have hD8 : ∀ z ∈ D, z < 256 := by rw [← hD]; exact dig_lt _
  rw [hD] at hq
  have hE32 : (L.drop E).length = 32 := by rw [List.length_drop]; omega
  have HSUM : Hid (Calls Tryz.prog 25 #[.slice (some ⟨b, o, none⟩) E c] w fun e w' => e = .returned (.agg (sumC D)) ∧ Below w.heap.size w w') := hid (by
    have := dsum_any (some ⟨b, o, none⟩) c (L.take E) w (by rw [len_take (by omega)]; omega) (by rw [len_take (by omega)]; omega) (h.bl.take E) (fun z hz => h.b8 z (List.mem_of_mem_take hz))
    rw [len_take (by omega), hD] at this
    exact this)
  have HEQ : Hid (∀ W g, Below w.heap.size w W → CAt W g (sumC D) 42 → Calls Tryz.prog 91 #[.slice (some ⟨g, 0, none⟩) 32 32, .slice (some ⟨b, o + E, none⟩) 32 (c - E)] W fun e w' => e = .returned (.bool false) ∧ w' = W) := hid (fun W g hW hg => by
    have := equalB_any (some ⟨g, 0, none⟩) (some ⟨b, o + E, none⟩) 32 (c - E) D (L.drop E) W hg.bl ((h.bl.below hW).drop E) hD8 (fun z hz => h.b8 z (List.mem_of_mem_drop hz))
    rw [hDl, hE32, decide_eq_false hq] at this
    exact this)
  have HH := hid h
  have HER := hid he
  have HE := hid hE
  have hEi : (E : Int) ≤ 100000 := by omega
  clear h he hcells hq hD hD8 hE32 hE hl
  have hsd := run_dig
  go_enter Tryz.func68, Tryz.ntmps68
  go_upto_region 3 with (first
    | (go_at_call 25; refine HSUM.out.mono ?_; rintro e w1 ⟨rfl, hb1⟩; have HB1 := hid hb1; clear hb1 c0)
    | ((with_reducible refine wpList_allocD rfl rfl ?_); intro w2 g2 hz2 hb2 hg2; have HZ2 := hid hz2; have HB2 := hid (below_on HB1.out hb2); have HG2 := hid (show w.heap.size ≤ g2 by have := HB1.out.size; omega); clear hz2 hb2 hg2)
    | ((with_reducible refine wpList_storeD rfl rfl _ _ rfl g2 ?_ (m := zeroD) (n := D) ?_ ?_ hDl HZ2.out ?_); exact rfl; exact rfl; exact rfl; intro w3 h3 o3; have HB3 := hid (below_tr HB2.out (o3.below HB2.out.size (fun i e => by have := HG2.out; omega))); have HC3 := hid h3; clear h3 o3 HZ2))
  have c0 := (HH.out.below HB3.out).c0
  rw [HE.out] at c0
  simp only [Act.put, List.setIfInBounds_toArray, List.set_cons_zero, List.set_cons_succ]
  have e0 := (HER.out.below HB3.out).c0
  have HEQ2 := hid (fun k => HEQ.out (w3.drewN k) g2 (below_on HB3.out (below_drewN w3 k)) HC3.out)
  go_quiet ((go_at_call 91; refine Calls.quiet_of_same (HEQ2.out _)))
  go_wp2
  go_ret
  exact ⟨rfl, below_on HB3.out (below_drewN _ _)⟩
set_option maxRecDepth 100000 in
set_option maxHeartbeats 2000000 in
theorem digest_ok (p : Nat) (po : Option Addr) (L : List Nat) (c : Nat) (n s : Int) (r : Value) (w : World) (h : RdC w p po L c n s r) (hl : 35 ≤ L.length) (hq : dig (L.take (L.length - 32)) = L.drop (L.length - 32)) : Calls Tryz.prog 68 #[ptr p] w (NxtS w p ((L.take (L.length - 32)).drop 3) n s r) := by
  obtain ⟨E, hE, hE3⟩ := digest_split hl
  rw [show L.length - 32 = E by omega] at hq ⊢
  obtain ⟨b, o, rfl, hcells⟩ : ∃ b o, po = some ⟨b, o, none⟩ ∧ ∀ i, i < L.length → w.cell? ⟨b, o + i, none⟩ = some (u8 (L.getD i 0)) := by
    rcases h.bl with k | k
    · rw [k] at hl; simp at hl
    · exact k
  have hle := h.le
  have hlt := h.lt
  have c0 := h.c0
  rw [hE] at c0
  have hs1 := run_head8n (some ⟨b, o, none⟩) (E + 32) c E (by omega)
  have hs2 : ∀ w, (Instr.slice 25 (.slice (some ⟨b, o, none⟩) (E + 32) c) (some (.int .i64 (E : Int))) none none).run Tryz.prog w = .ok (.slice (some ⟨b, o + E, none⟩) 32 (c - E)) w := fun w => by have := run_from8s b o (E + 32) c E (by omega) (by omega) w; rwa [show E + 32 - E = 32 by omega] at this
  obtain ⟨D, hD⟩ : ∃ D, dig (L.take E) = D := ⟨_, rfl⟩
  have hDl : D.length = 32 := by rw [← hD]; exact dig_len _
  have hD8 : ∀ z ∈ D, z < 256 := by rw [← hD]; exact dig_lt _
  rw [hD] at hq
  have hE32 : (L.drop E).length = 32 := by rw [List.length_drop]; omega
  have HSUM : Hid (Calls Tryz.prog 25 #[.slice (some ⟨b, o, none⟩) E c] w fun e w' => e = .returned (.agg (sumC D)) ∧ Below w.heap.size w w') := hid (by
    have := dsum_any (some ⟨b, o, none⟩) c (L.take E) w (by rw [len_take (by omega)]; omega) (by rw [len_take (by omega)]; omega) (h.bl.take E) (fun z hz => h.b8 z (List.mem_of_mem_take hz))
    rw [len_take (by omega), hD] at this
    exact this)
  have HEQ : Hid (∀ W g, Below w.heap.size w W → CAt W g (sumC D) 42 → Calls Tryz.prog 91 #[.slice (some ⟨g, 0, none⟩) 32 32, .slice (some ⟨b, o + E, none⟩) 32 (c - E)] W fun e w' => e = .returned (.bool true) ∧ w' = W) := hid (fun W g hW hg => by
    have := equalB_any (some ⟨g, 0, none⟩) (some ⟨b, o + E, none⟩) 32 (c - E) D (L.drop E) W hg.bl ((h.bl.below hW).drop E) hD8 (fun z hz => h.b8 z (List.mem_of_mem_drop hz))
    rw [hDl, hE32, decide_eq_true hq] at this
    exact this)
  have HH := hid h
  have HE := hid hE
  have hEi : (E : Int) ≤ 100000 := by omega
  clear h hcells hq hD hD8 hE32 hE hl
  have hsd := run_dig
  go_enter Tryz.func68, Tryz.ntmps68
  go_upto_region 3 with (first
    | (go_at_call 25; refine HSUM.out.mono ?_; rintro e w1 ⟨rfl, hb1⟩; have HB1 := hid hb1; clear hb1 c0)
    | ((with_reducible refine wpList_allocD rfl rfl ?_); intro w2 g2 hz2 hb2 hg2; have HZ2 := hid hz2; have HB2 := hid (below_on HB1.out hb2); have HG2 := hid (show w.heap.size ≤ g2 by have := HB1.out.size; omega); clear hz2 hb2 hg2)
    | ((with_reducible refine wpList_storeD rfl rfl _ _ rfl g2 ?_ (m := zeroD) (n := D) ?_ ?_ hDl HZ2.out ?_); exact rfl; exact rfl; exact rfl; intro w3 h3 o3; have HB3 := hid (below_tr HB2.out (o3.below HB2.out.size (fun i e => by have := HG2.out; omega))); have HC3 := hid h3; clear h3 o3 HZ2))
  have c0 := (HH.out.below HB3.out).c0
  rw [HE.out] at c0
  simp only [Act.put, List.setIfInBounds_toArray, List.set_cons_zero, List.set_cons_succ]
  have hs3 : ∀ w, (Instr.slice 25 (.slice (some ⟨b, o, none⟩) (E + 32) c) (some (.int .i64 3)) (some (.int .i64 (E : Int))) none).run Tryz.prog w = .ok (.slice (some ⟨b, o + 3, none⟩) (E - 3) (c - 3)) w := run_mid8s b o (E + 32) c 3 E hE3 (by have := HE.out; omega) (by have := HE.out; omega)
  have f0 := (HH.out.below HB3.out).at_.free
  have HEQ2 := hid (fun k => HEQ.out (w3.drewN k) g2 (below_on HB3.out (below_drewN w3 k)) HC3.out)
  go_quiet ((go_at_call 91; refine Calls.quiet_of_same (HEQ2.out _)))
  go_wp2
  go_ret
  refine ⟨rfl, ?_, some ⟨b, o + 3, none⟩, c - 3, ?_⟩
  · exact (Only.of_below (below_on HB3.out (below_drewN w3 _))).trans (Only.set (S := fun b => b = p) _ ⟨p, 0, none⟩ _ rfl)
  · exact HH.out.sub (below_on HB3.out (below_drewN w3 _)) (E := E) (by have := HE.out; omega) hE3
/-- What is left is what was told. -/
theorem RdC.mkN {B p : Nat} {W : World} {l : Value} {n s : Int} {r : Value} (hc : CAt W p (rC l n s r) 61) (hp : p < B) {M : List Nat} {out : Value} (ho : OutB B W out M) (hM : M.length ≤ 100000) (h8 : ∀ z ∈ M, z < 256) : ∃ qo, out = .slice qo M.length M.length ∧ RdC (W.setCell ⟨p, 0, none⟩ out) p qo M M.length n s r := by
  obtain ⟨qo, rfl, hbl, hz⟩ := ho.form
  have hap : M ≠ [] → ∀ a, qo = some a → a.block ≠ p := fun hne a e => by
    rcases ho with ⟨_, e2⟩ | ⟨g, e2, hg, _⟩
    · exact absurd e2 hne
    · cases e2; cases e; show g ≠ p; omega
  exact ⟨qo, rfl, hc.r0 _, hbl.onlyAt (Only.set (S := fun b => b = p) W ⟨p, 0, none⟩ _ rfl) (fun hne a e => hap hne a e), hap, Nat.le_refl _, hM, h8⟩
theorem rdU_sub {L M : List Nat} {x : Nat} (h8 : ∀ z ∈ L, z < 256) (h : rdU L = some (x, M)) : M.length ≤ L.length ∧ (∀ z ∈ M, z < 256) := by
  obtain ⟨e, _⟩ := rdU_some h8 h
  subst e
  exact ⟨by rw [List.length_append]; omega, (sub256 h8).2⟩
set_option maxRecDepth 100000 in
set_option maxHeartbeats 1000000 in
theorem number_bad (k p : Nat) (po : Option Addr) (L : List Nat) (c : Nat) (n s : Int) (r : Value) (w : World) (a0 a1 : Addr) (h : RdC w p po L c n s r) (he : Ers w a0 a1) (hq : rdU L = none) : Calls Tryz.prog 92 #[ptr p, .pointer (some ⟨p, k, none⟩)] w fun e w' => e = .returned (eV a1) ∧ Below w.heap.size w w' := by
  have c0 := h.c0
  have HU := hid (readUint_bad po c L w h.bl h.le h.lt h.b8 hq)
  have HER := hid he
  clear h he hq
  go_enter Tryz.func92, Tryz.ntmps92
  go_wp2_with (go_at_call 103; refine HU.out.mono ?_; rintro e w1 ⟨rfl, hb1⟩; have e1 := (HER.out.below hb1).c1; have HB1 := hid hb1; clear hb1)
  go_ret
  exact ⟨rfl, HB1.out⟩
set_option maxRecDepth 100000 in
set_option maxHeartbeats 1000000 in
theorem number_seq (p : Nat) (po : Option Addr) (L : List Nat) (c : Nat) (n s : Int) (r : Value) (w : World) (h : RdC w p po L c n s r) (x : Nat) (M : List Nat) (hq : rdU L = some (x, M)) : Calls Tryz.prog 92 #[ptr p, .pointer (some ⟨p, 2, none⟩)] w (NxtS w p M n x r) := by
  have c0 := h.c0
  have HU := hid (readUint_ok po c L w h.bl h.le h.lt h.b8 hq)
  have HM := hid (rdU_sub h.b8 hq)
  have HH := hid h
  clear h hq
  go_enter Tryz.func92, Tryz.ntmps92
  go_wp2_with (go_at_call 103; refine HU.out.mono ?_; rintro e w1 ⟨out, rfl, ho1, hb1⟩; have h1 := HH.out.below hb1; have hset := h1.at_.r2 (x : Int); have hos := Only.set (S := fun b => b = p) w1 ⟨p, 2, none⟩ (i64 (x : Int)) rfl; obtain ⟨qo, hout, hn1⟩ := RdC.mkN hset HH.out.at_.lt (ho1.only hos (fun i e => by have := (ho1.blk i e).1; have := HH.out.at_.lt; omega)) (by have := HM.out.1; have := HH.out.lt; omega) HM.out.2; subst hout; clear c0; have d0 := h1.c0; have d2 := h1.c2; have df := h1.at_.free; have HN1 := hid hn1; have HO1 := hid ((Only.of_below hb1).trans (hos.trans (Only.set (S := fun b => b = p) _ ⟨p, 0, none⟩ (.slice qo M.length M.length) rfl))); clear h1 hn1 hb1 ho1 hset hos)
  go_ret
  exact ⟨rfl, HO1.out, qo, M.length, HN1.out⟩
set_option maxRecDepth 100000 in
set_option maxHeartbeats 1000000 in
theorem number_cnt (p : Nat) (po : Option Addr) (L : List Nat) (c : Nat) (n s : Int) (r : Value) (w : World) (h : RdC w p po L c n s r) (x : Nat) (M : List Nat) (hq : rdU L = some (x, M)) : Calls Tryz.prog 92 #[ptr p, .pointer (some ⟨p, 1, none⟩)] w (NxtS w p M x s r) := by
  have c0 := h.c0
  have HU := hid (readUint_ok po c L w h.bl h.le h.lt h.b8 hq)
  have HM := hid (rdU_sub h.b8 hq)
  have HH := hid h
  clear h hq
  go_enter Tryz.func92, Tryz.ntmps92
  go_wp2_with (go_at_call 103; refine HU.out.mono ?_; rintro e w1 ⟨out, rfl, ho1, hb1⟩; have h1 := HH.out.below hb1; have hset := h1.at_.r1 (x : Int); have hos := Only.set (S := fun b => b = p) w1 ⟨p, 1, none⟩ (i64 (x : Int)) rfl; obtain ⟨qo, hout, hn1⟩ := RdC.mkN hset HH.out.at_.lt (ho1.only hos (fun i e => by have := (ho1.blk i e).1; have := HH.out.at_.lt; omega)) (by have := HM.out.1; have := HH.out.lt; omega) HM.out.2; subst hout; clear c0; have d0 := h1.c0; have d2 := h1.c1; have df := h1.at_.free; have HN1 := hid hn1; have HO1 := hid ((Only.of_below hb1).trans (hos.trans (Only.set (S := fun b => b = p) _ ⟨p, 0, none⟩ (.slice qo M.length M.length) rfl))); clear h1 hn1 hb1 ho1 hset hos)
  go_ret
  exact ⟨rfl, HO1.out, qo, M.length, HN1.out⟩
set_option maxRecDepth 100000 in
theorem readSeq_bad (p : Nat) (po : Option Addr) (L : List Nat) (c : Nat) (n s : Int) (r : Value) (w : World) (a0 a1 : Addr) (h : RdC w p po L c n s r) (he : Ers w a0 a1) (hq : rdU L = none) : Calls Tryz.prog 69 #[ptr p] w fun e w' => e = .returned (eV a1) ∧ Below w.heap.size w w' := by
  have HN := hid (number_bad 2 p po L c n s r w a0 a1 h he hq)
  clear h he hq
  go_enter Tryz.func69, Tryz.ntmps69
  go_wp2_with (go_at_call 92; refine HN.out.mono ?_; rintro e w1 ⟨rfl, hb1⟩)
  go_ret
  exact ⟨rfl, hb1⟩
set_option maxRecDepth 100000 in
theorem readSeq_ok (p : Nat) (po : Option Addr) (L : List Nat) (c : Nat) (n s : Int) (r : Value) (w : World) (h : RdC w p po L c n s r) (x : Nat) (M : List Nat) (hq : rdU L = some (x, M)) : Calls Tryz.prog 69 #[ptr p] w (NxtS w p M n x r) := by
  have HN := hid (number_seq p po L c n s r w h x M hq)
  clear h hq
  go_enter Tryz.func69, Tryz.ntmps69
  go_wp2_with (go_at_call 92; refine HN.out.mono ?_; rintro e w1 ⟨rfl, hn1⟩)
  go_ret
  exact ⟨rfl, hn1⟩
set_option maxRecDepth 100000 in
theorem readCount_bad (p : Nat) (po : Option Addr) (L : List Nat) (c : Nat) (n s : Int) (r : Value) (w : World) (a0 a1 : Addr) (h : RdC w p po L c n s r) (he : Ers w a0 a1) (hq : rdU L = none) : Calls Tryz.prog 70 #[ptr p] w fun e w' => e = .returned (eV a1) ∧ Below w.heap.size w w' := by
  have HN := hid (number_bad 1 p po L c n s r w a0 a1 h he hq)
  clear h he hq
  go_enter Tryz.func70, Tryz.ntmps70
  go_wp2_with (go_at_call 92; refine HN.out.mono ?_; rintro e w1 ⟨rfl, hb1⟩)
  go_ret
  exact ⟨rfl, hb1⟩
set_option maxRecDepth 100000 in
theorem readCount_ok (p : Nat) (po : Option Addr) (L : List Nat) (c : Nat) (n s : Int) (r : Value) (w : World) (h : RdC w p po L c n s r) (x : Nat) (M : List Nat) (hq : rdU L = some (x, M)) : Calls Tryz.prog 70 #[ptr p] w (NxtS w p M x s r) := by
  have HN := hid (number_cnt p po L c n s r w h x M hq)
  clear h hq
  go_enter Tryz.func70, Tryz.ntmps70
  go_wp2_with (go_at_call 92; refine HN.out.mono ?_; rintro e w1 ⟨rfl, hn1⟩)
  go_ret
  exact ⟨rfl, hn1⟩
#print axioms readCount_ok
#print axioms digest_ok
#print axioms digest_bad
end Go.Proofs.YtcbmimjjpkkoeaaGreatDoor
