/- Texts laid into one, cut to what is needed: the remark ahead of each part says what is proved there. -/
import Derived.Test.YtdohmokhfajjpaaGreatDoorPag
import Derived.Lib.SlBytesConst
import Derived.Test.YtdohmokhfajjpaaGreatDoorPbm
import Derived.Test.YtdohmokhfajjpaaGreatDoorPbi
import Derived.Test.YtdohmokhfajjpaaGreatDoorPbd
import Derived.Test.YtdohmokhfajjpaaGreatDoorPbe
import Derived.Test.YtdohmokhfajjpaaGreatDoorPbj
import Derived.Test.YtdohmokhfajjpaaGreatDoorPbg
/- Contracts of SameInts and CopyBytes of the statements' kit; small laws for the walks of the statements. -/
namespace Go.Proofs.YtdohmokhfajjpaaGreatDoor.H
open Go Go.RowKit

/-- A guarded append whose guard says yes. -/
theorem wpList_append_run {P : Program} {w w' : World} {ops : Array Oper} {rest : List Oper} {o : Oper} {a : Act} {Q : Exit → Act → World → Prop} (s x : Operand) (t : TypeId)
  (ho : o.op = .call { callee := .builtin .append, args := #[s, x], argTypes := #[t, t] }) (hw : Region.wanted o (yielded ops a.tmps) = true)
  (v xv v' : Value) (hs : a.eval s = v) (hx : a.eval x = xv) (hr : (Builtin.append_ #[t, t] o.type #[v, xv]).run P w = .ok v' w') (h : wpList P ops Q rest (a.put o.dst v') w') : wpList P ops Q (o :: rest) a w := by
 refine BigFrame.wpList_want hw fun K hK => ?_
 unfold Oper.wp execOp
 simp only [ho, resolve, invoke, builtin, Sem.run_bind, Sem.run_pure, Result.andThen_ok, List.map_toArray, List.map_cons, List.map_nil, hs, hx, hr]
 exact hK _ _ h
/-- Numbers in memory. -/
def IntAt (w : World) (p : Option Addr) (n : Nat) (x : Nat → Nat) : Prop := n = 0 ∨ ∃ b o, p = some ⟨b, o, none⟩ ∧ ∀ i, i < n → w.cell? ⟨b, o + i, none⟩ = some (.int .i64 (x i : Nat))
theorem IntAt.below {w w' : World} {p : Option Addr} {n : Nat} {x : Nat → Nat} (h : IntAt w p n x) (hb : Below w.heap.size w w') : IntAt w' p n x := by
 rcases h with h | ⟨b, o, rfl, hr⟩
 ·exact .inl h
 ·refine .inr ⟨b, o, rfl, fun i hi => ?_⟩
  have h1 := hr i hi
  exact (hb.cell (p := ⟨b, o + i, none⟩) (cell_lt h1)).trans h1
set_option maxHeartbeats 400000 in
theorem sameInts_true (p q : Option Addr) (n c d : Nat) (x : Nat → Nat) (w : World) (hn : n ≤ 100000) (hp : IntAt w p n x) (hq : IntAt w q n x) :
  Calls Tryz.prog 13 #[.slice p n c, .slice q n d] w fun e w' => e = .returned (.bool true) ∧ ∃ k, w' = w.drewN k := by
 have HP := hid hp
 have HQ := hid hq
 clear hp hq
 go_enter Tryz.func13, Tryz.ntmps13
 go_wp2
 go_loopw [5] (fun v wr => ∃ i : Nat, i ≤ n ∧ v = .int .i64 (i : Int) ∧ ∃ k, wr = w.drewN k) (fun v _ => (n - intOf v).toNat)
 case atStart => exact ⟨0, by omega, rfl, 0, rfl⟩
 case round =>
  obtain ⟨i, hi, rfl, hw⟩ := hrel
  have HW := hid hw
  have hcell : ∀ a : Addr, wr.cell? a = w.cell? a := by obtain ⟨k, rfl⟩ := hw; intro a; rfl
  have HCE := hid hcell
  clear hw hcell
  by_cases hlt : i < n
  ·rcases HP.out with h | ⟨b, o, rfl, hb⟩
   ·omega
   rcases HQ.out with h | ⟨b2, o2, rfl, hb2⟩
   ·omega
   have c1 := (HCE.out _).trans (hb i hlt)
   have c2 := (HCE.out _).trans (hb2 i hlt)
   have hlt' : (i : Int) < (n : Int) := by omega
   clear hb hb2
   go_wp2
   go_quiet (fail)
   go_wp2
   go_roundw
   case rel =>
    refine ⟨i + 1, by omega, by go_num, ?_⟩
    obtain ⟨k, rfl⟩ := HW.out
    first | exact ⟨_, rfl⟩ | exact ⟨k + nq, by simp [World.drewN, Nat.add_assoc]⟩
   case measure => simp [intOf]; omega
  ·have hlt' : ¬ (i : Int) < (n : Int) := by omega
   go_wp2
   go_ret
   exact ⟨rfl, HW.out⟩
theorem BufL.empty (B : Nat) (w : World) (hB : B ≤ w.heap.size) : BufL B (w.alloc (.cells #[] 5)) (.slice (some ⟨w.heap.size, 0, none⟩) 0 0) [] :=
 ⟨rfl, .inr ⟨_, _, _, rfl, hB, heap_alloc_new _ _, Nat.le_refl _, by unfold maxLen; omega, rfl, rfl⟩⟩
def CopyAt (w : World) (L : List Nat) (e : Ending) (w' : World) : Prop := ∃ v, e = .returned v ∧ BufL w.heap.size w' v L ∧ Below w.heap.size w w'
set_option maxRecDepth 100000 in
theorem copyB_any (p : Option Addr) (n c : Nat) (x : Nat → Nat) (w : World) (hn : n ≤ 100000) (hp : p = none → n = 0 ∧ c = 0) (hx : StrAt w p n x) :
  Calls Tryz.prog 6 #[.slice p n c] w (CopyAt w ((List.range n).map x)) := by
 have b1 : Below w.heap.size w (w.alloc (.cells #[] 5)) := (Below.refl _ _).alloc (by omega) _
 obtain ⟨v, w1, r1, f1, g1, _⟩ := (BufL.empty w.heap.size w (Nat.le_refl _)).app p n c x (hx.below b1) hp (by simp; omega) (by simp)
 have HR := hid r1
 have HF := hid (show BufL w.heap.size w1 v ((List.range n).map x) by simpa using f1)
 have HB := hid (b1.grown g1 (by simp) (fun k e => by cases e; exact Nat.le_refl _))
 clear r1 f1 g1 hx hp
 go_enter Tryz.func6, Tryz.ntmps6
 go_wp2_with (refine wpList_append_eq rfl _ _ 22 rfl _ _ rfl rfl _ _ HR.out ?_)
 go_ret
 exact ⟨v, rfl, HF.out, HB.out⟩
end Go.Proofs.YtdohmokhfajjpaaGreatDoor.H

/- What ShardAny carries, and what is asked of its calls. -/
namespace Go.Proofs.YtdohmokhfajjpaaGreatDoor
open Go Go.RowKit

theorem CI.push15 {B : Nat} {w : World} {v : Value} {L : List Cv} (h : CI B w v L) (x : Cv) (hx : Buf B w x.v x.bs) (h8 : ∀ z ∈ x.bs, z < 256) (hs : x.bs.length ≤ 100000) (hn : L.length ≤ 1000) (hB : B ≤ w.heap.size) :
  ∃ p c w', (Builtin.append_ #[29, 29] 29 #[v, .slice (some ⟨w.heap.size, 0, none⟩) 1 1]).run Tryz.prog (w.alloc (.cells (cC x.err x.v) 33)) = .ok (.slice p (L.length + 1) c) w' ∧ CI B w' (.slice p (L.length + 1) c) (L ++ [x]) ∧ Only (fun b => v.ownBlock = some b) w w' := by
 have hal := below_al w (.cells (cC x.err x.v) 33)
 have hc : CAt (w.alloc (.cells (cC x.err x.v) 33)) w.heap.size (cC x.err x.v) 33 := CAt.made w _ _
 have h1 := h.on hal
 have hB1 : B ≤ (w.alloc (.cells (cC x.err x.v) 33)).heap.size := by rw [size_al]; omega
 obtain ⟨px, cx, hxf⟩ := hx.form
 obtain ⟨v', w', hr, h2, h3, _⟩ := h1.buf.app (ty := 29) (T := 29) Tryz.underlying29 Tryz.infoCp rfl (by decide) w.heap.size 0 1 [x.row] (fun r hr => by rcases List.mem_singleton.1 hr with rfl; rfl) (fun r hr => by
  rcases List.mem_singleton.1 hr with rfl
  intro u hu
  simp only [Cv.row, List.mem_cons, List.not_mem_nil, or_false] at hu
  rcases hu with rfl | rfl
  ·rfl
  ·rw [hxf]; rfl) (fun i r hr j u hu => by
  rcases i with _ | i
  ·simp at hr
   subst hr
   rw [Nat.zero_mul, Nat.zero_add, hc.cell]
   simpa [cC, Cv.row] using hu
  ·simp at hr) (by rw [List.length_map]; simp; omega) (by decide) hB1
 have hO : Only (fun b => v.ownBlock = some b) (w.alloc (.cells (cC x.err x.v) 33)) w' := Only.of_grown h3 fun b e _ => e
 have h2' : XB 33 2 B w' v' ((L ++ [x]).map Cv.row) := by rw [List.map_append]; exact h2
 obtain ⟨p, c, e, _, _⟩ := h2'.form
 rw [List.length_map, List.length_append, List.length_singleton] at e
 subst e
 refine ⟨p, c, w', hr, ⟨h2', fun y hy => ?_⟩, (Only.alloc (S := fun b => v.ownBlock = some b) w _).trans hO⟩
 rcases List.mem_append.1 hy with hy | hy
 ·exact ⟨own_otherO11 (h1.each y hy).1 h1.buf (by decide) hO, (h1.each y hy).2⟩
 ·rcases List.mem_singleton.1 hy with rfl
  exact ⟨own_otherO11 (hx.below hal) h1.buf (by decide) hO, h8, hs⟩
/-- What the loop carries. -/
structure SHI (w1 : World) (K : Nat) (b : List Nat) (u v : Value) (L : List Cv) (S : List Nat) (W : World) : Prop where
 be : Below w1.heap.size w1 W
 ci : CI w1.heap.size W u L
 wa : IBuf w1.heap.size W v S
 ok : OkL K b (cps L) (S.map fun s : Nat => (s : Int))
theorem SHI.nil (w1 : World) (K : Nat) (b : List Nat) : SHI w1 K b nilS (.slice none 0 0) [] [] w1 := ⟨Below.refl _ _, CI.nil _ _, IBuf.nil _ _, OkL.nil K b⟩
theorem SHI.on {w1 W W' : World} {K : Nat} {b : List Nat} {u v : Value} {L : List Cv} {S : List Nat} (h : SHI w1 K b u v L S W) (hb : Below W.heap.size W W') : SHI w1 K b u v L S W' := ⟨below_on h.be hb, h.ci.on hb, h.wa.below hb, h.ok⟩
theorem SHI.len {w1 W : World} {K : Nat} {b : List Nat} {u v : Value} {L : List Cv} {S : List Nat} (h : SHI w1 K b u v L S W) : S.length = L.length := by
 have := h.ok.1
 rw [cps_len, List.length_map] at this
 exact this.symm
/-- One more: both appends. -/
theorem SHI.next {w1 W : World} {K : Nat} {b : List Nat} {u v : Value} {L : List Cv} {S : List Nat} (h : SHI w1 K b u v L S W) (hn : L.length ≤ 20) (y : Cv) (hy : Buf w1.heap.size W y.v y.bs) (h8 : ∀ z ∈ y.bs, z < 256) (hs : y.bs.length ≤ 5000) (s : Nat) (ho : OkE K b L.length y.cp (s : Int)) :
  ∃ p c w6 q d w8, (Builtin.append_ #[29, 29] 29 #[u, .slice (some ⟨W.heap.size, 0, none⟩) 1 1]).run Tryz.prog (W.alloc (.cells (cC y.err y.v) 33)) = .ok (.slice p (L.length + 1) c) w6 ∧
   (Builtin.append_ #[30, 30] 30 #[v, .slice (some ⟨w6.heap.size, 0, none⟩) 1 1]).run Tryz.prog (w6.alloc (.cells #[.int .i64 (s : Int)] 3)) = .ok (.slice q (L.length + 1) d) w8 ∧ SHI w1 K b (.slice p (L.length + 1) c) (.slice q (L.length + 1) d) (L ++ [y]) (S ++ [s]) w8 := by
 have hlen := h.len
 obtain ⟨p, c, w6, hr, hci, hO⟩ := h.ci.push15 y hy h8 (by omega) (by omega) h.be.size
 have hwa : IBuf w1.heap.size w6 v S := own_otherO11 h.wa h.ci.buf (by decide) hO
 have hbe6 : Below w1.heap.size w1 w6 := below_tr h.be (hO.below h.be.size (fun q e => (own_ge h.ci.buf q e).1))
 obtain ⟨v', w8, hr8, hib, hgr⟩ := hwa.push s (by omega) hbe6.size
 obtain ⟨q, d, e⟩ := own_form hib
 rw [List.length_append, List.length_singleton, hlen] at e
 subst e
 have hal := below_al w6 (.cells #[.int .i64 (s : Int)] 3)
 have hO8 : Only (fun b => v.ownBlock = some b) w6 w8 := (Only.alloc (S := fun b => v.ownBlock = some b) w6 (.cells #[.int .i64 (s : Int)] 3)).trans (Only.of_grown hgr fun q e _ => e)
 refine ⟨p, c, w6, q, d, w8, hr, hr8, ⟨below_tr hbe6 (hO8.below hbe6.size (fun q e => (own_ge hwa q e).1)), ⟨own_otherO11 hci.buf hwa (by decide) hO8, fun z hz => ⟨own_otherO11 (hci.each z hz).1 hwa (by decide) hO8, (hci.each z hz).2⟩⟩, hib, ?_⟩⟩
 have := h.ok.snoc (c := y.cp) (s := (s : Int)) (by rw [cps_len]; exact ho)
 simpa [cps] using this
theorem wpList_bsC15 {ops : Array Oper} {rest : List Oper} {o : Oper} {a : Act} {w : World} {Q : Exit → Act → World → Prop} (hgd : o.guard = none) (x : Operand) (ho : o.op = .buildSlice 29 1 #[(0, x)]) {e : Int} {v : Value} (hx : a.eval x = .agg (cC e v))
  (hk : wpList Tryz.prog ops Q rest (a.put o.dst (.slice (some ⟨w.heap.size, 0, none⟩) 1 1)) (w.alloc (.cells (cC e v) 33))) : wpList Tryz.prog ops Q (o :: rest) a w := by
 refine wpList_plain hgd fun K hK => ?_
 unfold Oper.wp
 rw [exec_bsC ho hx]
 exact hK _ _ hk
theorem builtK1 (po : Option Addr) (n c : Nat) : Tryz.prog.built 33 [(1, .slice po n c)] = some (cC 0 (.slice po n c)) := by kernel_rfl
theorem lgt_len15 (s k : Nat) (h : 1 ≤ k) : U.lgt s k ≤ s := by
 unfold U.lgt
 rcases s with _ | t
 ·rw [Nat.div_eq_of_lt (by omega)]; exact Nat.le_refl _
 ·obtain ⟨q, rfl⟩ : ∃ q, k = q + 1 := ⟨k - 1, by omega⟩
  refine Nat.div_le_of_le_mul ?_
  rw [Nat.add_mul, Nat.mul_add, Nat.one_mul, Nat.mul_one]
  omega
theorem shF_le {K : Nat} {b : List Nat} (h0 : 1 ≤ K) (hb : b.length ≤ 2000) (i : Nat) : (shF K b i).length ≤ 4000 := by
 rw [shF_len]
 have h1 : U.lgt b.length K ≤ b.length := lgt_len15 b.length K h0
 have h2 : H.cnt (U.lgt b.length K) = (U.lgt b.length K + 255) / 256 := rfl
 omega
theorem shF_lt (K : Nat) (b : List Nat) (i : Nat) : ∀ z ∈ shF K b i, z < 256 := flL_lt (shd_lt K b i)
theorem NL.int15 {B : Nat} {w : World} {v : Value} {S : List Nat} (h : NL B w v (S.map fun s : Nat => (s : Int))) : ∃ g, v = .slice (some ⟨g, 0, none⟩) S.length S.length ∧ H.IntAt w (some ⟨g, 0, none⟩) S.length (fun i => S.getD i 0) := by
 obtain ⟨g, e, _, hc⟩ := h
 rw [List.length_map] at e
 refine ⟨g, e, .inr ⟨g, 0, rfl, fun i hi => ?_⟩⟩
 rw [Nat.zero_add, hc.cell]
 simp [hi]
theorem IBuf.int15 {B : Nat} {w : World} {po : Option Addr} {n c : Nat} {L : List Nat} (h : IBuf B w (.slice po n c) L) (hn : n = L.length) : H.IntAt w po n (fun i => L.getD i 0) := by
 subst hn
 by_cases h0 : L = []
 ·subst h0; exact .inl rfl
 ·obtain ⟨g, c2, e, _, _, _, h3⟩ := h.open_ h0
  cases e
  exact .inr ⟨g, 0, rfl, fun i hi => by rw [Nat.zero_add]; exact h3 i hi⟩
end Go.Proofs.YtdohmokhfajjpaaGreatDoor

/- ShardAny: what it lets go. (Written by tools/gen_Bk15.py.) -/
namespace Go.Proofs.YtdohmokhfajjpaaGreatDoor
open Go Go.RowKit

set_option linter.unusedVariables false in
set_option maxRecDepth 100000 in
set_option maxHeartbeats 8000000 in
theorem shardAny_let (po fo : Option Addr) (n c fn fc : Nat) (k m fr tt : Int) (w : World) (h : 2000 < n ∨ k < 1 ∨ m < 1 ∨ 15 < k ∨ 16 - k < m ∨ 16 < fn) (hk : k ≤ 9223372036854775807) : Calls Tryz.prog 3 #[.slice po n c, .int .i64 k, .int .i64 m, .slice fo fn fc, .int .i64 fr, .int .i64 tt] w fun e w' => e = .returned (.bool true) ∧ Below w.heap.size w w' := by
 have HAW := hid (fun W => awake11_any W)
 by_cases h1 : (2000 : Int) < (n : Int)
 ·clear h hk
  go_enter Tryz.func3, Tryz.ntmps3
  go_wp2_with (go_at_call 4; refine (HAW.out _).mono ?_; rintro e w1 ⟨rfl, hb1⟩; have HB := hid hb1; clear hb1)
  go_ret
  exact ⟨rfl, HB.out⟩
 by_cases h2 : k < 1
 ·clear h hk
  go_enter Tryz.func3, Tryz.ntmps3
  go_wp2_with (go_at_call 4; refine (HAW.out _).mono ?_; rintro e w1 ⟨rfl, hb1⟩; have HB := hid hb1; clear hb1)
  go_ret
  exact ⟨rfl, HB.out⟩
 by_cases h3 : m < 1
 ·clear h hk
  go_enter Tryz.func3, Tryz.ntmps3
  go_wp2_with (go_at_call 4; refine (HAW.out _).mono ?_; rintro e w1 ⟨rfl, hb1⟩; have HB := hid hb1; clear hb1)
  go_ret
  exact ⟨rfl, HB.out⟩
 by_cases h4 : 15 < k
 ·clear h hk
  go_enter Tryz.func3, Tryz.ntmps3
  go_wp2_with (go_at_call 4; refine (HAW.out _).mono ?_; rintro e w1 ⟨rfl, hb1⟩; have HB := hid hb1; clear hb1)
  go_ret
  exact ⟨rfl, HB.out⟩
 have hw : IntKind.i64.wrap (16 - k) = 16 - k := IntWalk.i64_in _ ⟨by omega, by omega⟩
 by_cases h5 : 16 - k < m
 ·clear h hk
  go_enter Tryz.func3, Tryz.ntmps3
  go_wp2_with (go_at_call 4; refine (HAW.out _).mono ?_; rintro e w1 ⟨rfl, hb1⟩; have HB := hid hb1; clear hb1)
  go_ret
  exact ⟨rfl, HB.out⟩
 have h6 : (16 : Int) < (fn : Int) := by omega
 go_enter Tryz.func3, Tryz.ntmps3
 go_wp2_with (go_at_call 4; refine (HAW.out _).mono ?_; rintro e w1 ⟨rfl, hb1⟩; have HB := hid hb1; clear hb1)
 go_ret
 exact ⟨rfl, HB.out⟩
end Go.Proofs.YtdohmokhfajjpaaGreatDoor
