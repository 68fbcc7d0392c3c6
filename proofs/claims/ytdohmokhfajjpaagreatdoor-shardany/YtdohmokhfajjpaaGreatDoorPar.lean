/- Texts laid into one, cut to what is needed: the remark ahead of each part says what is proved there. -/
import Derived.Test.YtdohmokhfajjpaaGreatDoorPaq
/- Records in memory. -/
namespace Go.Proofs.YtdohmokhfajjpaaGreatDoor
open Go Go.RowKit

/-- A record as a value: texts, numbers, and the slice that leads to its parts. -/
structure Rv where
 id : ByteArray
 time : Int
 mark : Bool
 size : Int
 etag : ByteArray
 k : Int
 m : Int
 data : ByteArray
 sum : List Nat
 pv : Value
 up : ByteArray
def sumC (x : List Nat) : Array Value := (x.map u8).toArray
def Rv.cs (r : Rv) : Array Value := #[.string r.id, i64 r.time, .bool r.mark, i64 r.size, .string r.etag, i64 r.k, i64 r.m, .string r.data] ++ (sumC r.sum ++ #[r.pv, .string r.up])
def Rv.rc (r : Rv) (ps : Ps) : Rc := ⟨lst r.id, r.time, r.mark, r.size, lst r.etag, r.k, r.m, lst r.data, r.sum, ps, lst r.up⟩
structure Rv.ok (r : Rv) : Prop where
 sl : r.sum.length = 32
 s8 : ∀ x ∈ r.sum, x < 256
 i : r.id.size ≤ 100000
 e : r.etag.size ≤ 100000
 d : r.data.size ≤ 100000
 u : r.up.size ≤ 100000
theorem sumC_size (x : List Nat) : (sumC x).size = x.length := by simp [sumC]
theorem sumC_get {x : List Nat} {j : Nat} (h : j < x.length) : (sumC x)[j]? = some (u8 (x.getD j 0)) := by simp [sumC, h, List.getD]
section
variable {r : Rv} (h : r.ok)
include h
theorem Rv.ok.size : r.cs.size = 42 := by simp [Rv.cs, sumC_size, h.sl]
theorem Rv.ok.sum {j : Nat} (hj : j < 32) : r.cs[8 + j]? = some (u8 (r.sum.getD j 0)) := by
 unfold Rv.cs
 rw [Array.getElem?_append_right (by simp), Array.getElem?_append_left (by rw [sumC_size, h.sl]; simp; omega)]
 rw [show 8 + j - #[Value.string r.id, i64 r.time, .bool r.mark, i64 r.size, .string r.etag, i64 r.k, i64 r.m, .string r.data].size = j by simp]
 exact sumC_get (by rw [h.sl]; exact hj)
theorem Rv.ok.pv : r.cs[40]? = some r.pv := by
 unfold Rv.cs
 rw [Array.getElem?_append_right (by simp), Array.getElem?_append_right (by rw [sumC_size, h.sl]; simp), sumC_size, h.sl]
 rfl
theorem Rv.ok.up : r.cs[41]? = some (.string r.up) := by
 unfold Rv.cs
 rw [Array.getElem?_append_right (by simp), Array.getElem?_append_right (by rw [sumC_size, h.sl]; simp), sumC_size, h.sl]
 rfl
end
theorem Rv.get8 (r : Rv) (j : Nat) (hj : j < 8) : r.cs[j]? = #[Value.string r.id, i64 r.time, .bool r.mark, i64 r.size, .string r.etag, i64 r.k, i64 r.m, .string r.data][j]? := by
 unfold Rv.cs; rw [Array.getElem?_append_left (by simpa using hj)]
/-- What the cells of a record's block are. -/
structure RBox (w : World) (g : Nat) (r : Rv) : Prop where
 at_ : CAt w g r.cs 44
 c0 : w.cell? ⟨g, 0, none⟩ = some (.string r.id)
 c1 : w.cell? ⟨g, 1, none⟩ = some (i64 r.time)
 c2 : w.cell? ⟨g, 2, none⟩ = some (.bool r.mark)
 c3 : w.cell? ⟨g, 3, none⟩ = some (i64 r.size)
 c4 : w.cell? ⟨g, 4, none⟩ = some (.string r.etag)
 c5 : w.cell? ⟨g, 5, none⟩ = some (i64 r.k)
 c6 : w.cell? ⟨g, 6, none⟩ = some (i64 r.m)
 c7 : w.cell? ⟨g, 7, none⟩ = some (.string r.data)
 cs : ∀ j v, (sumC r.sum)[j]? = some v → w.cell? ⟨g, 8 + j, none⟩ = some v
 c40 : w.cell? ⟨g, 40, none⟩ = some r.pv
 c41 : w.cell? ⟨g, 41, none⟩ = some (.string r.up)
 free : ∀ i, w.frozen? ⟨g, i, none⟩ = false
theorem RBox.mk' {w : World} {g : Nat} {r : Rv} (h : r.ok) (hc : CAt w g r.cs 44) : RBox w g r where
 at_ := hc
 c0 := by rw [hc.cell, r.get8 0 (by omega)]; rfl
 c1 := by rw [hc.cell, r.get8 1 (by omega)]; rfl
 c2 := by rw [hc.cell, r.get8 2 (by omega)]; rfl
 c3 := by rw [hc.cell, r.get8 3 (by omega)]; rfl
 c4 := by rw [hc.cell, r.get8 4 (by omega)]; rfl
 c5 := by rw [hc.cell, r.get8 5 (by omega)]; rfl
 c6 := by rw [hc.cell, r.get8 6 (by omega)]; rfl
 c7 := by rw [hc.cell, r.get8 7 (by omega)]; rfl
 cs := fun j v hv => by
  have hj : j < 32 := by
   rcases Nat.lt_or_ge j 32 with q | q
   ·exact q
   ·rw [Array.getElem?_eq_none (by rw [sumC_size, h.sl]; exact q)] at hv; cases hv
  rw [hc.cell, h.sum hj, ← hv, sumC_get (by rw [h.sl]; exact hj)]
 c40 := by rw [hc.cell, h.pv]
 c41 := by rw [hc.cell, h.up]
 free := fun i => hc.free i
theorem RBox.below {w w' : World} {g : Nat} {r : Rv} (h : RBox w g r) (ho : r.ok) (hb : Below w.heap.size w w') : RBox w' g r := RBox.mk' ho (h.at_.below hb)
theorem sizeR : (Tryz.prog.info? 44).map (·.size) = some 42 := by kernel_rfl
theorem sizeD : (Tryz.prog.info? 41).map (·.size) = some 32 := by kernel_rfl
theorem wpList_boxR {ops : Array Oper} {rest : List Oper} {o : Oper} {a : Act} {w : World} {Q : Exit → Act → World → Prop} (hg : o.guard = none) (x : Operand) (ho : o.op = .box 44 x) (cs : Array Value) (hx : a.eval x = .agg cs)
  (h : ∀ w1 g, CAt w1 g cs 44 → Below w.heap.size w w1 → w.heap.size ≤ g → wpList Tryz.prog ops Q rest (a.put o.dst (ptr g)) w1) : wpList Tryz.prog ops Q (o :: rest) a w := by
 refine wpList_plain hg fun K hK => ?_
 unfold Oper.wp execOp
 simp only [ho, Instr.box, newVar, newRow, hx, Value.cells, Sem.run_bind]
 simp
 exact hK _ _ (h _ _ (CAt.made _ _ _) (below_al _ _) (Nat.le_refl _))
/-- Digests are the same, if their bytes are. -/
theorem part5 {x : List Nat} {i : Nat} (hi : i < x.length) (w : World) : (part 5 (sumC x) (i * 1)).run Tryz.prog w = .ok (u8 (x.getD i 0)) w := by
 have h5 : (isAgg 5).run Tryz.prog w = .ok false w := by kernel_rfl
 unfold part
 rw [Sem.run_bind, h5]
 simp only [Result.andThen_ok, Bool.false_eq_true, if_false, Nat.mul_one, sumC_get hi]
 rfl
set_option maxRecDepth 100000 in
theorem eqSum_in {x y : List Nat} (hx : x.length = 32) (hy : y.length = 32) (d : Nat) (he : ∀ (a b : Nat) (w : World), (Op.equalIn d 5 (u8 a) (u8 b)).run Tryz.prog w = .ok (a == b) w) (w : World) :
  (Op.equalIn (d + 1) 41 (.agg (sumC x)) (.agg (sumC y))).run Tryz.prog w = .ok (decide (x = y)) w := by
 have hu : Tryz.prog.underlying 41 = some (.array 32 5) := by kernel_rfl
 have hs : (sizeOf 5).run Tryz.prog w = .ok 1 w := by kernel_rfl
 simp only [Op.equalIn, Sem.run_bind, run_underlying hu, Result.andThen_ok, hs]
 rw [Std.Legacy.Range.forIn_eq_forIn_range']
 have hloop : ∀ (n s : Nat), s + n ≤ 32 → (forIn (m := Sem) (List.range' s n) ((none : Option Bool), ()) fun i (_ : Option Bool × Unit) => do
       let a ← part 5 (sumC x) (i * 1)
       let b ← part 5 (sumC y) (i * 1)
       let r ← Op.equalIn d 5 a b
       if (!r) = true then pure (ForInStep.done (some false, ())) else pure (ForInStep.yield (none, ()))).run Tryz.prog w =
   .ok (if (List.range' s n).all (fun i => x.getD i 0 == y.getD i 0) = true then (none, ()) else (some false, ())) w := fun n => by
  induction n with
  | zero => intro s _; simp
  | succ n ih =>
   intro s hs
   rw [List.range'_succ, List.forIn_cons, List.all_cons]
   simp only [Sem.run_bind, part5 (x := x) (i := s) (by omega), part5 (x := y) (i := s) (by omega), Result.andThen_ok, he]
   cases e : (x.getD s 0 == y.getD s 0)
   ·simp only [Bool.not_false, if_true, Sem.run_pure, Result.andThen_ok, Bool.false_and, Bool.false_eq_true, if_false]
   ·simp only [Bool.not_true, Bool.false_eq_true, if_false, Sem.run_pure, Result.andThen_ok, Bool.true_and]
    exact ih (s + 1) (by omega)
 have h32 := hloop 32 0 (by omega)
 simp only [Std.Legacy.Range.size, Nat.sub_zero, Nat.add_one_sub_one, Nat.div_one]
 rw [h32]
 have hall : (List.range' 0 32).all (fun i => x.getD i 0 == y.getD i 0) = decide (x = y) := by
  rw [Bool.eq_iff_iff, List.all_eq_true, decide_eq_true_eq]
  constructor
  ·intro h
   refine List.ext_getElem (by omega) fun i h1 h2 => ?_
   have := h i (by simp; omega)
   simpa [List.getD, h1, h2] using this
  ·intro h i _; rw [h]; simp
 rw [hall]
 cases decide (x = y) <;> simp
set_option maxRecDepth 100000 in
theorem eqSum {x y : List Nat} (hx : x.length = 32) (hy : y.length = 32) (w : World) : (binOp .eql 41 (.agg (sumC x)) (.agg (sumC y))).run Tryz.prog w = .ok (.bool (decide (x = y))) w := by
 rw [run_eql_struct, eqSum_in hx hy 9999 (fun a b w => by
  have := run_equalIn_int (P := Tryz.prog) w 9998 5 .u8 .u8 (a : Int) (b : Int) Tryz.underlying5
  unfold u8
  rw [this]
  congr 1
  rw [Bool.eq_iff_iff]; simp; omega) w]
 rfl
end Go.Proofs.YtdohmokhfajjpaaGreatDoor

/- Which parts may be: contracts of partsMake of package record and of the document's parts. -/
namespace Go.Proofs.YtdohmokhfajjpaaGreatDoor
open Go Go.RowKit

def mkP : Int → Int → Ps → Bool
 | _, left, [] => decide (left = 0)
 | last, left, p :: r => inR p.1 (last + 1) 10000 && (inR p.2 0 left && mkP p.1 (left - p.2) r)
theorem okPs_sum : ∀ {last : Int} {ps : Ps}, okPs last ps = true → 0 ≤ sumPs ps ∧ sumPs ps ≤ 65536 * ps.length
 | _, [], _ => by simp [sumPs]
 | last, p :: r, h => by
  simp [okPs, inR] at h
  have := okPs_sum h.2
  unfold sumPs at this ⊢
  simp only [List.map_cons, List.sum_cons, List.length_cons]
  omega
theorem mkP_eq : ∀ (ps : Ps) (last left : Int), 0 ≤ left → left ≤ 65536 → mkP last left ps = (okPs last ps && decide (sumPs ps = left))
 | [], last, left, h0, h1 => by simp [mkP, okPs, sumPs, eq_comm]
 | p :: r, last, left, h0, h1 => by
  have hs : sumPs (p :: r) = p.2 + sumPs r := by simp [sumPs]
  by_cases hb : 0 ≤ p.2 ∧ p.2 ≤ left
  ·have ih := mkP_eq r p.1 (left - p.2) (by omega) (by omega)
   have e1 : inR p.2 0 left = true := inR_iff.2 hb
   have e2 : inR p.2 0 65536 = true := inR_iff.2 (by omega)
   have e3 : decide (sumPs r = left - p.2) = decide (sumPs (p :: r) = left) := by rw [hs]; congr 1; rw [eq_iff_iff]; omega
   have e4 : inR p.1 (last + 1) 10000 = (decide (last < p.1) && decide (p.1 ≤ 10000)) := by unfold inR; congr 1
   unfold mkP okPs
   rw [e1, e2, ih, e3, e4]
   simp only [Bool.true_and, Bool.and_true, Bool.and_assoc]
  ·have e1 : inR p.2 0 left = false := by unfold inR; simp; omega
   have e5 : (okPs last (p :: r) && decide (sumPs (p :: r) = left)) = false := by
    cases h : okPs last (p :: r)
    ·rfl
    ·have h2 := h
     simp [okPs, inR] at h2
     have := okPs_sum h2.2
     simp only [Bool.true_and]
     exact decide_eq_false (by rw [hs]; omega)
   rw [e5]; unfold mkP; rw [e1]; simp
theorem okParts_mk {ps : Ps} {size : Int} (h0 : 0 ≤ size) (h1 : size ≤ 65536) (hne : ps ≠ []) (hl : ps.length ≤ 32) : okParts ps size = mkP 0 size ps := by
 rw [mkP_eq ps 0 size h0 h1]
 unfold okParts
 have : ps.isEmpty = false := by cases ps <;> simp_all
 simp [hl, this]
theorem PL.at {w : World} {po : Option Addr} {n c : Nat} {ps : Ps} (h : PL w (.slice po n c) ps) {k : Nat} (hk : k < ps.length) : ∃ b o, po = some ⟨b, o, none⟩ ∧ w.cell? ⟨b, o + k * 2, none⟩ = some (i64 (ps.getD k (0, 0)).1) ∧ w.cell? ⟨b, o + k * 2 + 1, none⟩ = some (i64 (ps.getD k (0, 0)).2) := by
 obtain ⟨po', c', e, _, _, h⟩ := h
 cases e
 rcases h with h | ⟨b, o, hp, h⟩
 ·subst h; simp at hk
 ·exact ⟨b, o, hp, h k hk⟩
theorem drop_consP {ps : Ps} {i : Nat} (h : i < ps.length) : ps.drop i = ps.getD i (0, 0) :: ps.drop (i + 1) := by
 rw [List.drop_eq_getElem_cons h]; simp [List.getD, h]
theorem mkB {w w1 : World} (h : Below w.heap.size w w1) {o : Obj} : Below w.heap.size w (w1.alloc o) := h.alloc h.size _
set_option maxRecDepth 100000 in
set_option maxHeartbeats 1000000 in
theorem partsMake_any (v : Value) (ps : Ps) (size : Int) (w : World) (hv : PL w v ps) (h0 : 0 ≤ size) (h1 : size ≤ 65536) : Calls Tryz.prog 76 #[v, i64 size] w fun e w' => e = .returned (.bool (okParts ps size)) ∧ Below w.heap.size w w' := by
 have HV := hid hv
 obtain ⟨po, c, rfl, hc, hl, _⟩ := hv
 by_cases hne : ps = []
 ·subst hne
  go_enter Tryz.func76, Tryz.ntmps76
  go_wp2
  go_ret
  exact ⟨by simp [okParts, okPs], Below.refl _ _⟩
 have hpos : 0 < ps.length := List.length_pos_iff.2 hne
 have hz : ((ps.length : Int) == 0) = false := by simp; omega
 by_cases hbig : 32 < ps.length
 ·have hbig' : 32 < (ps.length : Int) := by omega
  have e : Hid (okParts ps size = false) := by unfold okParts Hid; simp; omega
  go_enter Tryz.func76, Tryz.ntmps76
  go_wp2
  go_ret
  exact ⟨by rw [e.out]; rfl, Below.refl _ _⟩
 have hsm : ¬ 32 < (ps.length : Int) := by omega
 have HE := hid (okParts_mk h0 h1 hne (by omega))
 clear hz
 have hz : ¬ (ps.length : Int) = 0 := by omega
 generalize okParts ps size = R at *
 go_enter Tryz.func76, Tryz.ntmps76
 go_wp2
 go_loopw [5, 6, 18] (fun lv fv iv wr => ∃ (k : Nat) (last left : Int), k ≤ ps.length ∧ lv = i64 last ∧ fv = i64 left ∧ iv = i64 k ∧ 0 ≤ last ∧ last ≤ 10000 ∧ 0 ≤ left ∧ left ≤ 65536 ∧ R = mkP last left (ps.drop k) ∧ Below w.heap.size w wr) (fun _ _ iv _ => (ps.length - intOf iv).toNat)
 case atStart => exact ⟨0, 0, size, by omega, rfl, rfl, rfl, by omega, by omega, h0, h1, HE.out, Below.refl _ _⟩
 case round =>
  clear HE hz hsm
  obtain ⟨k, last, left, hk, rfl, rfl, rfl, hl0, hl1, hf0, hf1, hR, hw⟩ := hrel
  have HW := hid hw
  by_cases hlt : k < ps.length
  ·have hlt' : (k : Int) < (ps.length : Int) := by omega
   rw [drop_consP hlt, mkP] at hR
   obtain ⟨b, o, hpo, x1, x2⟩ := (HV.out.below hw).at hlt
   subst hpo
   have HR := hid hR
   clear hR hw
   generalize hX1 : (ps.getD k (0, 0)).1 = X1 at *
   generalize hX2 : (ps.getD k (0, 0)).2 = X2 at *
   clear hX1 hX2
   cases i1 : inR X1 (last + 1) 10000
   ·rw [i1] at HR
    go_wp2_with (go_at_call 50; refine (between_any _ _ _ _).mono ?_; rintro e w' ⟨rfl, hw'⟩; rw [i1]; have hw2 := hw'.symm; subst hw2)
    go_ret
    exact ⟨by rw [HR.out]; rfl, mkB HW.out⟩
   ·rw [i1] at HR
    have hr1 := inR_iff.1 i1
    cases i2 : inR X2 0 left
    ·rw [i2] at HR
     go_wp2_with (go_at_call 50; refine (between_any _ _ _ _).mono ?_; rintro e w' ⟨rfl, hw'⟩; first | rw [i1] | rw [i2]; have hw2 := hw'.symm; subst hw2)
     go_ret
     exact ⟨by rw [HR.out]; rfl, mkB HW.out⟩
    ·rw [i2] at HR
     have hr2 := inR_iff.1 i2
     go_wp2_with (go_at_call 50; refine (between_any _ _ _ _).mono ?_; rintro e w' ⟨rfl, hw'⟩; first | rw [i1] | rw [i2]; have hw2 := hw'.symm; subst hw2)
     go_region
     go_wp2
     exact ⟨⟨k + 1, X1, left - X2, by omega, rfl, rfl, by simp, by omega, by omega, by omega, by omega, by rw [HR.out]; rfl, (mkB HW.out).drew⟩, by simp [intOf]; omega⟩
  ·have hlt' : ¬ (k : Int) < (ps.length : Int) := by omega
   rw [List.drop_eq_nil_of_le (by omega), mkP] at hR
   have HR := hid hR
   clear hR hw
   go_wp2
   go_ret
   exact ⟨by rw [HR.out]; rfl, HW.out⟩
end Go.Proofs.YtdohmokhfajjpaaGreatDoor

/- Contracts of isVersion and Check of package record. (Written by tools/gen_Vs.py.) -/
namespace Go.Proofs.YtdohmokhfajjpaaGreatDoor
open Go Go.RowKit

def upOk (u : ByteArray) : Bool := u.toList.isEmpty || okId (lst u)
def versOk (r : Rv) (ps : Ps) : Bool := inR r.size 0 65536 && (okTag (lst r.etag) && (inR r.k 1 16 && (inR r.m 1 (16 - r.k) && (okData (lst r.data) && (okParts ps r.size && upOk r.up)))))
set_option maxRecDepth 100000 in
set_option maxHeartbeats 1000000 in
theorem vers_0 (r : Rv) (hr : r.ok) (ps : Ps) (w : World) (hp : PL w r.pv ps)  (h0 : inR r.size 0 65536 = false) : Calls Tryz.prog 52 #[.agg r.cs] w fun e w' => e = .returned (.bool false) ∧ Below w.heap.size w w' := by
 have HR := hid hr
 have HP := hid hp
 have H0 := hid h0
 clear hr hp h0
 go_enter Tryz.func52, Tryz.ntmps52
 go_wp2_with (first
  | ((with_reducible refine wpList_boxR rfl _ rfl r.cs ?_ ?_); exact rfl; intro w1 g1 hc1 hb1 hg1; have HA := hid (RBox.mk' HR.out hc1); have HB := hid hb1; have HP1 := hid (HP.out.below hb1); have c3 := HA.out.c3; have c4 := HA.out.c4; have c5 := HA.out.c5; have c6 := HA.out.c6; have c7 := HA.out.c7; have c40 := HA.out.c40; have c41 := HA.out.c41; clear hc1 hb1)
  | (go_at_call 50; refine (between_any _ _ _ _).mono ?_; rintro e w' ⟨rfl, hw'⟩; (first | rw [H0.out]); have hw2 := hw'.symm; subst hw2))
 go_ret
 exact ⟨rfl, HB.out⟩
set_option maxRecDepth 100000 in
set_option maxHeartbeats 1000000 in
theorem vers_1 (r : Rv) (hr : r.ok) (ps : Ps) (w : World) (hp : PL w r.pv ps) (h0 : inR r.size 0 65536 = true) (h1 : okTag (lst r.etag) = false) : Calls Tryz.prog 52 #[.agg r.cs] w fun e w' => e = .returned (.bool false) ∧ Below w.heap.size w w' := by
 have HR := hid hr
 have HP := hid hp
 have H0 := hid h0
 have H1 := hid h1
 clear hr hp h0 h1
 go_enter Tryz.func52, Tryz.ntmps52
 go_wp2_with (first
  | ((with_reducible refine wpList_boxR rfl _ rfl r.cs ?_ ?_); exact rfl; intro w1 g1 hc1 hb1 hg1; have HA := hid (RBox.mk' HR.out hc1); have HB := hid hb1; have HP1 := hid (HP.out.below hb1); have c3 := HA.out.c3; have c4 := HA.out.c4; have c5 := HA.out.c5; have c6 := HA.out.c6; have c7 := HA.out.c7; have c40 := HA.out.c40; have c41 := HA.out.c41; clear hc1 hb1)
  | (go_at_call 50; refine (between_any _ _ _ _).mono ?_; rintro e w' ⟨rfl, hw'⟩; (first | rw [H0.out]); have hw2 := hw'.symm; subst hw2)
  | (go_at_call 74; refine (isTag_any _ _ (by have := HR.out.e; omega)).mono ?_; rintro e w2 ⟨rfl, hb2⟩; rw [H1.out]; replace HA := hid (HA.out.below HR.out hb2); replace HP1 := hid (HP1.out.below hb2); replace HB := hid (below_on HB.out hb2); clear c3 c4 c5 c6 c7 c40 c41; have c3 := HA.out.c3; have c4 := HA.out.c4; have c5 := HA.out.c5; have c6 := HA.out.c6; have c7 := HA.out.c7; have c40 := HA.out.c40; have c41 := HA.out.c41; clear hb2))
 go_ret
 exact ⟨rfl, HB.out⟩
set_option maxRecDepth 100000 in
set_option maxHeartbeats 1000000 in
theorem vers_2 (r : Rv) (hr : r.ok) (ps : Ps) (w : World) (hp : PL w r.pv ps) (h0 : inR r.size 0 65536 = true) (h1 : okTag (lst r.etag) = true) (h2 : inR r.k 1 16 = false) : Calls Tryz.prog 52 #[.agg r.cs] w fun e w' => e = .returned (.bool false) ∧ Below w.heap.size w w' := by
 have HR := hid hr
 have HP := hid hp
 have H0 := hid h0
 have H1 := hid h1
 have H2 := hid h2
 clear hr hp h0 h1 h2
 go_enter Tryz.func52, Tryz.ntmps52
 go_wp2_with (first
  | ((with_reducible refine wpList_boxR rfl _ rfl r.cs ?_ ?_); exact rfl; intro w1 g1 hc1 hb1 hg1; have HA := hid (RBox.mk' HR.out hc1); have HB := hid hb1; have HP1 := hid (HP.out.below hb1); have c3 := HA.out.c3; have c4 := HA.out.c4; have c5 := HA.out.c5; have c6 := HA.out.c6; have c7 := HA.out.c7; have c40 := HA.out.c40; have c41 := HA.out.c41; clear hc1 hb1)
  | (go_at_call 50; refine (between_any _ _ _ _).mono ?_; rintro e w' ⟨rfl, hw'⟩; (first | rw [H0.out] | rw [H2.out]); have hw2 := hw'.symm; subst hw2)
  | (go_at_call 74; refine (isTag_any _ _ (by have := HR.out.e; omega)).mono ?_; rintro e w2 ⟨rfl, hb2⟩; rw [H1.out]; replace HA := hid (HA.out.below HR.out hb2); replace HP1 := hid (HP1.out.below hb2); replace HB := hid (below_on HB.out hb2); clear c3 c4 c5 c6 c7 c40 c41; have c3 := HA.out.c3; have c4 := HA.out.c4; have c5 := HA.out.c5; have c6 := HA.out.c6; have c7 := HA.out.c7; have c40 := HA.out.c40; have c41 := HA.out.c41; clear hb2))
 go_ret
 exact ⟨rfl, HB.out⟩
set_option maxRecDepth 100000 in
set_option maxHeartbeats 1000000 in
theorem vers_3 (r : Rv) (hr : r.ok) (ps : Ps) (w : World) (hp : PL w r.pv ps) (h0 : inR r.size 0 65536 = true) (h1 : okTag (lst r.etag) = true) (h2 : inR r.k 1 16 = true) (h3 : inR r.m 1 (16 - r.k) = false) : Calls Tryz.prog 52 #[.agg r.cs] w fun e w' => e = .returned (.bool false) ∧ Below w.heap.size w w' := by
 have HR := hid hr
 have HP := hid hp
 have H0 := hid h0
 have H1 := hid h1
 have H2 := hid h2
 have H3 := hid h3
 have hk := inR_iff.1 h2
 have hk1 := hk.1
 have hk2 := hk.2
 clear hk
 clear hr hp h0 h1 h2 h3
 go_enter Tryz.func52, Tryz.ntmps52
 go_wp2_with (first
  | ((with_reducible refine wpList_boxR rfl _ rfl r.cs ?_ ?_); exact rfl; intro w1 g1 hc1 hb1 hg1; have HA := hid (RBox.mk' HR.out hc1); have HB := hid hb1; have HP1 := hid (HP.out.below hb1); have c3 := HA.out.c3; have c4 := HA.out.c4; have c5 := HA.out.c5; have c6 := HA.out.c6; have c7 := HA.out.c7; have c40 := HA.out.c40; have c41 := HA.out.c41; clear hc1 hb1)
  | (go_at_call 50; refine (between_any _ _ _ _).mono ?_; rintro e w' ⟨rfl, hw'⟩; (first | rw [H0.out] | rw [H2.out] | rw [H3.out]); have hw2 := hw'.symm; subst hw2)
  | (go_at_call 74; refine (isTag_any _ _ (by have := HR.out.e; omega)).mono ?_; rintro e w2 ⟨rfl, hb2⟩; rw [H1.out]; replace HA := hid (HA.out.below HR.out hb2); replace HP1 := hid (HP1.out.below hb2); replace HB := hid (below_on HB.out hb2); clear c3 c4 c5 c6 c7 c40 c41; have c3 := HA.out.c3; have c4 := HA.out.c4; have c5 := HA.out.c5; have c6 := HA.out.c6; have c7 := HA.out.c7; have c40 := HA.out.c40; have c41 := HA.out.c41; clear hb2))
 go_ret
 exact ⟨rfl, HB.out⟩
set_option maxRecDepth 100000 in
set_option maxHeartbeats 1000000 in
theorem vers_4 (r : Rv) (hr : r.ok) (ps : Ps) (w : World) (hp : PL w r.pv ps) (h0 : inR r.size 0 65536 = true) (h1 : okTag (lst r.etag) = true) (h2 : inR r.k 1 16 = true) (h3 : inR r.m 1 (16 - r.k) = true) (h4 : okData (lst r.data) = false) : Calls Tryz.prog 52 #[.agg r.cs] w fun e w' => e = .returned (.bool false) ∧ Below w.heap.size w w' := by
 have HR := hid hr
 have HP := hid hp
 have H0 := hid h0
 have H1 := hid h1
 have H2 := hid h2
 have H3 := hid h3
 have H4 := hid h4
 have hk := inR_iff.1 h2
 have hk1 := hk.1
 have hk2 := hk.2
 clear hk
 clear hr hp h0 h1 h2 h3 h4
 go_enter Tryz.func52, Tryz.ntmps52
 go_wp2_with (first
  | ((with_reducible refine wpList_boxR rfl _ rfl r.cs ?_ ?_); exact rfl; intro w1 g1 hc1 hb1 hg1; have HA := hid (RBox.mk' HR.out hc1); have HB := hid hb1; have HP1 := hid (HP.out.below hb1); have c3 := HA.out.c3; have c4 := HA.out.c4; have c5 := HA.out.c5; have c6 := HA.out.c6; have c7 := HA.out.c7; have c40 := HA.out.c40; have c41 := HA.out.c41; clear hc1 hb1)
  | (go_at_call 50; refine (between_any _ _ _ _).mono ?_; rintro e w' ⟨rfl, hw'⟩; (first | rw [H0.out] | rw [H2.out] | rw [H3.out]); have hw2 := hw'.symm; subst hw2)
  | (go_at_call 74; refine (isTag_any _ _ (by have := HR.out.e; omega)).mono ?_; rintro e w2 ⟨rfl, hb2⟩; rw [H1.out]; replace HA := hid (HA.out.below HR.out hb2); replace HP1 := hid (HP1.out.below hb2); replace HB := hid (below_on HB.out hb2); clear c3 c4 c5 c6 c7 c40 c41; have c3 := HA.out.c3; have c4 := HA.out.c4; have c5 := HA.out.c5; have c6 := HA.out.c6; have c7 := HA.out.c7; have c40 := HA.out.c40; have c41 := HA.out.c41; clear hb2)
  | (go_at_call 75; refine (isDataName_any _ _ (by have := HR.out.d; omega)).mono ?_; rintro e w3 ⟨rfl, hb3⟩; rw [H4.out]; replace HA := hid (HA.out.below HR.out hb3); replace HP1 := hid (HP1.out.below hb3); replace HB := hid (below_on HB.out hb3); clear c3 c4 c5 c6 c7 c40 c41; have c3 := HA.out.c3; have c4 := HA.out.c4; have c5 := HA.out.c5; have c6 := HA.out.c6; have c7 := HA.out.c7; have c40 := HA.out.c40; have c41 := HA.out.c41; clear hb3))
 go_ret
 exact ⟨rfl, HB.out⟩
set_option maxRecDepth 100000 in
set_option maxHeartbeats 1000000 in
theorem vers_5 (r : Rv) (hr : r.ok) (ps : Ps) (w : World) (hp : PL w r.pv ps) (h0 : inR r.size 0 65536 = true) (h1 : okTag (lst r.etag) = true) (h2 : inR r.k 1 16 = true) (h3 : inR r.m 1 (16 - r.k) = true) (h4 : okData (lst r.data) = true) (h5 : okParts ps r.size = false) : Calls Tryz.prog 52 #[.agg r.cs] w fun e w' => e = .returned (.bool false) ∧ Below w.heap.size w w' := by
 have HR := hid hr
 have HP := hid hp
 have H0 := hid h0
 have H1 := hid h1
 have H2 := hid h2
 have H3 := hid h3
 have H4 := hid h4
 have H5 := hid h5
 have hk := inR_iff.1 h2
 have hk1 := hk.1
 have hk2 := hk.2
 clear hk
 have hz := inR_iff.1 h0
 have hz1 := hz.1
 have hz2 := hz.2
 clear hz
 clear hr hp h0 h1 h2 h3 h4 h5
 go_enter Tryz.func52, Tryz.ntmps52
 go_wp2_with (first
  | ((with_reducible refine wpList_boxR rfl _ rfl r.cs ?_ ?_); exact rfl; intro w1 g1 hc1 hb1 hg1; have HA := hid (RBox.mk' HR.out hc1); have HB := hid hb1; have HP1 := hid (HP.out.below hb1); have c3 := HA.out.c3; have c4 := HA.out.c4; have c5 := HA.out.c5; have c6 := HA.out.c6; have c7 := HA.out.c7; have c40 := HA.out.c40; have c41 := HA.out.c41; clear hc1 hb1)
  | (go_at_call 50; refine (between_any _ _ _ _).mono ?_; rintro e w' ⟨rfl, hw'⟩; (first | rw [H0.out] | rw [H2.out] | rw [H3.out]); have hw2 := hw'.symm; subst hw2)
  | (go_at_call 74; refine (isTag_any _ _ (by have := HR.out.e; omega)).mono ?_; rintro e w2 ⟨rfl, hb2⟩; rw [H1.out]; replace HA := hid (HA.out.below HR.out hb2); replace HP1 := hid (HP1.out.below hb2); replace HB := hid (below_on HB.out hb2); clear c3 c4 c5 c6 c7 c40 c41; have c3 := HA.out.c3; have c4 := HA.out.c4; have c5 := HA.out.c5; have c6 := HA.out.c6; have c7 := HA.out.c7; have c40 := HA.out.c40; have c41 := HA.out.c41; clear hb2)
  | (go_at_call 75; refine (isDataName_any _ _ (by have := HR.out.d; omega)).mono ?_; rintro e w3 ⟨rfl, hb3⟩; rw [H4.out]; replace HA := hid (HA.out.below HR.out hb3); replace HP1 := hid (HP1.out.below hb3); replace HB := hid (below_on HB.out hb3); clear c3 c4 c5 c6 c7 c40 c41; have c3 := HA.out.c3; have c4 := HA.out.c4; have c5 := HA.out.c5; have c6 := HA.out.c6; have c7 := HA.out.c7; have c40 := HA.out.c40; have c41 := HA.out.c41; clear hb3)
  | (go_at_call 76; refine (partsMake_any _ ps _ _ HP1.out hz1 hz2).mono ?_; rintro e w4 ⟨rfl, hb4⟩; rw [H5.out]; replace HA := hid (HA.out.below HR.out hb4); replace HP1 := hid (HP1.out.below hb4); replace HB := hid (below_on HB.out hb4); clear c3 c4 c5 c6 c7 c40 c41; have c3 := HA.out.c3; have c4 := HA.out.c4; have c5 := HA.out.c5; have c6 := HA.out.c6; have c7 := HA.out.c7; have c40 := HA.out.c40; have c41 := HA.out.c41; clear hb4))
 go_ret
 exact ⟨rfl, HB.out⟩
set_option maxRecDepth 100000 in
set_option maxHeartbeats 1000000 in
theorem vers_6a (r : Rv) (hr : r.ok) (ps : Ps) (w : World) (hp : PL w r.pv ps) (h0 : inR r.size 0 65536 = true) (h1 : okTag (lst r.etag) = true) (h2 : inR r.k 1 16 = true) (h3 : inR r.m 1 (16 - r.k) = true) (h4 : okData (lst r.data) = true) (h5 : okParts ps r.size = true) (h6 : r.up.toList.isEmpty = true) : Calls Tryz.prog 52 #[.agg r.cs] w fun e w' => e = .returned (.bool true) ∧ Below w.heap.size w w' := by
 have HR := hid hr
 have HP := hid hp
 have H0 := hid h0
 have H1 := hid h1
 have H2 := hid h2
 have H3 := hid h3
 have H4 := hid h4
 have H5 := hid h5
 have hk := inR_iff.1 h2
 have hk1 := hk.1
 have hk2 := hk.2
 clear hk
 have hz := inR_iff.1 h0
 have hz1 := hz.1
 have hz2 := hz.2
 clear hz
 clear hr hp h0 h1 h2 h3 h4 h5
 go_enter Tryz.func52, Tryz.ntmps52
 go_wp2_with (first
  | ((with_reducible refine wpList_boxR rfl _ rfl r.cs ?_ ?_); exact rfl; intro w1 g1 hc1 hb1 hg1; have HA := hid (RBox.mk' HR.out hc1); have HB := hid hb1; have HP1 := hid (HP.out.below hb1); have c3 := HA.out.c3; have c4 := HA.out.c4; have c5 := HA.out.c5; have c6 := HA.out.c6; have c7 := HA.out.c7; have c40 := HA.out.c40; have c41 := HA.out.c41; clear hc1 hb1)
  | (go_at_call 50; refine (between_any _ _ _ _).mono ?_; rintro e w' ⟨rfl, hw'⟩; (first | rw [H0.out] | rw [H2.out] | rw [H3.out]); have hw2 := hw'.symm; subst hw2)
  | (go_at_call 74; refine (isTag_any _ _ (by have := HR.out.e; omega)).mono ?_; rintro e w2 ⟨rfl, hb2⟩; rw [H1.out]; replace HA := hid (HA.out.below HR.out hb2); replace HP1 := hid (HP1.out.below hb2); replace HB := hid (below_on HB.out hb2); clear c3 c4 c5 c6 c7 c40 c41; have c3 := HA.out.c3; have c4 := HA.out.c4; have c5 := HA.out.c5; have c6 := HA.out.c6; have c7 := HA.out.c7; have c40 := HA.out.c40; have c41 := HA.out.c41; clear hb2)
  | (go_at_call 75; refine (isDataName_any _ _ (by have := HR.out.d; omega)).mono ?_; rintro e w3 ⟨rfl, hb3⟩; rw [H4.out]; replace HA := hid (HA.out.below HR.out hb3); replace HP1 := hid (HP1.out.below hb3); replace HB := hid (below_on HB.out hb3); clear c3 c4 c5 c6 c7 c40 c41; have c3 := HA.out.c3; have c4 := HA.out.c4; have c5 := HA.out.c5; have c6 := HA.out.c6; have c7 := HA.out.c7; have c40 := HA.out.c40; have c41 := HA.out.c41; clear hb3)
  | (go_at_call 76; refine (partsMake_any _ ps _ _ HP1.out hz1 hz2).mono ?_; rintro e w4 ⟨rfl, hb4⟩; rw [H5.out]; replace HA := hid (HA.out.below HR.out hb4); replace HP1 := hid (HP1.out.below hb4); replace HB := hid (below_on HB.out hb4); clear c3 c4 c5 c6 c7 c40 c41; have c3 := HA.out.c3; have c4 := HA.out.c4; have c5 := HA.out.c5; have c6 := HA.out.c6; have c7 := HA.out.c7; have c40 := HA.out.c40; have c41 := HA.out.c41; clear hb4))
 go_ret
 exact ⟨rfl, HB.out⟩
set_option maxRecDepth 100000 in
set_option maxHeartbeats 1000000 in
theorem vers_6b (r : Rv) (hr : r.ok) (ps : Ps) (w : World) (hp : PL w r.pv ps) (h0 : inR r.size 0 65536 = true) (h1 : okTag (lst r.etag) = true) (h2 : inR r.k 1 16 = true) (h3 : inR r.m 1 (16 - r.k) = true) (h4 : okData (lst r.data) = true) (h5 : okParts ps r.size = true) (h6 : r.up.toList.isEmpty = false) (h7 : okId (lst r.up) = true) : Calls Tryz.prog 52 #[.agg r.cs] w fun e w' => e = .returned (.bool true) ∧ Below w.heap.size w w' := by
 have HR := hid hr
 have HP := hid hp
 have H0 := hid h0
 have H1 := hid h1
 have H2 := hid h2
 have H3 := hid h3
 have H4 := hid h4
 have H5 := hid h5
 have hk := inR_iff.1 h2
 have hk1 := hk.1
 have hk2 := hk.2
 clear hk
 have hz := inR_iff.1 h0
 have hz1 := hz.1
 have hz2 := hz.2
 clear hz
 have H7 := hid h7
 clear hr hp h0 h1 h2 h3 h4 h5 h7
 go_enter Tryz.func52, Tryz.ntmps52
 go_wp2_with (first
  | ((with_reducible refine wpList_boxR rfl _ rfl r.cs ?_ ?_); exact rfl; intro w1 g1 hc1 hb1 hg1; have HA := hid (RBox.mk' HR.out hc1); have HB := hid hb1; have HP1 := hid (HP.out.below hb1); have c3 := HA.out.c3; have c4 := HA.out.c4; have c5 := HA.out.c5; have c6 := HA.out.c6; have c7 := HA.out.c7; have c40 := HA.out.c40; have c41 := HA.out.c41; clear hc1 hb1)
  | (go_at_call 50; refine (between_any _ _ _ _).mono ?_; rintro e w' ⟨rfl, hw'⟩; (first | rw [H0.out] | rw [H2.out] | rw [H3.out]); have hw2 := hw'.symm; subst hw2)
  | (go_at_call 74; refine (isTag_any _ _ (by have := HR.out.e; omega)).mono ?_; rintro e w2 ⟨rfl, hb2⟩; rw [H1.out]; replace HA := hid (HA.out.below HR.out hb2); replace HP1 := hid (HP1.out.below hb2); replace HB := hid (below_on HB.out hb2); clear c3 c4 c5 c6 c7 c40 c41; have c3 := HA.out.c3; have c4 := HA.out.c4; have c5 := HA.out.c5; have c6 := HA.out.c6; have c7 := HA.out.c7; have c40 := HA.out.c40; have c41 := HA.out.c41; clear hb2)
  | (go_at_call 75; refine (isDataName_any _ _ (by have := HR.out.d; omega)).mono ?_; rintro e w3 ⟨rfl, hb3⟩; rw [H4.out]; replace HA := hid (HA.out.below HR.out hb3); replace HP1 := hid (HP1.out.below hb3); replace HB := hid (below_on HB.out hb3); clear c3 c4 c5 c6 c7 c40 c41; have c3 := HA.out.c3; have c4 := HA.out.c4; have c5 := HA.out.c5; have c6 := HA.out.c6; have c7 := HA.out.c7; have c40 := HA.out.c40; have c41 := HA.out.c41; clear hb3)
  | (go_at_call 76; refine (partsMake_any _ ps _ _ HP1.out hz1 hz2).mono ?_; rintro e w4 ⟨rfl, hb4⟩; rw [H5.out]; replace HA := hid (HA.out.below HR.out hb4); replace HP1 := hid (HP1.out.below hb4); replace HB := hid (below_on HB.out hb4); clear c3 c4 c5 c6 c7 c40 c41; have c3 := HA.out.c3; have c4 := HA.out.c4; have c5 := HA.out.c5; have c6 := HA.out.c6; have c7 := HA.out.c7; have c40 := HA.out.c40; have c41 := HA.out.c41; clear hb4)
  | (go_at_call 49; refine (isID_any _ _ (by have := HR.out.u; omega)).mono ?_; rintro e w5 ⟨rfl, hb5⟩; rw [H7.out]; replace HA := hid (HA.out.below HR.out hb5); replace HP1 := hid (HP1.out.below hb5); replace HB := hid (below_on HB.out hb5); clear c3 c4 c5 c6 c7 c40 c41; have c3 := HA.out.c3; have c4 := HA.out.c4; have c5 := HA.out.c5; have c6 := HA.out.c6; have c7 := HA.out.c7; have c40 := HA.out.c40; have c41 := HA.out.c41; clear hb5))
 go_ret
 exact ⟨rfl, HB.out⟩
set_option maxRecDepth 100000 in
set_option maxHeartbeats 1000000 in
theorem vers_6c (r : Rv) (hr : r.ok) (ps : Ps) (w : World) (hp : PL w r.pv ps) (h0 : inR r.size 0 65536 = true) (h1 : okTag (lst r.etag) = true) (h2 : inR r.k 1 16 = true) (h3 : inR r.m 1 (16 - r.k) = true) (h4 : okData (lst r.data) = true) (h5 : okParts ps r.size = true) (h6 : r.up.toList.isEmpty = false) (h7 : okId (lst r.up) = false) : Calls Tryz.prog 52 #[.agg r.cs] w fun e w' => e = .returned (.bool false) ∧ Below w.heap.size w w' := by
 have HR := hid hr
 have HP := hid hp
 have H0 := hid h0
 have H1 := hid h1
 have H2 := hid h2
 have H3 := hid h3
 have H4 := hid h4
 have H5 := hid h5
 have hk := inR_iff.1 h2
 have hk1 := hk.1
 have hk2 := hk.2
 clear hk
 have hz := inR_iff.1 h0
 have hz1 := hz.1
 have hz2 := hz.2
 clear hz
 have H7 := hid h7
 clear hr hp h0 h1 h2 h3 h4 h5 h7
 go_enter Tryz.func52, Tryz.ntmps52
 go_wp2_with (first
  | ((with_reducible refine wpList_boxR rfl _ rfl r.cs ?_ ?_); exact rfl; intro w1 g1 hc1 hb1 hg1; have HA := hid (RBox.mk' HR.out hc1); have HB := hid hb1; have HP1 := hid (HP.out.below hb1); have c3 := HA.out.c3; have c4 := HA.out.c4; have c5 := HA.out.c5; have c6 := HA.out.c6; have c7 := HA.out.c7; have c40 := HA.out.c40; have c41 := HA.out.c41; clear hc1 hb1)
  | (go_at_call 50; refine (between_any _ _ _ _).mono ?_; rintro e w' ⟨rfl, hw'⟩; (first | rw [H0.out] | rw [H2.out] | rw [H3.out]); have hw2 := hw'.symm; subst hw2)
  | (go_at_call 74; refine (isTag_any _ _ (by have := HR.out.e; omega)).mono ?_; rintro e w2 ⟨rfl, hb2⟩; rw [H1.out]; replace HA := hid (HA.out.below HR.out hb2); replace HP1 := hid (HP1.out.below hb2); replace HB := hid (below_on HB.out hb2); clear c3 c4 c5 c6 c7 c40 c41; have c3 := HA.out.c3; have c4 := HA.out.c4; have c5 := HA.out.c5; have c6 := HA.out.c6; have c7 := HA.out.c7; have c40 := HA.out.c40; have c41 := HA.out.c41; clear hb2)
  | (go_at_call 75; refine (isDataName_any _ _ (by have := HR.out.d; omega)).mono ?_; rintro e w3 ⟨rfl, hb3⟩; rw [H4.out]; replace HA := hid (HA.out.below HR.out hb3); replace HP1 := hid (HP1.out.below hb3); replace HB := hid (below_on HB.out hb3); clear c3 c4 c5 c6 c7 c40 c41; have c3 := HA.out.c3; have c4 := HA.out.c4; have c5 := HA.out.c5; have c6 := HA.out.c6; have c7 := HA.out.c7; have c40 := HA.out.c40; have c41 := HA.out.c41; clear hb3)
  | (go_at_call 76; refine (partsMake_any _ ps _ _ HP1.out hz1 hz2).mono ?_; rintro e w4 ⟨rfl, hb4⟩; rw [H5.out]; replace HA := hid (HA.out.below HR.out hb4); replace HP1 := hid (HP1.out.below hb4); replace HB := hid (below_on HB.out hb4); clear c3 c4 c5 c6 c7 c40 c41; have c3 := HA.out.c3; have c4 := HA.out.c4; have c5 := HA.out.c5; have c6 := HA.out.c6; have c7 := HA.out.c7; have c40 := HA.out.c40; have c41 := HA.out.c41; clear hb4)
  | (go_at_call 49; refine (isID_any _ _ (by have := HR.out.u; omega)).mono ?_; rintro e w5 ⟨rfl, hb5⟩; rw [H7.out]; replace HA := hid (HA.out.below HR.out hb5); replace HP1 := hid (HP1.out.below hb5); replace HB := hid (below_on HB.out hb5); clear c3 c4 c5 c6 c7 c40 c41; have c3 := HA.out.c3; have c4 := HA.out.c4; have c5 := HA.out.c5; have c6 := HA.out.c6; have c7 := HA.out.c7; have c40 := HA.out.c40; have c41 := HA.out.c41; clear hb5))
 go_ret
 exact ⟨rfl, HB.out⟩
theorem isVersion_any (r : Rv) (hr : r.ok) (ps : Ps) (w : World) (hp : PL w r.pv ps) : Calls Tryz.prog 52 #[.agg r.cs] w fun e w' => e = .returned (.bool (versOk r ps)) ∧ Below w.heap.size w w' := by
 unfold versOk upOk
 cases h0 : inR r.size 0 65536
 ·exact vers_0 r hr ps w hp h0
 cases h1 : okTag (lst r.etag)
 ·exact vers_1 r hr ps w hp h0 h1
 cases h2 : inR r.k 1 16
 ·exact vers_2 r hr ps w hp h0 h1 h2
 cases h3 : inR r.m 1 (16 - r.k)
 ·exact vers_3 r hr ps w hp h0 h1 h2 h3
 cases h4 : okData (lst r.data)
 ·exact vers_4 r hr ps w hp h0 h1 h2 h3 h4
 cases h5 : okParts ps r.size
 ·exact vers_5 r hr ps w hp h0 h1 h2 h3 h4 h5
 cases h6 : r.up.toList.isEmpty
 ·cases h7 : okId (lst r.up)
  ·exact vers_6c r hr ps w hp h0 h1 h2 h3 h4 h5 h6 h7
  ·exact vers_6b r hr ps w hp h0 h1 h2 h3 h4 h5 h6 h7
 ·exact vers_6a r hr ps w hp h0 h1 h2 h3 h4 h5 h6
end Go.Proofs.YtdohmokhfajjpaaGreatDoor

/- Contract of Same of package record. (Written by tools/gen_Vn.py.) -/
namespace Go.Proofs.YtdohmokhfajjpaaGreatDoor
open Go Go.RowKit

theorem rc_eq (r s : Rv) (ps qs : Ps) : r.rc ps = s.rc qs ↔ (r.id.toList == s.id.toList) = true ∧ (r.time == s.time) = true ∧ (r.mark == s.mark) = true ∧ (r.size == s.size) = true ∧ (r.etag.toList == s.etag.toList) = true ∧ (r.k == s.k) = true ∧ (r.m == s.m) = true ∧ (r.data.toList == s.data.toList) = true ∧ decide (r.sum = s.sum) = true ∧ decide (ps = qs) = true ∧ (r.up.toList == s.up.toList) = true := by
 simp only [lst_beq, decide_eq_true_eq, beq_iff_eq]
 unfold Rv.rc
 simp only [Rc.mk.injEq]
theorem rc_ne {r s : Rv} {ps qs : Ps} (h : ¬ ((r.id.toList == s.id.toList) = true ∧ (r.time == s.time) = true ∧ (r.mark == s.mark) = true ∧ (r.size == s.size) = true ∧ (r.etag.toList == s.etag.toList) = true ∧ (r.k == s.k) = true ∧ (r.m == s.m) = true ∧ (r.data.toList == s.data.toList) = true ∧ decide (r.sum = s.sum) = true ∧ decide (ps = qs) = true ∧ (r.up.toList == s.up.toList) = true)) : decide (r.rc ps = s.rc qs) = false := decide_eq_false fun e => h ((rc_eq r s ps qs).1 e)
theorem underD : Tryz.prog.underlying 41 = some (.array 32 5) := by kernel_rfl
end Go.Proofs.YtdohmokhfajjpaaGreatDoor
