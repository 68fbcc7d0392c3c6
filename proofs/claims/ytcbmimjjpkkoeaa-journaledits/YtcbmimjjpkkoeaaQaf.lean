/- Texts laid into one: the remark ahead of each part says what is proved there. -/
import Derived.Test.YtcbmimjjpkkoeaaQae
import Derived.Test.YtcbmimjjpkkoeaaQab
import Derived.ChangeArms
import Derived.ChangeSlices
import Derived.OpenShut
import Derived.Lib.SlBytesConst
import Derived.Deep.Cut
import Derived.Laws.OwnMore
/- Contract of record of the reader of package record: the walks. -/
namespace Go.Proofs.Ytcbmimjjpkkoeaa
open Go Go.RowKit

theorem any_mark {s : Option (List Nat)} (h : oneV (st1 (stT s)) = 1) : ∃ x r n r2, s.bind rdT = some (x, r) ∧ (stT s).bind rdU = some (n, r2) ∧ oneR (st1 (stT s)) = (s.bind rdAny).map (·.2) ∧ ∀ rc c, s.bind rdAny = some (rc, c) → rc = ⟨x, n, true, 0, [], 0, 0, [], zeroD, [], []⟩ := by
  rw [rdAny_eq]
  cases h1 : s.bind rdT with
  | none => unfold stT at h; rw [h1] at h; cases h
  | some q =>
  obtain ⟨x, r⟩ := q
  cases h2 : (stT s).bind rdU with
  | none => unfold st1 at h; rw [h2] at h; cases h
  | some q2 =>
  obtain ⟨n, r2⟩ := q2
  have e : st1 (stT s) = some r2 := by unfold st1; rw [h2]; rfl
  rw [e] at h ⊢
  refine ⟨x, r, n, r2, rfl, rfl, ?_, ?_⟩
  · match r2, h with
    | c :: b, h => have h' : c = 1 := h; subst h'; rfl
  · match r2, h with
    | c :: b, h =>
      have h' : c = 1 := h
      subst h'
      intro rc c h
      simp at h
      exact h.1.symm
theorem any_vers {s : Option (List Nat)} (h : oneV (st1 (stT s)) = 0) : ((oneR (st1 (stT s))).bind (rdD [] 0)).map (·.2) = (s.bind rdAny).map (·.2) ∧ ∀ rc c, s.bind rdAny = some (rc, c) → ∃ x r n r2, s.bind rdT = some (x, r) ∧ (stT s).bind rdU = some (n, r2) ∧ (oneR (st1 (stT s))).bind (rdD x n) = some (rc, c) := by
  rw [rdAny_eq]
  cases h1 : s.bind rdT with
  | none =>
    have e : stT s = none := by unfold stT; rw [h1]; rfl
    rw [e]
    exact ⟨rfl, fun rc c h => by cases h⟩
  | some q =>
  obtain ⟨x, r⟩ := q
  cases h2 : (stT s).bind rdU with
  | none =>
    have e : st1 (stT s) = none := by unfold st1; rw [h2]; rfl
    rw [e]
    exact ⟨rfl, fun rc c h => by cases h⟩
  | some q2 =>
  obtain ⟨n, r2⟩ := q2
  have e : st1 (stT s) = some r2 := by unfold st1; rw [h2]; rfl
  rw [e] at h ⊢
  match r2, h with
  | [], _ => exact ⟨rfl, fun rc c h => by cases h⟩
  | c :: b, h =>
    have h' : c = 0 := h
    subst h'
    refine ⟨?_, fun rc c h => ⟨x, r, n, _, rfl, rfl, by simpa [oneR] using h⟩⟩
    have e1 := rdD_end (some b) [] 0
    have e2 := rdD_end (some b) x n
    simp only [Option.bind_some] at e1 e2 ⊢
    simp only [oneR, Option.bind_some]
    rw [e1, ← e2]; rfl
theorem any_none {s : Option (List Nat)} {c : Nat} (h : oneV (st1 (stT s)) = c) (hc : 1 < c) : s.bind rdAny = none := by
  rw [rdAny_eq]
  cases h1 : s.bind rdT with
  | none => rfl
  | some q =>
  cases h2 : (stT s).bind rdU with
  | none => rfl
  | some q2 =>
  obtain ⟨n, r2⟩ := q2
  have e : st1 (stT s) = some r2 := by unfold st1; rw [h2]; rfl
  rw [e] at h ⊢
  match r2, h with
  | [], _ => rfl
  | d :: b, h => have h' : d = c := h; subst h'; simp [hc]
theorem fin_rec {s s7 : Option (List Nat)} {R : Rc} {n : Int} (hv : ∀ rc c, s.bind rdAny = some (rc, c) → R = rc) (hs : s7 = (s.bind rdAny).map (·.2)) (hn : n = if okRc R = true then 0 else 2) : (if (n == 0) then s7 else none) = (s.bind rdR).map (·.2) ∧ ∀ rc c, s.bind rdR = some (rc, c) → R = rc := by
  rw [rdR_eq]
  cases h : s.bind rdAny with
  | none => rw [h] at hs; rw [hs]; exact ⟨by cases (n == 0) <;> rfl, fun rc c h => by cases h⟩
  | some q =>
    obtain ⟨rc, c⟩ := q
    have e := hv rc c h
    subst e
    rw [h] at hs
    rw [hs]
    cases ho : okRc R
    · rw [ho] at hn
      have : n = 2 := by simpa using hn
      subst this
      exact ⟨by simp [ho], fun rc c h => by simp [ho] at h⟩
    · rw [ho] at hn
      have : n = 0 := by simpa using hn
      subst this
      exact ⟨by simp [ho], fun rc c h => by simp [ho] at h; exact h.1⟩

end Go.Proofs.Ytcbmimjjpkkoeaa

/- Contract of told of package record, for records. -/
namespace Go.Proofs.Ytcbmimjjpkkoeaa
open Go Go.RowKit

theorem step_storeR {w : World} {ops : Array Oper} {o : Oper} {a : Act} {K : Act → World → Prop} {Q : Exit → Act → World → Prop} {E : Prop} (hgd : o.guard = none) (hdst : o.dst = none) (x y : Operand) (ho : o.op = .store 29 x y) (g : Nat) (hx : a.eval x = ptr g) {r0 r : Rv} (hy : a.eval y = .agg r.cs) (h0 : r0.ok) (hr : r.ok) (hpv : r.pv.oneCell' = true) (hb : RBox w g r0)
    (h : ∀ w1, RBox w1 g r → Only (fun b => b = g) w w1 → K a w1) : if Region.wanted o (yielded ops a.tmps) = true then Oper.wp Try.prog o a w K Q else E := by
  have hw : Region.wanted o (yielded ops a.tmps) = true := by simp [Region.wanted, hgd]
  rw [if_pos hw]
  obtain ⟨e1, e2⟩ := run_storeR h0 hr hpv hb
  unfold Oper.wp execOp
  simp only [ho, hx, hy, ptr, Sem.run_bind, e1, Result.andThen_ok, Sem.run_pure]
  show K (a.put o.dst undef) _
  rw [hdst]
  exact h _ e2 (only_setRow _ _ _ rfl)
theorem ret_row3 {fn : Func} {q u t : Tmp} (h : fn.results = #[.cell q 29, .tmp u, .tmp t]) {R : Ending → World → Prop} {a : Act} {w : World} (g : Nat) {r : Rv} {v x : Value}
    (hd0 : a.defers = []) (hp : a.tmps.getD q undef = .pointer (some ⟨g, 0, none⟩)) (hv : a.tmps.getD u undef = v) (hx : a.tmps.getD t undef = x) (hb : RBox w g r) (hr : r.ok) (hR : R (.returned (.tuple #[.agg r.cs, v, x])) w) : bodyPost Try.prog fn R .ret a w := by
  refine ⟨hd0, .tuple #[.agg r.cs, v, x], ?_, hR⟩
  have hl := run_loadVar_row (P := Try.prog) w g 29 29 r.cs (0, 0) _ hb.at_ underRec rfl (by rw [hr.size]; exact sizeR)
  simp only [results, h]
  simp only [Array.getD_eq_getD_getElem?] at hp hv hx
  simp [Result.andThen, hp, hv, hx, asAddr, hl]
def TolR (w : World) (L : List Nat) (r : Rv) (e : Ending) (w' : World) : Prop := ∃ out, e = .returned (.tuple #[.agg r.cs, out, i64 0]) ∧ OutB w.heap.size w' out L ∧ Below w.heap.size w w'
end Go.Proofs.Ytcbmimjjpkkoeaa

/- Contract of Read of package record. -/
namespace Go.Proofs.Ytcbmimjjpkkoeaa
open Go Go.RowKit

def ReadOk (w : World) (rc : Rc) (L : List Nat) (e : Ending) (w' : World) : Prop := ∃ (r : Rv) (ps : Ps) (out : Value), e = .returned (.tuple #[.agg r.cs, out, i64 0]) ∧ r.ok ∧ r.rc ps = rc ∧ PLF w.heap.size w' r.pv ps ∧ OutB w.heap.size w' out L ∧ Below w.heap.size w w'


end Go.Proofs.Ytcbmimjjpkkoeaa

/- Bytes that came in. -/
namespace Go.Proofs.Ytcbmimjjpkkoeaa
open Go Go.RowKit

theorem plain_at (a : Addr) (w : World) (h : w.cell? a ≠ none) : ∃ b o, a = ⟨b, o, none⟩ := by
  obtain ⟨b, o, sp⟩ := a
  cases sp with
  | none => exact ⟨b, o, rfl⟩
  | some s =>
    exfalso; apply h
    unfold World.cell?
    split <;> simp
theorem bounds8 {k : Int} (h : (Lit.int .u8 k).wf = true) : 0 ≤ k ∧ k ≤ 255 := by
  simp [Lit.wf, IntKind.min, IntKind.max, IntKind.signed, IntKind.bits] at h; omega
theorem wf64 {k : Int} (h : (Lit.int .i64 k).wf = true) : -9223372036854775808 ≤ k ∧ k ≤ 9223372036854775807 := by
  simp [Lit.wf, IntKind.min, IntKind.max, IntKind.signed, IntKind.bits] at h; omega
/-- What is told of bytes that came in. -/
def IsB (w : World) (a : Option Addr) (len cap : Nat) : Prop := ∃ bs : List Nat, bs.length = len ∧ len ≤ cap ∧ BL w a bs ∧ (∀ x ∈ bs, x < 256) ∧ (a = none → cap = 0)
theorem bytes_open {H : Type} {enc : TypeId × Value → H} {w : World} {held : Bool} {fuel : Nat} {a : Option Addr} {len cap : Nat} {x : DataW H × List MemPlace}
    (h : DataW.trod enc Try.prog w 0 (fun _ => true) held fuel 68 (Value.slice a len cap).cells.toList = some x) : IsB w a len cap := by
  rcases Go.ChangeShapes.open_ints Try.underlying68 Try.underlying5 (by kernel_rfl) h with ⟨hcs, _⟩ | ⟨ad, l, c, zs, hcs, _, hl, hm, hz, _, hcell, hwz⟩
  · simp [Value.cells] at hcs
    obtain ⟨rfl, rfl, rfl⟩ := hcs
    exact ⟨[], rfl, Nat.le_refl _, Or.inl rfl, by simp, fun _ => rfl⟩
  · simp [Value.cells] at hcs
    obtain ⟨rfl, rfl, rfl⟩ := hcs
    have hz' : zs.length = cap := by simpa using hz
    have hbd : ∀ i, i < len → 0 ≤ zs.getD i 0 ∧ zs.getD i 0 ≤ 255 := fun i hi => by
      have hlt : i < zs.length := by omega
      have e : zs.getD i 0 = zs[i] := by simp [List.getD, hlt]
      rw [e]; exact bounds8 (hwz _ (List.getElem_mem hlt))
    refine ⟨(List.range len).map fun i => (zs.getD i 0).toNat, by simp, hl, ?_, fun y hy => ?_, fun e => by cases e⟩
    · by_cases h0 : len = 0
      · subst h0; exact Or.inl rfl
      · obtain ⟨b, o, rfl⟩ := plain_at ad w (by have := hcell 0 (by omega); rw [add_zero'] at this; rw [this]; simp)
        refine Or.inr ⟨b, o, rfl, fun i hi => ?_⟩
        have hi' : i < len := by simpa using hi
        have hc := hcell i (by omega)
        rw [add_none] at hc
        rw [hc]
        have e1 : ((List.range len).map fun i => (zs.getD i 0).toNat).getD i 0 = (zs.getD i 0).toNat := by simp [List.getD, hi']
        rw [e1]; unfold u8; rw [Int.toNat_of_nonneg (hbd i hi').1]
    · obtain ⟨i, hi, rfl⟩ := List.mem_map.1 hy
      have := hbd i (by simpa using hi)
      omega
#print axioms bytes_open
end Go.Proofs.Ytcbmimjjpkkoeaa

/- The walk of RecordNumbers, some cases. (Written by tools/gen_Vj.py.) -/
namespace Go.Proofs.Ytcbmimjjpkkoeaa
open Go Go.RowKit
section
variable (s : ByteArray) (a : Option Addr) (cap : Nat) (bs : List Nat) (w : World)
end
end Go.Proofs.Ytcbmimjjpkkoeaa

/- The walk of RecordNumbers, some cases. (Written by tools/gen_Vj.py.) -/
namespace Go.Proofs.Ytcbmimjjpkkoeaa
open Go Go.RowKit
section
variable (s : ByteArray) (a : Option Addr) (cap : Nat) (bs : List Nat) (w : World)
end
end Go.Proofs.Ytcbmimjjpkkoeaa

/- The walk of RecordNumbers, some cases. (Written by tools/gen_Vj.py.) -/
namespace Go.Proofs.Ytcbmimjjpkkoeaa
open Go Go.RowKit
section
variable (s : ByteArray) (a : Option Addr) (cap : Nat) (bs : List Nat) (w : World)
end
end Go.Proofs.Ytcbmimjjpkkoeaa

/- The walk of RecordNumbers, some cases. (Written by tools/gen_Vj.py.) -/
namespace Go.Proofs.Ytcbmimjjpkkoeaa
open Go Go.RowKit
section
variable (s : ByteArray) (a : Option Addr) (cap : Nat) (bs : List Nat) (w : World)
end
end Go.Proofs.Ytcbmimjjpkkoeaa

/- RecordNumbers, whatever comes in. -/
namespace Go.Proofs.Ytcbmimjjpkkoeaa
open Go Go.RowKit


end Go.Proofs.Ytcbmimjjpkkoeaa

/- Contracts of mark and awake, the examples. -/
namespace Go.Proofs.Ytcbmimjjpkkoeaa
open Go Go.RowKit

def mk5 : Rv := mkR ⟨#[110, 117, 108, 108]⟩ 5
def mB : List Nat := [4, 110, 117, 108, 108, 5, 1]
theorem mk5_ok : mk5.ok := mkR_ok (by simp [ByteArray.size])
theorem mk5_may : okRc (mk5.rc []) = true := by kernel_rfl
theorem mk5_bytes : rcB (mk5.rc []) = mB := by kernel_rfl
theorem mk5_read : rdR (mB ++ [9]) = some (mk5.rc [], [9]) := by kernel_rfl
theorem built_mk5 : Try.prog.built 29 [(0, .string ⟨#[110, 117, 108, 108]⟩), (1, .int .i64 5), (2, .bool true)] = some mk5.cs := by kernel_rfl

#print axioms mk5_read
end Go.Proofs.Ytcbmimjjpkkoeaa

/- Contract of awake, the examples. -/
namespace Go.Proofs.Ytcbmimjjpkkoeaa
open Go Go.RowKit

abbrev c7 : Array Value := #[.int .u8 4, .int .u8 110, .int .u8 117, .int .u8 108, .int .u8 108, .int .u8 5, .int .u8 1]
theorem under5 : Try.prog.underlying 5 = some (.int .u8) := by kernel_rfl
theorem bl7 (w : World) (fz : Nat × Nat) : BL (w.alloc (.cells c7 5 fz)) (some ⟨w.heap.size, 0, none⟩) mB := Or.inr ⟨_, _, rfl, fun i hi => by
  have h := heap_alloc_new w (.cells c7 5 fz)
  simp only [World.cell?, h, Nat.zero_add]
  match i, hi with
  | 0, _ | 1, _ | 2, _ | 3, _ | 4, _ | 5, _ | 6, _ => rfl⟩
theorem bl9 (w : World) : BL (w.alloc (.cells #[.int .u8 9] 5)) (some ⟨w.heap.size, 0, none⟩) [9] := Or.inr ⟨_, _, rfl, fun i hi => by
  have h := heap_alloc_new w (.cells #[.int .u8 9] 5)
  simp only [World.cell?, h, Nat.zero_add]
  match i, hi with
  | 0, _ => rfl⟩
theorem grow9 (w : World) (fz : Nat × Nat) : ∃ po cc w3, (Builtin.append_ #[68, 68] 68 #[.slice (some ⟨w.heap.size, 0, none⟩) 7 7, .slice (some ⟨w.heap.size + 1, 0, none⟩) 1 1]).run Try.prog ((w.alloc (.cells c7 5 fz)).alloc (.cells #[.int .u8 9] 5)) = .ok (.slice po (mB ++ [9]).length cc) w3 ∧ BL w3 po (mB ++ [9]) ∧ (mB ++ [9]).length ≤ cc ∧ Below w.heap.size w w3 := by
  obtain ⟨i0, hi0, hz0, hz1, hz2⟩ := info_parts Try.info5
  have h7 := (bl7 w fz).below (below_al _ (.cells #[.int .u8 9] 5))
  have h9 := bl9 (w.alloc (.cells c7 5 fz))
  rw [size_al] at h9
  generalize hW : (w.alloc (.cells c7 5 fz)).alloc (.cells #[.int .u8 9] 5) = W at *
  have hr := run_append_grow (P := Try.prog) W 68 68 5 i0 (.int .u8 0) Try.underlying68 hi0 hz0 ⟨w.heap.size, 0, none⟩ 7 7 (mB.map u8) (by rw [hz1]; rfl) (fun j v hj => by
      have hjl : j < mB.length := by
        rcases Nat.lt_or_ge j mB.length with q | q
        · exact q
        · rw [List.getElem?_eq_none (by simpa using q)] at hj; cases hj
      rcases h7 with h | ⟨b, o, e2, h⟩
      · cases h
      · cases e2
        rw [add_none, h j hjl]; simp [hjl] at hj; rw [← hj]; simp [List.getD, hjl]) ⟨w.heap.size + 1, 0, none⟩ 1 1 [u8 9] (by rw [hz1]; rfl) (fun j v hj => by
      rcases h9 with h | ⟨b, o, e2, h⟩
      · cases h
      · cases e2
        match j, hj with
        | 0, hj => rw [add_none, h 0 (by decide)]; simpa using hj) (by decide) (by decide) (by rw [hz2]; decide)
  refine ⟨_, _, _, hr, Or.inr ⟨_, _, rfl, fun i hi => ?_⟩, grownCap_ge W 8 7 5, ?_⟩
  · have h := heap_alloc_new W.drew (.cells ((mB.map u8).toArray ++ [u8 9].toArray ++ Builtin.zeroCells (Value.int .u8 0).cells (grownCap W (7 + 1) 7 5 - (7 + 1))) 5)
    have e : W.drew.heap.size = W.heap.size := rfl
    rw [e] at h
    simp only [World.cell?, h, Nat.zero_add]
    rw [Array.getElem?_append_left (by simpa [mB] using hi)]
    match i, hi with
    | 0, _ | 1, _ | 2, _ | 3, _ | 4, _ | 5, _ | 6, _ | 7, _ => rfl
  · subst hW
    exact below_on (below_on (below_al _ _) (below_al _ _)) (below_on (below_drew _) (below_al _ _))
#print axioms grow9
theorem mB_lt : ∀ z ∈ mB, z < 256 := by decide
theorem mB9_lt : ∀ z ∈ mB ++ [9], z < 256 := by decide
end Go.Proofs.Ytcbmimjjpkkoeaa

/- Contract of awake, the examples: the walk. -/
namespace Go.Proofs.Ytcbmimjjpkkoeaa
open Go Go.RowKit

theorem step_run_ex {P : Program} {w : World} {ops : Array Oper} {o : Oper} {a : Act} {K : Act → World → Prop} {Q : Exit → Act → World → Prop} {E : Prop} (hgd : o.guard = none) (v : Value) (w' : World)
    (hr : (execOp a.eval o).run P w = .ok (.value v) w') (h : K (a.put o.dst v) w') : if Region.wanted o (yielded ops a.tmps) = true then Oper.wp P o a w K Q else E := by
  have hw : Region.wanted o (yielded ops a.tmps) = true := by simp [Region.wanted, hgd]
  rw [if_pos hw]
  unfold Oper.wp
  rw [hr]
  exact h
theorem exec_conv {a : Act} {o : Oper} {x : Operand} {v : Value} {W W' : World} (ho : o.op = .convert 68 68 x) (hx : a.eval x = v) (h : (convert 68 68 v).run Try.prog W = .ok v W') : (execOp a.eval o).run Try.prog W = .ok (.value v) W' := by
  unfold execOp
  simp only [ho, hx, Sem.run_bind, h, Result.andThen_ok, Sem.run_pure]

end Go.Proofs.Ytcbmimjjpkkoeaa

/- RecordAgain. -/
namespace Go.Proofs.Ytcbmimjjpkkoeaa
open Go Go.RowKit


end Go.Proofs.Ytcbmimjjpkkoeaa

/- RecordUints: how many bytes a number has; too many bytes. -/
namespace Go.Proofs.Ytcbmimjjpkkoeaa
open Go Go.RowKit

theorem nb_span : ∀ n : Nat, (1 < (nb n).length → 128 ^ ((nb n).length - 1) ≤ n) ∧ n < 128 ^ (nb n).length := by
  intro n
  induction n using Nat.strongRecOn with
  | _ n ih =>
    by_cases h : n < 128
    · rw [nb_lt h]; simp; omega
    · rw [nb_ge h]
      have := ih (n / 128) (by omega)
      have hp := nb_pos (n / 128)
      rw [List.length_cons]
      generalize (nb (n / 128)).length = l at *
      obtain ⟨h1, h2⟩ := this
      constructor
      · intro _
        rw [Nat.add_sub_cancel]
        by_cases hl : 1 < l
        · have h3 := h1 hl
          obtain ⟨j, rfl⟩ : ∃ j, l = j + 1 := ⟨l - 1, by omega⟩
          rw [Nat.add_sub_cancel] at h3
          rw [Nat.pow_succ]
          have := Nat.div_add_mod n 128
          have : 128 ^ j * 128 ≤ n / 128 * 128 := Nat.mul_le_mul_right _ h3
          omega
        · have : l = 1 := by omega
          subst this; omega
      · rw [Nat.pow_succ]
        have := Nat.div_add_mod n 128
        have := Nat.mod_lt n (show 0 < 128 by decide)
        have : (n / 128 + 1) * 128 ≤ 128 ^ l * 128 := Nat.mul_le_mul_right _ h2
        omega
theorem shr_eq (k s : Nat) : (k : Int) >>> s = ((k >>> s : Nat) : Int) := rfl
theorem shr_zero (k s p : Nat) (hp : 2 ^ s = p) (h : k < p) : (k : Int) >>> s = 0 := by
  rw [shr_eq, Nat.shiftRight_eq_div_pow, hp, Nat.div_eq_of_lt h]; rfl
theorem shr_pos (k s p : Nat) (hp : 2 ^ s = p) (h : p ≤ k) : ((k : Int) >>> s == 0) = false := by
  rw [shr_eq, Nat.shiftRight_eq_div_pow, hp]
  have : 0 < p := by rw [← hp]; exact Nat.two_pow_pos s
  have := Nat.div_pos h this
  simp
  omega
theorem all256 {x y : List Nat} (h : ∀ z ∈ x, z < 256) (h' : ∀ z ∈ y, z < 256) : ∀ z ∈ x ++ y, z < 256 := fun z hz => by
  rcases List.mem_append.1 hz with e | e
  · exact h z e
  · exact h' z e
#print axioms nb_span
end Go.Proofs.Ytcbmimjjpkkoeaa

/- Contract of large. -/
namespace Go.Proofs.Ytcbmimjjpkkoeaa
open Go Go.RowKit

theorem Rv.pv_at {r : Rv} (h : r.sum.length = 32) : r.cs[40]? = some r.pv := by
  unfold Rv.cs
  rw [Array.getElem?_append_right (by simp), Array.getElem?_append_right (by rw [sumC_size, h]; simp), sumC_size, h]
  rfl
theorem Rv.up_at {r : Rv} (h : r.sum.length = 32) : r.cs[41]? = some (.string r.up) := by
  unfold Rv.cs
  rw [Array.getElem?_append_right (by simp), Array.getElem?_append_right (by rw [sumC_size, h]; simp), sumC_size, h]
  rfl
/-- Is a record more than is gone through? -/
def bigR (r : Rv) (n : Nat) : Bool := decide (100 < n) || decide (1000 < r.id.size) || decide (1000 < r.etag.size) || decide (1000 < r.data.size) || decide (1000 < r.up.size)

end Go.Proofs.Ytcbmimjjpkkoeaa

/- RecordBack: a record's bytes. -/
namespace Go.Proofs.Ytcbmimjjpkkoeaa
open Go Go.RowKit

theorem psB_byte (ps : Ps) : ∀ z ∈ psB ps, z < 256 := fun z hz => by
  unfold psB at hz
  obtain ⟨l, hl, hz⟩ := List.mem_flatten.1 hz
  obtain ⟨q, _, rfl⟩ := List.mem_map.1 hl
  exact all256 (nb_byte _) (nb_byte _) z hz
theorem vB_byte (r : Rv) (hr : r.ok) (ps : Ps) : ∀ z ∈ vB r ps, z < 256 := by
  unfold vB
  exact all256 (nb_byte _) (all256 (tb_lt _) (all256 (nb_byte _) (all256 (nb_byte _) (all256 (tb_lt _) (all256 hr.s8 (all256 (nb_byte _) (all256 (psB_byte _) (tb_lt _))))))))
theorem rcB_byte (r : Rv) (hr : r.ok) (ps : Ps) : ∀ z ∈ rcB (r.rc ps), z < 256 := by
  cases hm : r.mark
  · rw [rcB_vers hm]
    exact all256 (tb_lt _) (all256 (nb_byte _) (all256 (by simp) (vB_byte r hr ps)))
  · rw [rcB_mark hm]
    exact all256 (tb_lt _) (all256 (nb_byte _) (by simp))
theorem okPs_get : ∀ {last : Int} {l : Ps}, okPs last l = true → ∀ i, i < l.length → (l.getD i (0, 0)).1 ≤ 10000 ∧ (l.getD i (0, 0)).2 ≤ 65536
  | _, [], _, i, hi => by simp at hi
  | last, p :: t, h, i, hi => by
    simp [okPs, inR] at h
    obtain ⟨⟨⟨h1, h2⟩, h3, h4⟩, h5⟩ := h
    cases i with
    | zero => simp; omega
    | succ i => simpa using okPs_get h5 i (by simpa using hi)
theorem rcB_len (r : Rv) (hr : r.ok) (ps : Ps) (h : okRc (r.rc ps) = true) : (rcB (r.rc ps)).length ≤ 1000 := by
  obtain ⟨q1, q2, q3⟩ := okRc_id h
  have l1 := tb_le (s := r.id) (by omega)
  have l2 := ib_le (n := r.time) (by omega)
  cases hm : r.mark
  · rw [rcB_vers hm]
    have hv : versOk r ps = true := by rw [okRc_vers r ps hm hr.sl] at h; simp only [Bool.and_eq_true] at h; exact h.2
    obtain ⟨a1, a2, a3, a4, a5, a6, a7, a8, a9, a10, a11⟩ := versOk_iff hv
    have e1 := ib_le (n := r.size) (by omega)
    have e2 := tb_le (s := r.etag) (by omega)
    have e3 := ib_le (n := r.k) (by omega)
    have e4 := ib_le (n := r.m) (by omega)
    have e5 := tb_le (s := r.data) (by omega)
    have e6 := nb_le (n := ps.length) (by omega)
    have e7 := psB_le (okPs_get a10) ps.length (Nat.le_refl _)
    rw [List.take_length] at e7
    have e8 := tb_le (s := r.up) (by omega)
    unfold vB
    simp only [List.length_append, hr.sl, List.length_cons, List.length_nil]
    omega
  · rw [rcB_mark hm]
    simp only [List.length_append, List.length_cons, List.length_nil]
    omega
#print axioms rcB_len
end Go.Proofs.Ytcbmimjjpkkoeaa

/- RecordBack: the walks. -/
namespace Go.Proofs.Ytcbmimjjpkkoeaa
open Go Go.RowKit

theorem CAt.whole {w : World} {g : Nat} {cs : Array Value} {t : TypeId} (h : CAt w g cs t) : ∀ j v, cs[j]? = some v → w.cell? ⟨g, 0 + j, none⟩ = some v := fun j v hv => by rw [Nat.zero_add, h.cell, hv]
theorem Rv.size_of {r : Rv} (h : r.sum.length = 32) : r.cs.size = 42 := by simp [Rv.cs, sumC_size, h]
/-- Two records in boxes. -/
structure Two (w W : World) (ga gb : Nat) (ra rb : Rv) : Prop where
  below : Below w.heap.size w W
  ca : CAt W ga ra.cs 29
  cb : CAt W gb rb.cs 29
theorem Two.on {w W W' : World} {ga gb : Nat} {ra rb : Rv} (h : Two w W ga gb ra rb) (hb : Below W.heap.size W W') : Two w W' ga gb ra rb := ⟨below_on h.below hb, h.ca.below hb, h.cb.below hb⟩
end Go.Proofs.Ytcbmimjjpkkoeaa

/- Records that came in. -/
namespace Go.Proofs.Ytcbmimjjpkkoeaa
open Go Go.RowKit

/-- What is told of a record that came in. -/
structure IsR (w : World) (r : Rv) : Prop where
  sl : r.sum.length = 32
  s8 : ∀ x ∈ r.sum, x < 256
  parts : ∃ (po : Option Addr) (c : Nat) (ps : Ps), r.pv = .slice po ps.length c ∧ ps.length ≤ c ∧ (ps = [] ∨ ∃ b o, po = some ⟨b, o, none⟩ ∧ PCells w b o ps)
set_option maxRecDepth 100000 in
theorem take1 {cs : List Value} {k : Nat} {v : Value} (h : (cs.drop k).take 1 = [v]) : cs.drop k = v :: cs.drop (k + 1) := by
  cases hd : cs.drop k with
  | nil => rw [hd] at h; cases h
  | cons a t =>
    rw [hd] at h
    have e : a = v := by simpa using h
    subst e
    have : cs.drop (k + 1) = t := by rw [← List.drop_drop, hd]; rfl
    rw [this]
section
variable {H : Type} {enc : TypeId × Value → H} {w : World} {held : Bool} {fuel : Nat}
set_option maxRecDepth 100000 in
theorem sum_read {cs : List Value} {x : DataW H × List MemPlace} (h : DataW.trod enc Try.prog w 0 (fun _ => true) held fuel 26 cs = some x) : ∃ l : List Nat, l.length = 32 ∧ (∀ z ∈ l, z < 256) ∧ cs = l.map u8 := by
  obtain ⟨xs, m, _, _, hcl, hxl, hf⟩ := DataW.trod_array Try.underlying26 h
  have h32 : cs.length = 32 := by rw [hcl]; kernel_rfl
  have k5 : Try.prog.cellsOf 5 = 1 := by kernel_rfl
  have each : ∀ i, i < 32 → ∃ z : Nat, z < 256 ∧ cs[i]? = some (u8 z) := fun i hi => by
    have h1 := hf i hi
    rw [k5, Nat.mul_one, List.getElem?_eq_getElem (by omega)] at h1
    obtain ⟨z, e, _, wz⟩ := DataW.trod_int Try.underlying5 h1
    have hb := bounds8 wz
    refine ⟨z.toNat, by omega, ?_⟩
    have e2 := congrArg (·[0]?) e
    simp only [List.getElem?_take, List.getElem?_drop] at e2
    simp at e2
    rw [e2]; unfold u8; rw [Int.toNat_of_nonneg hb.1]
  refine ⟨(List.range 32).map fun i => if h : i < 32 then (each i h).choose else 0, by simp, fun z hz => ?_, ?_⟩
  · obtain ⟨i, hi, rfl⟩ := List.mem_map.1 hz
    have hi' : i < 32 := by simpa using hi
    simp only [hi', dite_true]
    exact (each i hi').choose_spec.1
  · apply List.ext_getElem?
    intro i
    by_cases hi : i < 32
    · rw [(each i hi).choose_spec.2]
      simp [hi]
    · rw [List.getElem?_eq_none (by omega), List.getElem?_eq_none (by simp; omega)]
set_option maxRecDepth 100000 in
theorem part_read {cs : List Value} {x : DataW H × List MemPlace} (h : DataW.trod enc Try.prog w 0 (fun _ => true) held fuel 52 cs = some x) : ∃ a b : Int, cs = [i64 a, i64 b] := by
  obtain ⟨xs, n, _, _, hcl, hxl, hf⟩ := DataW.trod_struct Try.underlying52 h
  have h2 : cs.length = 2 := by rw [hcl]; kernel_rfl
  have hx2 : xs.length = 2 := by rw [hxl]; rfl
  have k3 : Try.prog.cellsOf 3 = 1 := by kernel_rfl
  match cs, h2, xs, hx2 with
  | [c0, c1], _, [y0, y1], _ =>
    have f0 : DataW.trod enc Try.prog w 0 (fun _ => true) held n 3 (([c0, c1].drop 0).take (Try.prog.cellsOf 3)) = some y0 := hf 0 _ rfl
    rw [k3] at f0
    have f1 : DataW.trod enc Try.prog w 0 (fun _ => true) held n 3 (([c0, c1].drop 1).take (Try.prog.cellsOf 3)) = some y1 := hf 1 _ rfl
    rw [k3] at f1
    obtain ⟨z0, e0, _, _⟩ := DataW.trod_int Try.underlying3 f0
    obtain ⟨z1, e1, _, _⟩ := DataW.trod_int Try.underlying3 f1
    simp at e0 e1
    subst e0 e1
    exact ⟨z0, z1, rfl⟩
set_option maxRecDepth 100000 in
theorem parts_read {cs : List Value} {x : DataW H × List MemPlace} (h : DataW.trod enc Try.prog w 0 (fun _ => true) held fuel 27 cs = some x) :
    ∃ (po : Option Addr) (c : Nat) (ps : Ps), cs = [.slice po ps.length c] ∧ ps.length ≤ c ∧ (ps = [] ∨ ∃ b o, po = some ⟨b, o, none⟩ ∧ PCells w b o ps) := by
  have k2 : Try.prog.cellsOf 52 = 2 := by kernel_rfl
  rcases DataW.trod_slice Try.underlying27 h with ⟨hcs, _⟩ | ⟨ad, l, c, elems, rest, n, _, hcs, _, _, hl, _, hlen, hel, _, _⟩
  · exact ⟨none, 0, [], hcs, Nat.le_refl _, Or.inl rfl⟩
  · rw [k2] at hel
    have each : ∀ i, i < l → ∃ a b : Int, w.cell? ((ad.add (i * 2)).add 0) = some (i64 a) ∧ w.cell? ((ad.add (i * 2)).add 1) = some (i64 b) := fun i hi => by
      have h1 := hel i hi
      rw [List.getElem?_eq_getElem (by omega)] at h1
      obtain ⟨ds, hc1, hc2⟩ := Option.bind_eq_some_iff.1 h1
      obtain ⟨a, b, rfl⟩ := part_read hc2
      obtain ⟨_, _, hcell⟩ := World.cells?_some hc1
      exact ⟨a, b, by rw [hcell 0 (by decide)]; rfl, by rw [hcell 1 (by decide)]; rfl⟩
    by_cases h0 : l = 0
    · subst h0; exact ⟨some ad, c, [], hcs, hl, Or.inl rfl⟩
    obtain ⟨a0, b0, h00, _⟩ := each 0 (by omega)
    rw [Nat.zero_mul, add_zero', add_zero'] at h00
    obtain ⟨b, o, rfl⟩ := plain_at ad w (by rw [h00]; simp)
    have each2 : ∀ i, i < l → ∃ q : Int × Int, w.cell? ⟨b, o + i * 2, none⟩ = some (i64 q.1) ∧ w.cell? ⟨b, o + i * 2 + 1, none⟩ = some (i64 q.2) := fun i hi => by
      obtain ⟨u, v, h1, h2⟩ := each i hi
      rw [add_none, add_none] at h1 h2
      exact ⟨(u, v), h1, h2⟩
    clear each
    refine ⟨_, c, (List.range l).map fun i => if h : i < l then (each2 i h).choose else (0, 0), by rw [hcs]; simp, by simpa using hl, Or.inr ⟨b, o, rfl, fun i hi => ?_⟩⟩
    have hi' : i < l := by simpa using hi
    have e := (each2 i hi').choose_spec
    have eg : ((List.range l).map fun i => if h : i < l then (each2 i h).choose else (0, 0)).getD i (0, 0) = (each2 i hi').choose := by simp [List.getD, hi']
    rw [eg]
    exact e
set_option maxRecDepth 100000 in
theorem rec_read {cs : List Value} {x : DataW H × List MemPlace} (h : DataW.trod enc Try.prog w 0 (fun _ => true) held fuel 29 cs = some x) : ∃ r : Rv, IsR w r ∧ cs = r.cs.toList := by
  obtain ⟨xs, n, _, _, hcl, hxl, hf⟩ := DataW.trod_struct Try.underlying29 h
  have h42 : cs.length = 42 := by rw [hcl]; kernel_rfl
  have hx : xs.length = 11 := by rw [hxl]; rfl
  have k3 : Try.prog.cellsOf 3 = 1 := by kernel_rfl
  have k9 : Try.prog.cellsOf 9 = 1 := by kernel_rfl
  have k4 : Try.prog.cellsOf 4 = 1 := by kernel_rfl
  have kD : Try.prog.cellsOf 26 = 32 := by kernel_rfl
  have kP : Try.prog.cellsOf 27 = 1 := by kernel_rfl
  match xs, hx with
  | [y0, y1, y2, y3, y4, y5, y6, y7, y8, y9, y10], _ =>
    have f0 : DataW.trod enc Try.prog w 0 (fun _ => true) held n 9 ((cs.drop 0).take (Try.prog.cellsOf 9)) = some y0 := hf 0 _ rfl
    have f1 : DataW.trod enc Try.prog w 0 (fun _ => true) held n 3 ((cs.drop 1).take (Try.prog.cellsOf 3)) = some y1 := hf 1 _ rfl
    have f2 : DataW.trod enc Try.prog w 0 (fun _ => true) held n 4 ((cs.drop 2).take (Try.prog.cellsOf 4)) = some y2 := hf 2 _ rfl
    have f3 : DataW.trod enc Try.prog w 0 (fun _ => true) held n 3 ((cs.drop 3).take (Try.prog.cellsOf 3)) = some y3 := hf 3 _ rfl
    have f4 : DataW.trod enc Try.prog w 0 (fun _ => true) held n 9 ((cs.drop 4).take (Try.prog.cellsOf 9)) = some y4 := hf 4 _ rfl
    have f5 : DataW.trod enc Try.prog w 0 (fun _ => true) held n 3 ((cs.drop 5).take (Try.prog.cellsOf 3)) = some y5 := hf 5 _ rfl
    have f6 : DataW.trod enc Try.prog w 0 (fun _ => true) held n 3 ((cs.drop 6).take (Try.prog.cellsOf 3)) = some y6 := hf 6 _ rfl
    have f7 : DataW.trod enc Try.prog w 0 (fun _ => true) held n 9 ((cs.drop 7).take (Try.prog.cellsOf 9)) = some y7 := hf 7 _ rfl
    have f8 : DataW.trod enc Try.prog w 0 (fun _ => true) held n 26 ((cs.drop 8).take (Try.prog.cellsOf 26)) = some y8 := hf 8 _ rfl
    have f9 : DataW.trod enc Try.prog w 0 (fun _ => true) held n 27 ((cs.drop 40).take (Try.prog.cellsOf 27)) = some y9 := hf 9 _ rfl
    have f10 : DataW.trod enc Try.prog w 0 (fun _ => true) held n 9 ((cs.drop 41).take (Try.prog.cellsOf 9)) = some y10 := hf 10 _ rfl
    rw [k9] at f0 f4 f7 f10
    rw [k3] at f1 f3 f5 f6
    rw [k4] at f2
    rw [kD] at f8
    rw [kP] at f9
    obtain ⟨s0, e0, _, _⟩ := DataW.trod_string Try.underlying9 f0
    obtain ⟨z1, e1, _, _⟩ := DataW.trod_int Try.underlying3 f1
    obtain ⟨b2, e2, _⟩ := DataW.trod_bool Try.underlying4 f2
    obtain ⟨z3, e3, _, _⟩ := DataW.trod_int Try.underlying3 f3
    obtain ⟨s4, e4, _, _⟩ := DataW.trod_string Try.underlying9 f4
    obtain ⟨z5, e5, _, _⟩ := DataW.trod_int Try.underlying3 f5
    obtain ⟨z6, e6, _, _⟩ := DataW.trod_int Try.underlying3 f6
    obtain ⟨s7, e7, _, _⟩ := DataW.trod_string Try.underlying9 f7
    obtain ⟨l8, hl8, h8, e8⟩ := sum_read f8
    obtain ⟨po, c, ps, e9, hc, hp⟩ := parts_read f9
    obtain ⟨s10, e10, _, _⟩ := DataW.trod_string Try.underlying9 f10
    refine ⟨⟨s0, z1, b2, z3, s4, z5, z6, s7, l8, .slice po ps.length c, s10⟩, ⟨hl8, h8, po, c, ps, rfl, hc, hp⟩, ?_⟩
    have d8 : cs.drop 8 = l8.map u8 ++ cs.drop 40 := by
      have := (List.take_append_drop 32 (cs.drop 8)).symm
      rw [e8, List.drop_drop] at this
      exact this
    have d42 : cs.drop 42 = [] := List.drop_of_length_le (by omega)
    rw [Rv.toL]
    have := take1 e0
    rw [List.drop_zero] at this
    rw [this, take1 e1, take1 e2, take1 e3, take1 e4, take1 e5, take1 e6, take1 e7, d8, take1 e9, take1 e10, d42]
    rfl
end
#print axioms rec_read
end Go.Proofs.Ytcbmimjjpkkoeaa

/- RecordBack, whatever comes in. -/
namespace Go.Proofs.Ytcbmimjjpkkoeaa
open Go Go.RowKit

theorem bigR_no {r : Rv} {n : Nat} (h : ¬ bigR r n = true) : n ≤ 100 ∧ r.id.size ≤ 1000 ∧ r.etag.size ≤ 1000 ∧ r.data.size ≤ 1000 ∧ r.up.size ≤ 1000 := by
  simp [bigR] at h; omega

end Go.Proofs.Ytcbmimjjpkkoeaa

/- Parts appended to parts; fresh for parts. -/
namespace Go.Proofs.Ytcbmimjjpkkoeaa
open Go Go.RowKit

theorem flatP_app (ps qs : Ps) : flatP (ps ++ qs) = flatP ps ++ flatP qs := by simp [flatP]
theorem PBuf.app {B : Nat} {w : World} {v : Value} {ps : Ps} (hv : PBuf B w v ps) (po : Option Addr) (c : Nat) (qs : Ps) (hq : PL w (.slice po qs.length c) qs) (hc : po = none → c = 0) (hn : ps.length + qs.length ≤ 1000000) (hB : B ≤ w.heap.size) :
    ∃ v' w', (Builtin.append_ #[27, 27] 27 #[v, .slice po qs.length c]).run Try.prog w = .ok v' w' ∧ PBuf B w' v' (ps ++ qs) ∧ w.grownBy w' v.ownBlock := by
  obtain ⟨i0, hi0, hz0, hz1, hz2⟩ := info_parts Try.infoP
  obtain ⟨po', c', he, _, _, h⟩ := hq
  cases he
  cases po with
  | none =>
    have : qs = [] := by
      rcases h with h | ⟨b, o, h, _⟩
      · exact h
      · cases h
    subst this
    obtain rfl := hc rfl
    refine ⟨v, w, run_append_owned_none (P := Try.prog) (w := w) B 27 27 52 i0 2 Try.underlying27 hi0 v _ _ hv, by simpa using hv, ⟨rfl, rfl, rfl, Nat.le_refl _, fun _ _ _ => rfl⟩⟩
  | some a =>
    obtain ⟨v', w', hr, h3, h4, _, _⟩ := run_append_own_at (P := Try.prog) w B 27 27 52 i0 _ 2 16 Try.underlying27 hi0 hz0 hz1 hz2 rfl (by decide) v ps.length (flatP ps) hv a qs.length c (flatP qs) (flatP_len qs) (fun j u hj => by
      rcases h with h | ⟨b, o, e2, h⟩
      · subst h; simp [flatP] at hj
      · cases e2
        have hjl : j < qs.length * 2 := by
          rcases Nat.lt_or_ge j (qs.length * 2) with q | q
          · exact q
          · rw [List.getElem?_eq_none (by rw [flatP_len]; exact q)] at hj; cases hj
        have hi : j / 2 < qs.length := by omega
        obtain ⟨a1, a2⟩ := flatP_get qs (j / 2) hi
        obtain ⟨c1, c2⟩ := h (j / 2) hi
        rw [add_none]
        rcases Nat.mod_two_eq_zero_or_one j with hm | hm
        · have ej : j = j / 2 * 2 := by omega
          rw [ej] at hj ⊢
          rw [a1] at hj; rw [c1]; exact hj
        · have ej : j = j / 2 * 2 + 1 := by omega
          rw [ej] at hj ⊢
          rw [a2] at hj
          rw [show o + (j / 2 * 2 + 1) = o + j / 2 * 2 + 1 by omega, c2]; exact hj) (by
      intro u hu
      unfold flatP at hu
      simp at hu
      obtain ⟨_, _, _, h⟩ := hu
      rcases h with rfl | rfl <;> rfl) (by unfold maxLen; omega) (by omega) hB
    refine ⟨v', w', hr, ?_, h4⟩
    unfold PBuf
    rw [List.length_append, flatP_app]; exact h3
/-- What Copy tells: the same record, its parts in memory of their own. -/
def CopS (w : World) (r : Rv) (ps : Ps) (e : Ending) (w' : World) : Prop := ∃ v, e = .returned (.agg ({ r with pv := v } : Rv).cs) ∧ PLF w.heap.size w' v ps ∧ Below w.heap.size w w'
set_option maxRecDepth 100000 in
theorem freshP_any (po : Option Addr) (c : Nat) (ps : Ps) (w : World) (h : PL w (.slice po ps.length c) ps) (hc : po = none → c = 0) (hn : ps.length ≤ 100000) : Calls Try.prog 38 #[.slice po ps.length c] w fun e w' => ∃ v, e = .returned v ∧ PLF w.heap.size w' v ps ∧ Below w.heap.size w w' := by
  obtain ⟨v1, w1, hr, hb1, hg⟩ := (PBuf.nil w.heap.size w).app po c ps h hc (by simpa using by omega) (Nat.le_refl _)
  rw [List.nil_append] at hb1
  obtain ⟨p1, c1, hv1, hc1⟩ := hb1.form
  subst hv1
  have HRUN := hid hr
  have HB := hid hb1
  have HW := hid (below_grown (Below.refl w.heap.size w) hg (Nat.le_refl _) (by intro b hb; cases hb))
  clear h hr hb1 hg
  go_enter Try.func38, Try.ntmps38
  go_wp2_with (first
    | (at_builtin; refine wpList_append_run _ _ 27 27 rfl rfl _ _ _ rfl rfl HRUN.out ?_)
    | (go_at_call 53; refine (clipP_any p1 ps.length c1 hc1 _).mono ?_; rintro e w2 ⟨rfl, hw2⟩; have hw3 := hw2.symm; subst hw3))
  go_ret
  exact ⟨_, rfl, (HB.out.pl hn ps.length (Nat.le_refl _) (Or.inl rfl)).2, HW.out⟩
set_option maxRecDepth 100000 in
set_option maxHeartbeats 400000 in
theorem copy_any (r : Rv) (hk : r.ok) (po : Option Addr) (c : Nat) (ps : Ps) (w : World) (hv : r.pv = .slice po ps.length c) (h : PL w r.pv ps) (hc : po = none → c = 0) (hn : ps.length ≤ 100000) : Calls Try.prog 23 #[.agg r.cs] w (CopS w r ps) := by
  have HF := hid (fun W (hb : Below w.heap.size w W) => freshP_any po c ps W (hv ▸ h.below hb) hc hn)
  have HV := hid hv
  clear h hc hv
  go_enter Try.func23, Try.ntmps23
  go_wp2_with (first
    | ((with_reducible refine wpList_boxR rfl _ rfl r.cs ?_ ?_); exact rfl; intro w1 g1 hc1 hb1 hg1; have HA1 := hid (RBox.mk' hk hc1); have HB1 := hid hb1; clear hc1 hb1)
    | ((with_reducible refine wpList_allocR rfl rfl ?_); intro w2 g2 hz2 hb2 hg2; have HZ2 := hid hz2; have HA2 := hid (HA1.out.below hk hb2); have HB2 := hid (below_on HB1.out hb2); have HG := hid (show g1 < g2 ∧ w.heap.size ≤ g1 ∧ g2 < w2.heap.size from ⟨by have := HA1.out.at_.lt; omega, by omega, HZ2.out.at_.lt⟩); have c40 := HA2.out.c40; rw [HV.out] at c40; clear hz2 hb2 hg2 HA1 HB1)
    | (go_at_call 38; refine (HF.out _ HB2.out).mono ?_; rintro e w3 ⟨v3, rfl, hp3, hb3⟩; obtain ⟨p3, n3, c3, hv3⟩ := hp3.form; subst hv3; have HZ3 := hid (HZ2.out.below zR_ok hb3); have ha3 := HA2.out.below hk hb3; clear c40; have d40 := ha3.c40; have f40 := ha3.free; have hs := ha3.set40 hk (.slice p3 n3 c3); have ho : Only (fun b => b = g1) w3 (w3.setCell ⟨g1, 40, none⟩ (.slice p3 n3 c3)) := Only.set w3 _ _ rfl; have HA4 := hid hs; have HZ4 := hid (HZ3.out.only zR_ok ho (by have := HG.out; omega)); have HP4 := hid (hp3.only ho (fun i e => by have := HG.out; omega)); have HB4 := hid (below_tr (below_on HB2.out hb3) (ho.below (below_on HB2.out hb3).size (fun i e => by have := HG.out; omega))); clear hp3 hb3 ha3 hs ho)
    | ((with_reducible refine wpList_load_at 29 _ rfl ?_ g1 0 ?_ ({ r with pv := .slice p3 n3 c3 } : Rv).cs (.struct (Try.prog.fieldsOf 29)) ?_ underRec rfl ?_ ?_); exact rfl; exact rfl; exact HA4.out.whole; (rw [Rv.size_of (r := { r with pv := .slice p3 n3 c3 }) hk.sl]; exact sizeR))
    | ((with_reducible refine wpList_storeR rfl rfl _ _ rfl g2 ?_ (r := { r with pv := .slice p3 n3 c3 }) ?_ zR_ok ?_ ?_ HZ4.out ?_); exact rfl; exact rfl; exact ⟨hk.sl, hk.s8, hk.i, hk.e, hk.d, hk.u⟩; exact rfl; intro w5 h5 o5; have H5 := hid h5; have O5 := hid o5; clear h5 o5))
  refine ret_rowR rfl g2 rfl rfl H5.out ⟨hk.sl, hk.s8, hk.i, hk.e, hk.d, hk.u⟩ ⟨_, rfl, ?_, ?_⟩
  · exact (HP4.out.only O5.out (fun i e => by have := HG.out; omega)).base HB2.out.size
  · exact below_tr HB4.out (O5.out.below HB4.out.size (fun i e => by have := HG.out; omega))
#print axioms PBuf.app
#print axioms copy_any
end Go.Proofs.Ytcbmimjjpkkoeaa
