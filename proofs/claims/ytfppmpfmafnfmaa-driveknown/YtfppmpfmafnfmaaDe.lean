/- Contract of find of package drive: a file, or what stands against it. -/
import Derived.Test.YtfppmpfmafnfmaaDd
import Derived.Laws.NewBlocks
import Derived.Laws.ResultCell
namespace Go.Proofs.Ytfppmpfmafnfmaa
open Go Go.RowKit

theorem heap_alloc_old (w : World) (o : Obj) {b : Nat} (h : b < w.heap.size) : (w.alloc o).heap[b]? = w.heap[b]? := (MapKept.heap_alloc w o).2 b h
theorem DrC.alloc {w : World} {S : Nat → Prop} {p m : Nat} {fu : Option Nat} {d : Pd} {L : List (Nm × Ent)} (h : DrC w S p m fu d L) (o : Obj) : DrC (w.alloc o) S p m fu d L :=
  h.keep (by simp) fun b hb => heap_alloc_old w o (h.lt b hb)
theorem FuAt.lt {w : World} {S : Nat → Prop} : ∀ {fu : Option Nat} {f : Fs}, FuAt w S fu f → ∀ q, fu = some q → q < w.heap.size
  | some _, some (_, _), h, _, rfl => h.1.lt
theorem FuAt.alloc {w : World} {S : Nat → Prop} {fu : Option Nat} {f : Fs} (h : FuAt w S fu f) (o : Obj) : FuAt (w.alloc o) S fu f :=
  h.keep fun q hq => heap_alloc_old w o (h.lt q hq)
theorem txt_one (w : World) (s : Nm) (c : Nat) (t : TypeId) (b : Nat) (hb : b = w.heap.size) : TxtAt (w.alloc (.cells #[sv s] t)) (.slice (some ⟨b, 0, none⟩) 1 c) [s] := by
  subst hb; exact
  Or.inr ⟨_, _, rfl, fun i hi => by
    have : i = 0 := by simpa using hi
    subst this
    have : CAt (w.alloc (.cells #[sv s] t)) w.heap.size #[sv s] t := (MapKept.heap_alloc w _).1
    rw [this.cell]; rfl⟩
theorem txt_two (w : World) (s s2 : Nm) (c : Nat) (t : TypeId) (b : Nat) (hb : b = w.heap.size) : TxtAt (w.alloc (.cells #[sv s, sv s2] t)) (.slice (some ⟨b, 0, none⟩) 2 c) [s, s2] := by
  subst hb; exact
  Or.inr ⟨_, _, rfl, fun i hi => by
    have hc : CAt (w.alloc (.cells #[sv s, sv s2] t)) w.heap.size #[sv s, sv s2] t := (MapKept.heap_alloc w _).1
    rw [hc.cell]
    have : i = 0 ∨ i = 1 := by simp at hi; omega
    rcases this with rfl | rfl <;> rfl⟩
theorem ret_file {fn : Func} {p u : Tmp} (h : fn.results = #[.cell p 78, .tmp u]) {R : Ending → World → Prop} {a : Act} {w : World} (g : Nat) (v : Value) (l : Bool) (x : Value)
    (hd0 : a.defers = []) (hp : a.tmps.getD p undef = ptr g) (hv : a.tmps.getD u undef = x) (hg : w.heap[g]? = some (.cells #[v, .bool l] 78)) (hR : R (.returned (.tuple #[.agg #[v, .bool l], x])) w) : bodyPost Try.prog fn R .ret a w := by
  refine ⟨hd0, .tuple #[.agg #[v, .bool l], x], ?_, hR⟩
  have hi : (Try.prog.info? 78).map (·.size) = some 2 := by kernel_rfl
  have hl := run_loadVar_row (P := Try.prog) w g _ _ #[v, .bool l] _ _ hg Try.underlying78 rfl hi
  rw [results_cell_tmp h, hp, hv]
  simp [asAddr, hl]
theorem size_al (w : World) (o : Obj) : (w.alloc o).heap.size = w.heap.size + 1 := by simp
theorem own_form {w : World} {B e sz n : Nat} {v : Value} {xs : List Value} (h : w.ownsRow B e sz v n xs) : ∃ po cc, v = .slice po n cc := by
  rcases h.2 with ⟨rfl, rfl⟩ | ⟨g, cap, cur, rfl, _⟩
  · exact ⟨_, _, rfl⟩
  · exact ⟨_, _, rfl⟩
theorem at_new (w : World) (o : Obj) : (w.alloc o).heap[w.heap.size]? = some o := (MapKept.heap_alloc w o).1
def zeroE : Ent := ⟨.slice none 0 0, [], false⟩
abbrev fileOf (e : Ent) : Value := .agg #[e.v, .bool e.l]
def findV (d : Pd) (f : Fs) (L : List (Nm × Ent)) (s : Nm) : Ent := if d.readE f s = 0 then (gget L s).getD zeroE else zeroE
theorem look_file {w : World} {m n : Nat} {L : List (Nm × Ent)} (h : w.ownsMap Try.prog 9 RF m n (mapD L)) (s : Nm) (hs : s.length ≤ maxLen) :
    (Instr.lookup 48 (.map (some m)) (sv s) true).run Try.prog w = .ok (.tuple #[fileOf ((gget L s).getD zeroE), .bool (gget L s).isSome]) w := by
  obtain ⟨v, ps, hrun, hv⟩ := h.look_ok strLaw underM (zeroF w) (RF_mk _ _ _ _) (keyS s hs)
  rw [mapD_has] at hrun
  rw [mapD_at] at hv
  obtain ⟨po, n, c, l, rfl, hz⟩ := RF_inv hv
  rw [hrun]
  cases hg : gget L s with
  | none => rw [hg] at hz; simp at hz; obtain ⟨⟨⟨rfl, rfl, rfl⟩, rfl⟩, _⟩ := hz; rfl
  | some e =>
    rw [hg] at hz; simp at hz
    obtain ⟨⟨h1, h2⟩, _⟩ := hz
    show _ = Result.ok _ _
    simp [fileOf, h1, h2]
theorem look_len {w : World} {m n : Nat} {L : List (Nm × Ent)} (h : w.ownsMap Try.prog 9 RF m n (mapD L)) (s : Nm) (hs : s.length ≤ maxLen) :
    (Instr.lookup 48 (.map (some m)) (sv s) false).run Try.prog w = .ok (fileOf ((gget L s).getD zeroE)) w := by
  obtain ⟨v, ps, hrun, hv⟩ := h.lookup strLaw underM (zeroF w) (RF_mk _ _ _ _) (keyS s hs)
  rw [mapD_at] at hv
  obtain ⟨po, n, c, l, rfl, hz⟩ := RF_inv hv
  rw [hrun]
  cases hg : gget L s with
  | none => rw [hg] at hz; simp at hz; obtain ⟨⟨⟨rfl, rfl, rfl⟩, rfl⟩, _⟩ := hz; rfl
  | some e =>
    rw [hg] at hz; simp at hz
    obtain ⟨⟨h1, h2⟩, _⟩ := hz
    show _ = Result.ok _ _
    simp [fileOf, h1, h2]
theorem wpList_look {ops : Array Oper} {rest : List Oper} {o : Oper} {a : Act} {Q : Exit → Act → World → Prop} (w : World) (hg : o.guard = none) (mo x : Operand) (ok : Bool) (hop : o.op = Op.lookup 48 mo x ok)
    {m n : Nat} {L : List (Nm × Ent)} (h : w.ownsMap Try.prog 9 RF m n (mapD L)) {s : Nm} (hs : s.length ≤ maxLen) (hm : a.eval mo = .map (some m)) (hx : a.eval x = sv s) {r : Value}
    (hr : r = if ok then .tuple #[fileOf ((gget L s).getD zeroE), .bool (gget L s).isSome] else fileOf ((gget L s).getD zeroE))
    (hK : wpList Try.prog ops Q rest (a.put o.dst r) w) : wpList Try.prog ops Q (o :: rest) a w := by
  refine wpList_plain hg fun K' hK' => ?_
  unfold Oper.wp
  subst hr
  cases ok
  · simp [execOp, hop, hm, hx, look_len h s hs, Result.andThen]
    exact hK' _ _ hK
  · simp [execOp, hop, hm, hx, look_file h s hs, Result.andThen]
    exact hK' _ _ hK
theorem readE_bad {d : Pd} {f : Fs} {s : Nm} (h : d.ans f [s] ≠ 0) : d.readE f s = d.ans f [s] := by unfold Pd.readE; rw [if_pos h]
def FindAt (w : World) (d : Pd) (f : Fs) (L : List (Nm × Ent)) (s : Nm) (e : Ending) (w' : World) : Prop :=
  e = .returned (.tuple #[fileOf (findV d f L s), .int .i64 (d.readE f s : Int)]) ∧ Below w.heap.size w w'
set_option maxRecDepth 100000 in
theorem find_any {w : World} {S : Nat → Prop} {p m : Nat} {fu : Option Nat} {d : Pd} {L : List (Nm × Ent)} (h : DrC w S p m fu d L) {f : Fs} (hf : FuAt w S fu f) (s : Nm) (hs : s.length ≤ maxLen) :
    Calls Try.prog 59 #[ptr p, sv s] w (FindAt w d f L s) := by
  have H := hid h
  have c2 : w.cell? ⟨p, 2, none⟩ = some (.map (some m)) := h.c.cell 2
  have hp := h.c.lt
  have HA := hid (fun (o1 o2 : Obj) v hv => answers_any ((h.alloc o1).alloc o2) ((hf.alloc o1).alloc o2) v [s] hv (by simp) (by simpa using hs))
  by_cases ha : d.ans f [s] = 0
  · cases hg : gget L s with
    | none =>
      have e1 : d.readE f s = 6 := by unfold Pd.readE; rw [if_neg (by simp [ha]), H.out.fs, gget_map, hg]; rfl
      have e2 : findV d f L s = zeroE := by unfold findV; rw [e1, if_neg (by simp)]
      have HE := hid e1
      have HE2 := hid e2
      clear e1 e2 h hf
      go_enter Try.func59, Try.ntmps59
      go_wp2_with (first
        | (go_at_call 60; refine (HA.out _ _ _ (txt_one _ _ _ _ _ (by simp))).mono ?_; rintro e w' ⟨rfl, hw'⟩; rw [ha]; have hw2 := hw'.symm; subst hw2)
        | (at_lookup; refine wpList_look _ rfl _ _ true rfl ((H.out.mp.alloc _).alloc _) hs rfl rfl (r := .tuple #[.agg #[.slice none 0 0, .bool false], .bool false]) (by rw [hg]; rfl) ?_))
      refine ret_file rfl w.heap.size _ _ _ rfl rfl rfl ((heap_alloc_old _ _ (by simp only [size_al]; omega)).trans ((heap_alloc_old _ _ (by simp only [size_al]; omega)).trans (at_new w _))) ?_
      refine ⟨by rw [HE.out, HE2.out]; rfl, ?_⟩
      exact ((((Below.refl _ _).alloc (Nat.le_refl _) _).alloc (by simp only [size_al]; omega) _).alloc (by simp only [size_al]; omega) _)
    | some e =>
      have e1 : d.readE f s = 0 := by unfold Pd.readE; rw [if_neg (by simp [ha]), H.out.fs, gget_map, hg]; rfl
      have e2 : findV d f L s = e := by unfold findV; rw [e1, if_pos rfl, hg]; rfl
      have HE := hid e1
      have HE2 := hid e2
      obtain ⟨po, cc, hev⟩ := own_form (h.ow (s, e) (gget_mem hg))
      have HEV := hid hev
      clear e1 e2 h hf hev
      generalize hkk : e.b.length = kk at *
      clear hkk
      go_enter Try.func59, Try.ntmps59
      go_wp2_with (first
        | (go_at_call 60; refine (HA.out _ _ _ (txt_one _ _ _ _ _ (by simp))).mono ?_; rintro e w' ⟨rfl, hw'⟩; rw [ha]; have hw2 := hw'.symm; subst hw2)
        | (at_lookup; refine wpList_look _ rfl _ _ true rfl ((H.out.mp.alloc _).alloc _) hs rfl rfl (r := .tuple #[.agg #[.slice po kk cc, .bool e.l], .bool true]) (by rw [hg, ← HEV.out]; rfl) ?_))
      refine ret_file rfl w.heap.size _ _ _ rfl rfl rfl ((heap_alloc_old _ _ (by simp only [size_al]; omega)).trans ((heap_alloc_old _ _ (by simp only [size_al]; omega)).trans (at_new w _))) ?_
      refine ⟨by rw [HE.out, HE2.out, ← HEV.out]; rfl, ?_⟩
      exact ((((Below.refl _ _).alloc (Nat.le_refl _) _).alloc (by simp only [size_al]; omega) _).alloc (by simp only [size_al]; omega) _)
  · have e1 := readE_bad ha
    have e2 : findV d f L s = zeroE := by unfold findV; rw [e1, if_neg ha]
    have HE := hid e1
    have HE2 := hid e2
    clear e1 e2 h hf
    have ha' : ((d.ans f [s] : Nat) : Int) ≠ 0 := by omega
    generalize hx : d.ans f [s] = x at *
    go_enter Try.func59, Try.ntmps59
    go_wp2_with (first
      | (go_at_call 60; refine (HA.out _ _ _ (txt_one _ _ _ _ _ (by simp))).mono ?_; rintro e w' ⟨rfl, hw'⟩; have hw2 := hw'.symm; subst hw2))
    refine ret_file rfl w.heap.size _ _ _ rfl rfl rfl ((heap_alloc_old _ _ (by simp only [size_al]; omega)).trans (at_new w _)) ?_
    refine ⟨by rw [HE.out, HE2.out]; rfl, ?_⟩
    exact (((Below.refl _ _).alloc (Nat.le_refl _) _).alloc (by simp only [size_al]; omega) _)
#print axioms find_any
end Go.Proofs.Ytfppmpfmafnfmaa
