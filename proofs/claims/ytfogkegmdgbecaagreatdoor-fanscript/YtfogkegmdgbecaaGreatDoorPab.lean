/- Texts laid into one, cut to what is needed: the remark ahead of each part says what is proved there. -/
import Derived.Test.YtfogkegmdgbecaaGreatDoorPaa
import Derived.Laws.NewBlocks
import Derived.Laws.ResultCell
import Derived.BigQuiet
import Derived.Deep.Quiet
import Derived.Laws.Rows
/- Contract of find of package drive: a file, or what stands against it. -/
namespace Go.Proofs.YtfogkegmdgbecaaGreatDoor
open Go Go.RowKit

theorem heap_alloc_old (w : World) (o : Obj) {b : Nat} (h : b < w.heap.size) : (w.alloc o).heap[b]? = w.heap[b]? := (MapKept.heap_alloc w o).2 b h
theorem DrC.alloc {w : World} {S : Nat → Prop} {p m : Nat} {fu : Option Nat} {d : Pd} {L : List (Nm × Ent)} (h : DrC w S p m fu d L) (o : Obj) : DrC (w.alloc o) S p m fu d L :=
 h.keep (by simp) fun b hb => heap_alloc_old w o (h.lt b hb)
theorem FuAt.lt {w : World} {S : Nat → Prop} : ∀ {fu : Option Nat} {f : Fs}, FuAt w S fu f → ∀ q, fu = some q → q < w.heap.size
 | some _, some (_, _), h, _, rfl => h.1.lt
theorem FuAt.alloc {w : World} {S : Nat → Prop} {fu : Option Nat} {f : Fs} (h : FuAt w S fu f) (o : Obj) : FuAt (w.alloc o) S fu f :=
 h.keep fun q hq => heap_alloc_old w o (h.lt q hq)
theorem txt_one (w : World) (s : Nm) (c : Nat) (t : TypeId) (b : Nat) (hb : b = w.heap.size) : TxtAt (w.alloc (.cells #[sv s] t)) (.slice (some ⟨b, 0, none⟩) 1 c) [s] := by
 subst hb; exact
 Or.inr ⟨_, _, rfl, fun i hi => by
  have : i = 0 := by simpa using hi
  subst this
  have : CAt (w.alloc (.cells #[sv s] t)) w.heap.size #[sv s] t := (MapKept.heap_alloc w _).1
  rw [this.cell]; rfl⟩
theorem txt_two (w : World) (s s2 : Nm) (c : Nat) (t : TypeId) (b : Nat) (hb : b = w.heap.size) : TxtAt (w.alloc (.cells #[sv s, sv s2] t)) (.slice (some ⟨b, 0, none⟩) 2 c) [s, s2] := by
 subst hb; exact
 Or.inr ⟨_, _, rfl, fun i hi => by
  have hc : CAt (w.alloc (.cells #[sv s, sv s2] t)) w.heap.size #[sv s, sv s2] t := (MapKept.heap_alloc w _).1
  rw [hc.cell]
  have : i = 0 ∨ i = 1 := by simp at hi; omega
  rcases this with rfl | rfl <;> rfl⟩
theorem ret_file {fn : Func} {p u : Tmp} (h : fn.results = #[.cell p 130, .tmp u]) {R : Ending → World → Prop} {a : Act} {w : World} (g : Nat) (v : Value) (l : Bool) (x : Value)
  (hd0 : a.defers = []) (hp : a.tmps.getD p undef = ptr g) (hv : a.tmps.getD u undef = x) (hg : w.heap[g]? = some (.cells #[v, .bool l] 130)) (hR : R (.returned (.tuple #[.agg #[v, .bool l], x])) w) : bodyPost Tryz.prog fn R .ret a w := by
 refine ⟨hd0, .tuple #[.agg #[v, .bool l], x], ?_, hR⟩
 have hi : (Tryz.prog.info? 130).map (·.size) = some 2 := by kernel_rfl
 have hl := run_loadVar_row (P := Tryz.prog) w g _ _ #[v, .bool l] _ _ hg Tryz.underlying130 rfl hi
 rw [results_cell_tmp h, hp, hv]
 simp [asAddr, hl]
theorem size_al (w : World) (o : Obj) : (w.alloc o).heap.size = w.heap.size + 1 := by simp
theorem own_form {w : World} {B e sz n : Nat} {v : Value} {xs : List Value} (h : w.ownsRow B e sz v n xs) : ∃ po cc, v = .slice po n cc := by
 rcases h.2 with ⟨rfl, rfl⟩ | ⟨g, cap, cur, rfl, _⟩
 ·exact ⟨_, _, rfl⟩
 ·exact ⟨_, _, rfl⟩
theorem at_new (w : World) (o : Obj) : (w.alloc o).heap[w.heap.size]? = some o := (MapKept.heap_alloc w o).1
def zeroE : Ent := ⟨.slice none 0 0, [], false⟩
abbrev fileOf (e : Ent) : Value := .agg #[e.v, .bool e.l]
def findV (d : Pd) (f : Fs) (L : List (Nm × Ent)) (s : Nm) : Ent := if d.readE f s = 0 then (gget L s).getD zeroE else zeroE
theorem look_file {w : World} {m n : Nat} {L : List (Nm × Ent)} (h : w.ownsMap Tryz.prog 9 RF m n (mapD L)) (s : Nm) (hs : s.length ≤ maxLen) :
  (Instr.lookup 89 (.map (some m)) (sv s) true).run Tryz.prog w = .ok (.tuple #[fileOf ((gget L s).getD zeroE), .bool (gget L s).isSome]) w := by
 obtain ⟨v, ps, hrun, hv⟩ := h.look_ok strLaw underM (zeroF w) (RF_mk _ _ _ _) (keyS s hs)
 rw [mapD_has] at hrun
 rw [mapD_at] at hv
 obtain ⟨po, n, c, l, rfl, hz⟩ := RF_inv hv
 rw [hrun]
 cases hg : gget L s with
 | none => rw [hg] at hz; simp at hz; obtain ⟨⟨⟨rfl, rfl, rfl⟩, rfl⟩, _⟩ := hz; rfl
 | some e =>
  rw [hg] at hz; simp at hz
  obtain ⟨⟨h1, h2⟩, _⟩ := hz
  show _ = Result.ok _ _
  simp [fileOf, h1, h2]
theorem look_len {w : World} {m n : Nat} {L : List (Nm × Ent)} (h : w.ownsMap Tryz.prog 9 RF m n (mapD L)) (s : Nm) (hs : s.length ≤ maxLen) :
  (Instr.lookup 89 (.map (some m)) (sv s) false).run Tryz.prog w = .ok (fileOf ((gget L s).getD zeroE)) w := by
 obtain ⟨v, ps, hrun, hv⟩ := h.lookup strLaw underM (zeroF w) (RF_mk _ _ _ _) (keyS s hs)
 rw [mapD_at] at hv
 obtain ⟨po, n, c, l, rfl, hz⟩ := RF_inv hv
 rw [hrun]
 cases hg : gget L s with
 | none => rw [hg] at hz; simp at hz; obtain ⟨⟨⟨rfl, rfl, rfl⟩, rfl⟩, _⟩ := hz; rfl
 | some e =>
  rw [hg] at hz; simp at hz
  obtain ⟨⟨h1, h2⟩, _⟩ := hz
  show _ = Result.ok _ _
  simp [fileOf, h1, h2]
theorem wpList_look {ops : Array Oper} {rest : List Oper} {o : Oper} {a : Act} {Q : Exit → Act → World → Prop} (w : World) (hg : o.guard = none) (mo x : Operand) (ok : Bool) (hop : o.op = Op.lookup 89 mo x ok)
  {m n : Nat} {L : List (Nm × Ent)} (h : w.ownsMap Tryz.prog 9 RF m n (mapD L)) {s : Nm} (hs : s.length ≤ maxLen) (hm : a.eval mo = .map (some m)) (hx : a.eval x = sv s) {r : Value}
  (hr : r = if ok then .tuple #[fileOf ((gget L s).getD zeroE), .bool (gget L s).isSome] else fileOf ((gget L s).getD zeroE))
  (hK : wpList Tryz.prog ops Q rest (a.put o.dst r) w) : wpList Tryz.prog ops Q (o :: rest) a w := by
 refine wpList_plain hg fun K' hK' => ?_
 unfold Oper.wp
 subst hr
 cases ok
 ·simp [execOp, hop, hm, hx, look_len h s hs, Result.andThen]
  exact hK' _ _ hK
 ·simp [execOp, hop, hm, hx, look_file h s hs, Result.andThen]
  exact hK' _ _ hK
theorem readE_bad {d : Pd} {f : Fs} {s : Nm} (h : d.ans f [s] ≠ 0) : d.readE f s = d.ans f [s] := by unfold Pd.readE; rw [if_pos h]
def FindAt (w : World) (d : Pd) (f : Fs) (L : List (Nm × Ent)) (s : Nm) (e : Ending) (w' : World) : Prop :=
 e = .returned (.tuple #[fileOf (findV d f L s), .int .i64 (d.readE f s : Int)]) ∧ Below w.heap.size w w'
set_option maxRecDepth 100000 in
theorem find_any {w : World} {S : Nat → Prop} {p m : Nat} {fu : Option Nat} {d : Pd} {L : List (Nm × Ent)} (h : DrC w S p m fu d L) {f : Fs} (hf : FuAt w S fu f) (s : Nm) (hs : s.length ≤ maxLen) :
  Calls Tryz.prog 107 #[ptr p, sv s] w (FindAt w d f L s) := by
 have H := hid h
 have c2 : w.cell? ⟨p, 2, none⟩ = some (.map (some m)) := h.c.cell 2
 have hp := h.c.lt
 have HA := hid (fun (o1 o2 : Obj) v hv => answers_any ((h.alloc o1).alloc o2) ((hf.alloc o1).alloc o2) v [s] hv (by simp) (by simpa using hs))
 by_cases ha : d.ans f [s] = 0
 ·cases hg : gget L s with
  | none =>
   have e1 : d.readE f s = 6 := by unfold Pd.readE; rw [if_neg (by simp [ha]), H.out.fs, gget_map, hg]; rfl
   have e2 : findV d f L s = zeroE := by unfold findV; rw [e1, if_neg (by simp)]
   have HE := hid e1
   have HE2 := hid e2
   clear e1 e2 h hf
   go_enter Tryz.func107, Tryz.ntmps107
   go_wp2_with (first
    | (go_at_call 96; refine (HA.out _ _ _ (txt_one _ _ _ _ _ (by simp))).mono ?_; rintro e w' ⟨rfl, hw'⟩; rw [ha]; have hw2 := hw'.symm; subst hw2)
    | (at_lookup; refine wpList_look _ rfl _ _ true rfl ((H.out.mp.alloc _).alloc _) hs rfl rfl (r := .tuple #[.agg #[.slice none 0 0, .bool false], .bool false]) (by rw [hg]; rfl) ?_))
   refine ret_file rfl w.heap.size _ _ _ rfl rfl rfl ((heap_alloc_old _ _ (by simp only [size_al]; omega)).trans ((heap_alloc_old _ _ (by simp only [size_al]; omega)).trans (at_new w _))) ?_
   refine ⟨by rw [HE.out, HE2.out]; rfl, ?_⟩
   exact ((((Below.refl _ _).alloc (Nat.le_refl _) _).alloc (by simp only [size_al]; omega) _).alloc (by simp only [size_al]; omega) _)
  | some e =>
   have e1 : d.readE f s = 0 := by unfold Pd.readE; rw [if_neg (by simp [ha]), H.out.fs, gget_map, hg]; rfl
   have e2 : findV d f L s = e := by unfold findV; rw [e1, if_pos rfl, hg]; rfl
   have HE := hid e1
   have HE2 := hid e2
   obtain ⟨po, cc, hev⟩ := own_form (h.ow (s, e) (gget_mem hg))
   have HEV := hid hev
   clear e1 e2 h hf hev
   generalize hkk : e.b.length = kk at *
   clear hkk
   go_enter Tryz.func107, Tryz.ntmps107
   go_wp2_with (first
    | (go_at_call 96; refine (HA.out _ _ _ (txt_one _ _ _ _ _ (by simp))).mono ?_; rintro e w' ⟨rfl, hw'⟩; rw [ha]; have hw2 := hw'.symm; subst hw2)
    | (at_lookup; refine wpList_look _ rfl _ _ true rfl ((H.out.mp.alloc _).alloc _) hs rfl rfl (r := .tuple #[.agg #[.slice po kk cc, .bool e.l], .bool true]) (by rw [hg, ← HEV.out]; rfl) ?_))
   refine ret_file rfl w.heap.size _ _ _ rfl rfl rfl ((heap_alloc_old _ _ (by simp only [size_al]; omega)).trans ((heap_alloc_old _ _ (by simp only [size_al]; omega)).trans (at_new w _))) ?_
   refine ⟨by rw [HE.out, HE2.out, ← HEV.out]; rfl, ?_⟩
   exact ((((Below.refl _ _).alloc (Nat.le_refl _) _).alloc (by simp only [size_al]; omega) _).alloc (by simp only [size_al]; omega) _)
 ·have e1 := readE_bad ha
  have e2 : findV d f L s = zeroE := by unfold findV; rw [e1, if_neg ha]
  have HE := hid e1
  have HE2 := hid e2
  clear e1 e2 h hf
  have ha' : ((d.ans f [s] : Nat) : Int) ≠ 0 := by omega
  generalize hx : d.ans f [s] = x at *
  go_enter Tryz.func107, Tryz.ntmps107
  go_wp2_with (first
   | (go_at_call 96; refine (HA.out _ _ _ (txt_one _ _ _ _ _ (by simp))).mono ?_; rintro e w' ⟨rfl, hw'⟩; have hw2 := hw'.symm; subst hw2))
  refine ret_file rfl w.heap.size _ _ _ rfl rfl rfl ((heap_alloc_old _ _ (by simp only [size_al]; omega)).trans (at_new w _)) ?_
  refine ⟨by rw [HE.out, HE2.out]; rfl, ?_⟩
  exact (((Below.refl _ _).alloc (Nat.le_refl _) _).alloc (by simp only [size_al]; omega) _)
end Go.Proofs.YtfogkegmdgbecaaGreatDoor

/- Regions that draw their order of which the last operations write. -/
namespace Go.Proofs.YtfogkegmdgbecaaGreatDoor
open Go Go.RowKit

section
variable {P : Program} {ops : Array Oper} {md : Region.Mode} {C : World → Prop}

/-- What is listed has all listed for which it waits. -/
def Cl (md : Region.Mode) (ops : Array Oper) (listed : Array Bool) : Prop := ∀ j o, ops[j]? = some o → listed.getD j false = true → ∀ e ∈ o.after, Region.binds md e = true → listed.getD e.on false = true
theorem getD_flip {listed : Array Bool} {j : Nat} (h : listed.getD j true = false) : listed.getD j false = false := by
 rcases Nat.lt_or_ge j listed.size with h' | h'
 ·simp [h'] at h ⊢; exact h
 ·simp [Array.getElem?_eq_none h'] at h
theorem Cl.set {listed : Array Bool} {i : Nat} (h : Cl md ops listed) (hi : i ∈ Region.ready md ops listed) : Cl md ops (listed.setIfInBounds i true) := by
 intro j o ho hj e he hb
 obtain ⟨hun, oi, hoi, hall⟩ := mem_ready.1 hi
 by_cases hji : j = i
 ·subst hji
  rw [ho] at hoi; cases hoi
  exact getD_set_true (hall e he hb)
 ·rw [getD_set_ne false (Ne.symm hji)] at hj
  exact getD_set_true (h j o ho hj e he hb)
def waitsOn (md : Region.Mode) (ops : Array Oper) : Nat → Nat → Nat → Bool
 | 0, _, _ => false
 | f + 1, j, i => match ops[j]? with
  | none => false
  | some o => o.after.any fun e => Region.binds md e && (e.on == i || waitsOn md ops f e.on i)
theorem waits_listed {listed : Array Bool} (hc : Cl md ops listed) : ∀ (f j i : Nat), waitsOn md ops f j i = true → (listed.getD j false = true ∨ j ∈ Region.ready md ops listed) → listed.getD i false = true
 | 0, _, _, h, _ => by cases h
 | f + 1, j, i, h, hj => by
  unfold waitsOn at h
  cases ho : ops[j]? with
  | none => simp [ho] at h
  | some o =>
   simp only [ho, Array.any_eq_true', Bool.and_eq_true, Bool.or_eq_true, beq_iff_eq] at h
   obtain ⟨e, he, hb, h⟩ := h
   have hl : listed.getD e.on false = true := by
    rcases hj with hj | hj
    ·exact hc j o ho hj e he hb
    ·obtain ⟨_, o', ho', hall⟩ := mem_ready.1 hj
     rw [ho] at ho'; cases ho'
     exact hall e he hb
   rcases h with h | h
   ·rw [← h]; exact hl
   ·exact waits_listed hc f e.on i h (.inl hl)

/-- The operations tl come up one behind the other, and nothing else does. -/
def forced (md : Region.Mode) (ops : Array Oper) : List Nat → Array Bool → Prop
 | [], listed => Region.ready md ops listed = []
 | k :: ks, listed => Region.ready md ops listed = [k] ∧ forced md ops ks (listed.setIfInBounds k true)
def tailW (P : Program) (ops : Array Oper) (Q : Exit → Act → World → Prop) : List Nat → Act → World → Prop
 | [], a, w => Q .normal a w
 | k :: ks, a, w => wpOp P ops Q k (tailW P ops Q ks) a w
theorem any_of_forced {Q : Exit → Act → World → Prop} : ∀ (ks : List Nat) (listed : Array Bool) (a : Act) (w : World), forced md ops ks listed → tailW P ops Q ks a w → wpAny P md ops Q ks.length listed a w
 | [], _, _, _, hf, h => ⟨hf, h⟩
 | k :: ks, listed, a, w, hf, h => by
  refine ⟨fun h0 => (by rw [hf.1] at h0; cases h0), fun i hi => ?_⟩
  rw [hf.1, List.mem_singleton] at hi
  subst hi
  exact wpOp_mono (fun a w h => any_of_forced ks _ a w hf.2 h) h

/-- n more operations that only read come up, in whatever order; then those of the tail. -/
def wpAnyU (P : Program) (md : Region.Mode) (ops : Array Oper) (C : World → Prop) (tl : List Nat) (R : Act → Prop) : Nat → Array Bool → Act → Prop
 | 0, listed, a => forced md ops tl listed ∧ R a
 | n + 1, listed, a => Region.ready md ops listed ≠ [] ∧ ∀ i ∈ Region.ready md ops listed, qOp P ops C i (wpAnyU P md ops C tl R n (listed.setIfInBounds i true)) a

theorem wpAny_of_U {tl : List Nat} {R : Act → Prop} {Q : Exit → Act → World → Prop} (hR : ∀ a w, C w → R a → tailW P ops Q tl a w) : ∀ (n : Nat) (listed : Array Bool) (a : Act) (w : World), C w →
  wpAnyU P md ops C tl R n listed a → wpAny P md ops Q (n + tl.length) listed a w
 | 0, listed, a, w, hw, h => by
  rw [Nat.zero_add]
  exact any_of_forced tl listed a w h.1 (hR a w hw h.2)
 | n + 1, listed, a, w, hw, h => by
  obtain ⟨h1, h3⟩ := h
  rw [Nat.add_right_comm]
  exact ⟨fun h0 => absurd h0 h1, fun i hi => wpOp_of_qOp hw (fun a' w' hw' hh => wpAny_of_U hR n _ a' w' hw' hh) (h3 i hi)⟩

theorem wpAnyU_first {last : Nat} {ks : List Nat} {R : Act → Prop} {i f : Nat} {oi : Oper} {v : Value} (hi : ops[i]? = some oi) (hwait : waitsOn md ops f last i = true)
  (hsel : ∀ (j : Nat) (o : Oper) cs b, ops[j]? = some o → o.op ≠ .select cs b) : ∀ (n : Nat) (listed : Array Bool) (a : Act), Cl md ops listed →
   (∀ j oj, ops[j]? = some oj → j ≠ i → listed.getD j true = false → (∀ e ∈ oj.after, Region.binds md e = true → e.on ≠ i) → oi.apart ops oj = true) →
   i ∈ Region.ready md ops listed → YieldsIn P ops C oi v a →
   wpAnyU P md ops C (last :: ks) R n (listed.setIfInBounds i true) (a.put oi.dst v) → wpAnyU P md ops C (last :: ks) R (n + 1) listed a := by
 have hnl : ∀ listed : Array Bool, Cl md ops listed → i ∈ Region.ready md ops listed → last ∉ Region.ready md ops listed := fun listed hc hr hl => by
  have h1 := waits_listed hc f last i hwait (.inr hl)
  have h0 := getD_flip (mem_ready.1 hr).1
  rw [h0] at h1; cases h1
 intro n
 induction n with
 | zero =>
  intro listed a hc _ hr hy H
  refine ⟨fun h => (by rw [h] at hr; cases hr), fun j hj => ?_⟩
  by_cases hji : j = i
  ·subst hji; exact hy.qOp hi H
  ·have h1 := ready_mono hj hji
   rw [H.1.1, List.mem_singleton] at h1
   subst h1
   exact absurd hj (hnl _ hc hr)
 | succ n ih =>
  intro listed a hc hfree hr hy H
  refine ⟨fun h => (by rw [h] at hr; cases hr), fun j hj => ?_⟩
  by_cases hji : j = i
  ·subst hji; exact hy.qOp hi H
  ·have h1 := H.2 j (ready_mono hj hji)
   obtain ⟨hjun, oj, hoj, hall⟩ := mem_ready.1 hj
   have hnot : ∀ e ∈ oj.after, Region.binds md e = true → e.on ≠ i := fun e he hb heq => by
    have h1 := hall e he hb
    have h0 := getD_flip (mem_ready.1 hr).1
    rw [heq, h0] at h1; cases h1
   have h2 := qOp_put hoj (hfree j oj hoj hji hjun hnot) (fun cs b => hsel i oi cs b hi) (fun cs b => hsel j oj cs b hoj) hy h1
   refine qOp_mono (fun a' h3 => ih (listed.setIfInBounds j true) a' (hc.set hj) (fun k ok hk hki hun hno => ?_) (ready_mono hr (Ne.symm hji)) h3.1 ?_) h2
   ·refine hfree k ok hk hki ?_ hno
    by_cases hjk : j = k
    ·subst hjk; exact hjun
    ·rw [getD_set_ne true hjk] at hun; exact hun
   ·rw [Array.setIfInBounds_comm _ _ hji]
    exact h3.2

def forcedB (md : Region.Mode) (ops : Array Oper) : List Nat → Array Bool → Bool
 | [], listed => (Region.ready md ops listed).isEmpty
 | k :: ks, listed => decide (Region.ready md ops listed = [k]) && forcedB md ops ks (listed.setIfInBounds k true)
theorem forced_of : ∀ (ks : List Nat) (listed : Array Bool), forcedB md ops ks listed = true → forced md ops ks listed
 | [], _, h => List.isEmpty_iff.1 h
 | k :: ks, listed, h => by
  simp only [forcedB, Bool.and_eq_true, decide_eq_true_eq] at h
  exact ⟨h.1, forced_of ks _ h.2⟩
def lexU (md : Region.Mode) (ops : Array Oper) (tl : List Nat) : Nat → Nat → Array Bool → Bool
 | 0, _, listed => forcedB md ops tl listed
 | n + 1, k, listed => (Region.ready md ops listed).contains k && Region.free md ops listed k && (match tl with | [] => false | last :: _ => waitsOn md ops ops.size last k) && lexU md ops tl n (k + 1) (listed.setIfInBounds k true)

theorem wpAnyU_lex {last : Nat} {ks : List Nat} {R : Act → Prop} (hs : Region.noSelect ops = true) : ∀ (l : List Oper) (k : Nat) (listed : Array Bool) (a : Act), Cl md ops listed → (∀ j, j < l.length → l[j]? = ops[k + j]?) →
  lexU md ops (last :: ks) l.length k listed = true → wpQuiet P ops C R l a → wpAnyU P md ops C (last :: ks) R l.length listed a
 | [], _, _, _, _, _, hB, h => ⟨forced_of _ _ hB, h⟩
 | o :: l, k, listed, a, hc, hl, hB, h => by
  have h0 : ops[k]? = some o := by simpa using (hl 0 (by simp)).symm
  simp only [List.length_cons, lexU, Bool.and_eq_true] at hB
  obtain ⟨⟨⟨hr, hf⟩, hw⟩, hB'⟩ := hB
  have hr' : k ∈ Region.ready md ops listed := by simpa using hr
  have hst : qOp P ops C k (wpQuiet P ops C R l) a := by unfold qOp; simp only [h0]; exact h
  obtain ⟨v, hy, hK⟩ := yieldsIn_of_qOp h0 hst
  exact wpAnyU_first h0 hw (Region.noSelect_spec hs) l.length listed a hc (Region.free_spec h0 hf) hr' hy
   (wpAnyU_lex hs l (k + 1) _ _ (hc.set hr') (fun j hj => by have := hl (j + 1) (by simp; omega); simpa [Nat.add_assoc, Nat.add_comm 1 j] using this) hB' hK)

theorem Cl.start (ops : Array Oper) (n : Nat) : Cl md ops (Array.replicate n false) := fun j o _ hj => by
 rcases Nat.lt_or_ge j n with h | h
 ·simp [h] at hj
 ·have : (Array.replicate n false)[j]? = none := Array.getElem?_eq_none (by simpa using h)
  simp [this] at hj

def tailB (ops : Array Oper) (m k : Nat) : Bool := Region.noSelect ops && lexU .any ops (List.range' m (k + 1)) m 0 (Array.replicate ops.size false)

theorem tailW_list {Q : Exit → Act → World → Prop} : ∀ (t : List Oper) (m : Nat) (a : Act) (w : World), (∀ j, j < t.length → t[j]? = ops[m + j]?) → wpList P ops Q t a w → tailW P ops Q (List.range' m t.length) a w
 | [], _, _, _, _, h => h
 | o :: t, m, a, w, hl, h => by
  have h0 : ops[m]? = some o := by simpa using (hl 0 (by simp)).symm
  have ih := fun a w => tailW_list t (m + 1) a w (fun j hj => by have := hl (j + 1) (by simp; omega); simpa [Nat.add_assoc, Nat.add_comm 1 j] using this) (Q := Q)
  simp only [List.length_cons, List.range'_succ, tailW, wpOp, h0]
  unfold wpList at h
  split
  ·rename_i hw
   rw [if_pos hw] at h
   exact h.imp (fun h => Oper.wp_mono (fun a w h => ih a w h) h) id
  ·rename_i hw
   rw [if_neg hw] at h
   exact ih _ _ h

/-- A region that draws: the quiet walk of q, then those of t, as in a plain region. -/
theorem any_tail {Q : Exit → Act → World → Prop} {a : Act} {w : World} {q t : List Oper} {o : Oper} (hB : tailB (q ++ o :: t).toArray q.length t.length = true)
  (h : wpQuiet P (q ++ o :: t).toArray (fun w' => ∃ n, w' = w.drewN n) (fun a' => ∀ n, wpList P (q ++ o :: t).toArray Q (o :: t) a' (w.drewN n)) q a) :
  wpAny P .any (q ++ o :: t).toArray Q (q ++ o :: t).toArray.size (Array.replicate (q ++ o :: t).toArray.size false) a w.drew := by
 simp only [tailB, Bool.and_eq_true, List.range'_succ] at hB
 have hsz : (q ++ o :: t).toArray.size = q.length + (List.range' q.length (t.length + 1)).length := by simp
 have hg : wpAny P .any (q ++ o :: t).toArray Q (q.length + (List.range' q.length (t.length + 1)).length) (Array.replicate (q ++ o :: t).toArray.size false) a w.drew := by
  refine wpAny_of_U (C := fun w' => ∃ n, w' = w.drewN n) (R := fun a' => ∀ n, wpList P (q ++ o :: t).toArray Q (o :: t) a' (w.drewN n)) ?_ q.length _ _ _ ⟨1, rfl⟩ ?_
  ·rintro a' w' ⟨n, rfl⟩ hr
   exact tailW_list (o :: t) q.length a' _ (fun j _ => by rw [List.getElem?_toArray, List.getElem?_append_right (Nat.le_add_right _ _), Nat.add_sub_cancel_left]) (hr n)
  ·rw [List.range'_succ]
   exact wpAnyU_lex hB.1 q 0 _ a (Cl.start _ _) (fun j hj => by simp [List.getElem?_append_left hj]) hB.2 h
 rw [hsz]
 rw [hsz] at hg
 exact hg
/-- Cut behind m operations by the kernel. -/
theorem any_tail_at (m : Nat) {Q : Exit → Act → World → Prop} {a : Act} {w : World} {k : List Oper} {o : Oper} {t : List Oper} (hc : k.drop m = o :: t) (hB : tailB k.toArray (k.take m).length t.length = true)
  (h : wpQuiet P k.toArray (fun w' => ∃ n, w' = w.drewN n) (fun a' => ∀ n, wpList P k.toArray Q (o :: t) a' (w.drewN n)) (k.take m) a) :
  wpAny P .any k.toArray Q k.toArray.size (Array.replicate k.toArray.size false) a w.drew := by
 obtain ⟨q, hq⟩ : ∃ q, k.take m = q := ⟨_, rfl⟩
 have e : k = q ++ o :: t := by rw [← hq, ← hc]; exact (List.take_append_drop m k).symm
 rw [hq] at h hB
 subst e
 exact any_tail hB h
theorem wp_region_tail (m : Nat) {id : Nat} {Q : Exit → Act → World → Prop} {a : Act} {w : World} {k : List Oper} {o : Oper} {t : List Oper} (hm : P.follows .mixedOrders = true)
  (hc : k.drop m = o :: t) (hB : tailB k.toArray (k.take m).length t.length = true)
  (h : wpQuiet P k.toArray (fun w' => ∃ n, w' = w.drewN n) (fun a' => ∀ n, wpList P k.toArray Q (o :: t) a' (w.drewN n)) (k.take m) a) : (Code.region id k.toArray true).wp P Q a w :=
 wp_region_any hm (any_tail_at m hc hB h)
theorem any_tailC {Q : Exit → Act → World → Prop} {a : Act} {w : World} {q t : List Oper} {o : Oper} (hC : C w.drew) (hB : tailB (q ++ o :: t).toArray q.length t.length = true)
  (h : wpQuiet P (q ++ o :: t).toArray C (fun a' => ∀ w', C w' → wpList P (q ++ o :: t).toArray Q (o :: t) a' w') q a) :
  wpAny P .any (q ++ o :: t).toArray Q (q ++ o :: t).toArray.size (Array.replicate (q ++ o :: t).toArray.size false) a w.drew := by
 simp only [tailB, Bool.and_eq_true, List.range'_succ] at hB
 have hsz : (q ++ o :: t).toArray.size = q.length + (List.range' q.length (t.length + 1)).length := by simp
 have hg : wpAny P .any (q ++ o :: t).toArray Q (q.length + (List.range' q.length (t.length + 1)).length) (Array.replicate (q ++ o :: t).toArray.size false) a w.drew := by
  refine wpAny_of_U (C := C) (R := fun a' => ∀ w', C w' → wpList P (q ++ o :: t).toArray Q (o :: t) a' w') ?_ q.length _ _ _ hC ?_
  ·intro a' w' hw hr
   exact tailW_list (o :: t) q.length a' _ (fun j _ => by rw [List.getElem?_toArray, List.getElem?_append_right (Nat.le_add_right _ _), Nat.add_sub_cancel_left]) (hr w' hw)
  ·rw [List.range'_succ]
   exact wpAnyU_lex hB.1 q 0 _ a (Cl.start _ _) (fun j hj => by simp [List.getElem?_append_left hj]) hB.2 h
 rw [hsz]
 rw [hsz] at hg
 exact hg
end
/-- A world of a class. -/
structure WC (C : World → Prop) where
 w : World
 ok : C w
section
variable {P : Program} {C : World → Prop}
/-- A region that draws: the quiet walk of its first m operations over a class of worlds, then the others in their order. -/
theorem wp_region_tailC (m : Nat) {id : Nat} {Q : Exit → Act → World → Prop} {a : Act} {w : World} {k : List Oper} {o : Oper} {t : List Oper} (hm : P.follows .mixedOrders = true) (hC : C w.drew)
  (hc : k.drop m = o :: t) (hB : tailB k.toArray (k.take m).length t.length = true)
  (h : wpQuiet P k.toArray (fun w' => ∃ t : WC C, w' = t.w) (fun a' => ∀ w', (∃ t : WC C, w' = t.w) → wpList P k.toArray Q (o :: t) a' w') (k.take m) a) : (Code.region id k.toArray true).wp P Q a w := by
 obtain ⟨q, hq⟩ : ∃ q, k.take m = q := ⟨_, rfl⟩
 have e : k = q ++ o :: t := by rw [← hq, ← hc]; exact (List.take_append_drop m k).symm
 rw [hq] at h hB
 subst e
 exact wp_region_any hm (any_tailC (C := fun w' => ∃ t : WC C, w' = t.w) ⟨⟨w.drew, hC⟩, rfl⟩ hB h)
theorem quiet_load_class {o : Oper} {a : Act} {K : Act → Prop} (ty : TypeId) (x : Operand) (ho : o.op = .load ty x) (g : Nat) (hx : a.eval x = .pointer (some ⟨g, 0, none⟩)) (t : TypeId) (cs : Array Value) (d : TypeDesc)
  (hg : ∀ w, C w → w.heap[g]? = some (.cells cs t (0, 0))) (hu : P.underlying ty = some d) (hd : (match d with | .struct _ | .array _ _ => true | _ => false) = true) (hi : (P.info? ty).map (·.size) = some cs.size)
  (h : K (a.put o.dst (.agg cs))) : o.quiet P a (fun w' => ∃ t : WC C, w' = t.w) K := by
 refine ⟨.agg cs, ?_, h⟩
 rintro w ⟨t', rfl⟩
 have hg' := hg _ t'.ok
 unfold Oper.quietAt execOp
 simp only [ho, hx, Instr.loadAt, Instr.sureAddr, Sem.run_bind, Sem.run_pure, Result.andThen_ok, run_loadVar_row t'.w g t ty cs (0, 0) d hg' hu hd hi]
 exact ⟨rfl, rfl⟩
end
end Go.Proofs.YtfogkegmdgbecaaGreatDoor

/- Contract of take of package drive: a file is let go of. -/
namespace Go.Proofs.YtfogkegmdgbecaaGreatDoor
open Go Go.RowKit

section
variable {w : World} {S : Nat → Prop} {p m : Nat} {fu : Option Nat} {d : Pd} {L : List (Nm × Ent)}
theorem ownsMap_at {w : World} {P : Program} {k : TypeId} {m n : Nat} {D : DataW HD} (h : w.ownsMap P k RF m n D) : ∃ es clock, w.heap[m]? = some (.map es clock) := by
 obtain ⟨es, clock, hb, _⟩ := h; exact ⟨es, clock, hb⟩
theorem DrC.pm (h : DrC w S p m fu d L) : p ≠ m := by
 obtain ⟨es, clock, hm⟩ := ownsMap_at h.mp
 intro e; have hc : w.heap[p]? = _ := h.c; rw [e, hm] at hc; cases hc
theorem DrC.file_at (h : DrC w S p m fu d L) {x : Nm × Ent} (hx : x ∈ L) {b : Nat} (hb : x.2.v.ownBlock = some b) : ∃ cur, w.heap[b]? = some (.cells cur 5) := by
 rcases (h.ow x hx).2 with ⟨e, _⟩ | ⟨g, cap, cur, e, _, hg, _⟩
 ·rw [e] at hb; simp [Value.ownBlock] at hb
 ·rw [e] at hb; simp [Value.ownBlock] at hb; subst hb; exact ⟨cur, hg⟩
theorem DrC.file_ne (h : DrC w S p m fu d L) {x : Nm × Ent} (hx : x ∈ L) {b : Nat} (hb : x.2.v.ownBlock = some b) : b ≠ p ∧ b ≠ m := by
 obtain ⟨cur, hc⟩ := h.file_at hx hb
 obtain ⟨es, clock, hm⟩ := ownsMap_at h.mp
 refine ⟨fun e => ?_, fun e => ?_⟩
 ·have h1 : w.heap[p]? = _ := h.c
  rw [e, h1] at hc
  have ht := (Obj.cells.inj (Option.some.inj hc)).2.1
  revert ht; decide
 ·rw [e, hm] at hc; cases hc
/-- Another state of the drive, its files being among those that were there and one that is new. -/
theorem DrC.turned (h : DrC w S p m fu d L) {w2 : World} {d2 : Pd} {L2 : List (Nm × Ent)} {fu2 : Option Nat} (hc : CAt w2 p (dcells p m fu2 d2 (usedOf d2.F : Int)) 92) {n : Nat} (hm : w2.ownsMap Tryz.prog 9 RF m n (mapD L2))
  (hk : ∀ b, S b → b ≠ p → b ≠ m → w2.heap[b]? = w.heap[b]?) (hsz : w.heap.size ≤ w2.heap.size) (hF : d2.F = gmap Ent.fi L2) (hS : Srt L2)
  (hsub : ∀ x ∈ L2, okNm x.1 = true ∧ ((∃ y ∈ L, y.2.v = x.2.v ∧ y.2.b = x.2.b) ∨ (w.ownsRow 0 5 1 x.2.v x.2.b.length (x.2.b.map u8) ∧ (∀ y ∈ x.2.b, y < 256) ∧ ∀ b, x.2.v.ownBlock = some b → S b ∧ b ≠ p ∧ b ≠ m)))
  (hap : L2.Pairwise fun x y => x.2.v.ownBlock = none ∨ x.2.v.ownBlock ≠ y.2.v.ownBlock)
  (hu : usedOf d2.F ≤ d2.size) (hz : d2.size = d.size) : DrC w2 S p m fu2 d2 L2 where
 c := hc
 mp := ownsMap_exact hm
 fs := hF
 ow x hx := by
  rcases (hsub x hx).2 with ⟨y, hy, e1, e2⟩ | ⟨ho, _, hb⟩
  ·rw [← e1, ← e2]; exact ownsRow_keep (h.ow y hy) fun b hb => hk b (h.sf y hy b hb) (h.file_ne hy hb).1 (h.file_ne hy hb).2
  ·exact ownsRow_keep ho fun b hb' => hk b (hb b hb').1 (hb b hb').2.1 (hb b hb').2.2
 ap := hap
 by8 x hx y hy := by
  rcases (hsub x hx).2 with ⟨z, hz, _, e2⟩ | ⟨_, h8, _⟩
  ·rw [← e2] at hy; exact h.by8 z hz y hy
  ·exact h8 y hy
 so := hS
 nm x hx := (hsub x hx).1
 sp := h.sp
 sm := h.sm
 sf x hx b hb := by
  rcases (hsub x hx).2 with ⟨y, hy, e1, _⟩ | ⟨_, _, h2⟩
  ·rw [← e1] at hb; exact h.sf y hy b hb
  ·exact (h2 b hb).1
 lt b hb := Nat.lt_of_lt_of_le (h.lt b hb) hsz
 us := hu
 sz := by rw [hz]; exact h.sz
theorem DrC.entry (h : DrC w S p m fu d L) (s : Nm) : ∃ po c l, fileOf ((gget L s).getD zeroE) = .agg #[.slice po (lenAt d.F s) c, .bool l] := by
 have e : lenAt d.F s = ((gget L s).getD zeroE).b.length := by
  unfold lenAt; rw [h.fs, gget_map]; cases gget L s <;> rfl
 rw [e]
 cases hg : gget L s with
 | none => exact ⟨none, 0, false, rfl⟩
 | some x =>
  obtain ⟨po, cc, hv⟩ := own_form (h.ow (s, x) (gget_mem hg))
  exact ⟨po, cc, x.l, by simp [fileOf]; exact hv⟩
theorem DrC.srtF (h : DrC w S p m fu d L) : Srt d.F := by rw [h.fs]; exact h.so.map _
end
theorem turned_size {w w' : World} {b : Nat} (h : w.mapTurned w' b) : w'.heap.size = w.heap.size := by
 obtain ⟨es, clock, es', clock', _, rfl⟩ := h; simp [ChangeMaps.setBlock]
def TakeAt (w : World) (S : Nat → Prop) (p m : Nat) (fu : Option Nat) (d : Pd) (L : List (Nm × Ent)) (s : Nm) (e : Ending) (w' : World) : Prop :=
 e = .returned (.tuple #[]) ∧ DrC w' S p m fu { d with F := gdel d.F s } (gdel L s) ∧ Only (fun b => b = p ∨ b = m) w w' ∧ w'.heap.size = w.heap.size
theorem drewN_own {w : World} {m n k : Nat} {D : DataW HD} (h : w.ownsMap Tryz.prog 9 RF m n D) : (w.drewN k).ownsMap Tryz.prog 9 RF m n D := h
theorem run_field0 (v : Value) (l : Bool) (w : World) : (Instr.field 130 (.agg #[v, .bool l]) 0).run Tryz.prog w = .ok v w := by
 have hu := Tryz.underlying130
 have hg : (isAgg 30).run Tryz.prog w = .ok false w := by kernel_rfl
 simp [Instr.field, run_underlying hu, asAgg, part, hg, Result.andThen]
theorem DrC.drewN {w : World} {S : Nat → Prop} {p m : Nat} {fu : Option Nat} {d : Pd} {L : List (Nm × Ent)} (h : DrC w S p m fu d L) (n : Nat) : DrC (w.drewN n) S p m fu d L := h.keep (Nat.le_refl _) fun _ _ => rfl
theorem Only.drewN (S : Nat → Prop) (w : World) (n : Nat) : Only S w (w.drewN n) := ⟨rfl, rfl, rfl, Nat.le_refl _, fun _ _ _ => rfl⟩
theorem FuAt.drewN {w : World} {S : Nat → Prop} {fu : Option Nat} {f : Fs} (h : FuAt w S fu f) (n : Nat) : FuAt (w.drewN n) S fu f := h.keep fun _ _ => rfl
set_option maxRecDepth 100000 in
theorem take_any {w : World} {S : Nat → Prop} {p m : Nat} {fu : Option Nat} {d : Pd} {L : List (Nm × Ent)} (h : DrC w S p m fu d L) (s : Nm) (hs : s.length ≤ maxLen) :
  Calls Tryz.prog 89 #[ptr p, sv s] w (TakeAt w S p m fu d L s) := by
 have H := hid h
 have c2 : w.cell? ⟨p, 2, none⟩ = some (.map (some m)) := h.c.cell 2
 have c3 : w.cell? ⟨p, 3, none⟩ = some (.int .i64 (usedOf d.F : Int)) := h.c.cell 3
 have z3 : w.frozen? ⟨p, 3, none⟩ = false := h.c.free 3
 obtain ⟨po, c, l, hent⟩ := h.entry s
 have hd := used_del h.srtF s
 have hus := h.us
 have hsz := h.sz
 have hlk : ∀ n, (Instr.lookup 89 (.map (some m)) (sv s) false).run Tryz.prog (w.drewN n) = .ok (.agg #[.slice po (lenAt d.F s) c, .bool l]) (w.drewN n) := fun n => by
  rw [look_len (drewN_own h.mp) s hs, hent]
 have hfd := run_field0 (.slice po (lenAt d.F s) c) l
 have hsub : (usedOf d.F : Int) - (lenAt d.F s : Int) = (usedOf (gdel d.F s) : Int) := by omega
 have HS := hid hsub
 generalize hA : usedOf d.F = A at *
 generalize hB : lenAt d.F s = B at *
 generalize hC : usedOf (gdel d.F s) = C at *
 have HABC := hid (And.intro hA (And.intro hB hC))
 clear hA hB hC h hent hsub
 have hd' := hd.symm
 subst hd'
 go_enter Tryz.func89, Tryz.ntmps89
 go_wp2
 refine wp_region_tail 15 (by kernel_rfl) rfl (by kernel_rfl) ?_
 dsimp only [List.take]
 repeat (go_big_quiet_step (fail))
 refine wpQuiet_nil ?_
 intro nr
 have H1 := hid (H.out.drewN nr)
 have HO := hid (Only.drewN (fun b => b = p ∨ b = m) w nr)
 have HZ : Hid ((w.drewN nr).heap.size = w.heap.size) := hid rfl
 clear hlk c2 c3 z3
 generalize w.drewN nr = w1 at *
 have c2 : w1.cell? ⟨p, 2, none⟩ = some (.map (some m)) := H1.out.c.cell 2
 have c3 : w1.cell? ⟨p, 3, none⟩ = some (.int .i64 (usedOf d.F : Int)) := H1.out.c.cell 3
 have z3 : w1.frozen? ⟨p, 3, none⟩ = false := H1.out.c.free 3
 have hm1 := hid (H1.out.mp.setCell (a := ⟨p, 3, none⟩) (Ne.symm H1.out.pm) (.int .i64 (C : Int)))
 have hc1 := hid (H1.out.c.set 3 (.int .i64 (C : Int)))
 go_wp2_with (first
  | (at_delete; refine wpList_delete_own _ rfl _ _ 89 9 rfl 130 strLaw underM _ m _ _ rfl hm1.out _ _ rfl (keyS s hs) ?_; intro w2 hown2 hturn2))
 go_end0
 have hu : usedOf ({ d with F := gdel d.F s } : Pd).F = C := HABC.out.2.2
 have hsz1 : (w1.setCell ⟨p, 3, none⟩ (.int .i64 (C : Int))).heap.size = w1.heap.size := setCell_size _ _ _
 have hk : ∀ b, b < w1.heap.size → b ≠ p → b ≠ m → w2.heap[b]? = w1.heap[b]? := fun b hb h1 h2 =>
  (hturn2.grown.block b (by rw [hsz1]; exact hb) (fun e => h2 (by cases e; rfl))).trans (heap_setCell_ne _ _ _ _ h1)
 have hp2 : w2.heap[p]? = (w1.setCell ⟨p, 3, none⟩ (.int .i64 (C : Int))).heap[p]? := hturn2.grown.block p (by rw [hsz1]; exact H1.out.c.lt) (fun e => H1.out.pm (by cases e; rfl))
 refine ⟨rfl, ?_, ?_, ?_⟩
 ·refine H1.out.turned (d2 := { d with F := gdel d.F s }) ?_ (by rw [mapD_del] at hown2; exact hown2) (fun b hb h1 h2 => hk b (H1.out.lt b hb) h1 h2) ?_ ?_ (H1.out.so.del s) (fun x hx => ?_) ?_ ?_ rfl
  ·rw [hu]; exact hc1.out.keep hp2
  ·rw [turned_size hturn2, hsz1]; exact Nat.le_refl _
  ·show gdel d.F s = _; rw [H1.out.fs, gdel_map]
  ·exact ⟨H1.out.nm x (mem_del.1 hx).1, Or.inl ⟨x, (mem_del.1 hx).1, rfl, rfl⟩⟩
  ·exact H1.out.ap.filter _
  ·rw [hu]; show C ≤ d.size; omega
 ·refine (HO.out.then (Only.set (S := fun b => b = p ∨ b = m) w1 ⟨p, 3, none⟩ _ (Or.inl rfl)) (fun _ _ h => h)).then (Only.of_grown hturn2.grown (fun k e _ => Or.inr (by cases e; rfl))) (fun _ _ h => h)
 ·rw [turned_size hturn2, hsz1, HZ.out]
end Go.Proofs.YtfogkegmdgbecaaGreatDoor
