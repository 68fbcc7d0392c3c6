/- Texts laid into one, cut to what is needed: the remark ahead of each part says what is proved there. -/
import Derived.Test.YtkiojnledimihaaRows
import Derived.Maps.RangeWalk
import Derived.WalkKit
import Derived.WalkSpells
import Derived.WalkLawsBesides
import Derived.Maps.OwnSet
import Derived.Laws.Rows
import Derived.Laws.CopyOwn
import Derived.Deep.RegionHeld3
import Derived.Deep.QuietTactic
import Derived.LaidEqlPtr
import Derived.Laws.NewBlocks
import Derived.Laws.ResultCell
import Derived.BigQuiet
import Derived.Deep.Quiet
import Derived.Test.YtkiojnledimihaaShelf
import Derived.Sort.OwnSorted
import Derived.Maps.AppendAt
import Derived.Sort.KeysCollected
import Derived.Lib.SlBytesConst
import Derived.Laws.BytesArg
import Derived.Laws.BytesString
import Derived.Deep.Grids
import Derived.ChangeArms
import Derived.Laws.BitsAllLaws
import Derived.Laws.Closers25b
/- Drives as mathematics: names, files by rising names, and what each call makes of them. -/
namespace Go.Proofs.Ytkiojnledimihaa
open Go

abbrev Nm := List UInt8
def okNm (s : Nm) : Bool := decide (1 ≤ s.length) && (decide (s.length ≤ 512) && s.all fun c => decide (33 ≤ c.toNat) && decide (c.toNat ≤ 126))

section
variable {α β : Type}
def gget (L : List (Nm × α)) (s : Nm) : Option α := (L.find? fun p => p.1 == s).map (·.2)
def gdel (L : List (Nm × α)) (s : Nm) : List (Nm × α) := L.filter fun p => !(p.1 == s)
def gins (x : Nm × α) : List (Nm × α) → List (Nm × α)
  | [] => [x]
  | y :: r => if bytesBefore x.1 y.1 then x :: y :: r else y :: gins x r
def gput (L : List (Nm × α)) (s : Nm) (a : α) : List (Nm × α) := gins (s, a) (gdel L s)
def Srt (L : List (Nm × α)) : Prop := L.Pairwise fun p q => bytesBefore p.1 q.1 = true
def gmap (f : α → β) (L : List (Nm × α)) : List (Nm × β) := L.map fun p => (p.1, f p.2)

theorem bb_irrefl (a : Nm) : bytesBefore a a = false := by
  have := WideShapes.before_irrefl (.string a); simpa [Lit.before] using this
theorem bb_trans {a b c : Nm} (h1 : bytesBefore a b = true) (h2 : bytesBefore b c = true) : bytesBefore a c = true := by
  have := WideShapes.before_trans (a := .string a) (b := .string b) (c := .string c) (by simpa [Lit.before] using h1) (by simpa [Lit.before] using h2)
  simpa [Lit.before] using this
theorem bb_total {a b : Nm} (h : a ≠ b) : bytesBefore a b = true ∨ bytesBefore b a = true := by
  have := ChangeMaps.before_total (a := .string a) (b := .string b) ⟨a, rfl⟩ ⟨b, rfl⟩ (fun e => h (by cases e; rfl))
  simpa [Lit.before] using this
theorem bb_ne {a b : Nm} (h : bytesBefore a b = true) : a ≠ b := fun e => by subst e; rw [bb_irrefl] at h; cases h
theorem bb_lt : ∀ (a b : Nm), bytesBefore a b = true ↔ a < b
  | [], [] => by simp [bytesBefore]
  | [], _ :: _ => by simp [bytesBefore]
  | _ :: _, [] => by simp [bytesBefore]
  | x :: r, y :: s => by
    have ih := bb_lt r s
    rw [List.cons_lt_cons_iff, ← ih]
    simp [bytesBefore]

theorem gins_perm (x : Nm × α) : ∀ L : List (Nm × α), (gins x L).Perm (x :: L)
  | [] => List.Perm.refl _
  | y :: r => by
    unfold gins; split
    · exact List.Perm.refl _
    · exact ((gins_perm x r).cons y).trans (List.Perm.swap x y r)
theorem mem_del {L : List (Nm × α)} {s : Nm} {p : Nm × α} : p ∈ gdel L s ↔ p ∈ L ∧ p.1 ≠ s := by simp [gdel]
theorem Srt.del {L : List (Nm × α)} (h : Srt L) (s : Nm) : Srt (gdel L s) := List.Pairwise.filter _ h
theorem srt_ins {x : Nm × α} : ∀ {L : List (Nm × α)}, Srt L → (∀ p ∈ L, p.1 ≠ x.1) → Srt (gins x L)
  | [], _, _ => by simp [gins, Srt]
  | y :: r, h, hne => by
    obtain ⟨h1, h2⟩ := List.pairwise_cons.1 h
    unfold gins; split
    · rename_i hb
      refine List.pairwise_cons.2 ⟨fun q hq => ?_, h⟩
      rcases List.mem_cons.1 hq with rfl | hq
      · exact hb
      · exact bb_trans hb (h1 q hq)
    · rename_i hb
      have hyx : bytesBefore y.1 x.1 = true := by
        rcases bb_total (hne y (by simp)) with h' | h'
        · exact h'
        · exact absurd h' hb
      refine List.pairwise_cons.2 ⟨fun q hq => ?_, srt_ins h2 (fun p hp => hne p (by simp [hp]))⟩
      rcases List.mem_cons.1 ((gins_perm x r).mem_iff.1 hq) with rfl | hq
      · exact hyx
      · exact h1 q hq
theorem Srt.put {L : List (Nm × α)} (h : Srt L) (s : Nm) (a : α) : Srt (gput L s a) := srt_ins (h.del s) fun _ hp => (mem_del.1 hp).2
theorem Srt.map {L : List (Nm × α)} (h : Srt L) (f : α → β) : Srt (gmap f L) := List.pairwise_map.2 h
theorem Srt.apart {L : List (Nm × α)} (h : Srt L) : L.Pairwise fun p q => p.1 ≠ q.1 := List.Pairwise.imp (fun h => bb_ne h) h
theorem gget_mem {L : List (Nm × α)} {s : Nm} {a : α} (h : gget L s = some a) : (s, a) ∈ L := by
  unfold gget at h
  obtain ⟨p, hp, rfl⟩ := Option.map_eq_some_iff.1 h
  have h1 := List.find?_some hp
  have h2 := List.mem_of_find?_eq_some hp
  simp at h1; rw [← h1]; exact h2
end

/-- A file: its bytes, and whether it is loose. -/
abbrev Fi := List Nat × Bool
def usedOf (L : List (Nm × Fi)) : Nat := (L.map fun p => p.2.1.length).sum
structure Pd where
  size : Nat
  ops : Nat
  offl : Bool
  full : Bool
  out : Bool
  F : List (Nm × Fi)
/-- How many changes a fuse lets by still, and whether it is gone; none: there is no fuse. -/
abbrev Fs := Option (Nat × Bool)
def goneF : Fs → Bool | some (_, g) => g | none => false
def Pd.isOut (d : Pd) (f : Fs) : Bool := d.out || goneF f
def Pd.ans (d : Pd) (f : Fs) (ns : List Nm) : Nat := if d.isOut f then 11 else if d.offl then 12 else if ns.all okNm then 0 else 13
def burn : Fs → Fs | none => none | some (0, _) => some (0, true) | some (n + 1, g) => some (n, g)
def letsF : Fs → Bool | some (0, _) => false | _ => true
def Pd.chg (d : Pd) (f : Fs) (F : List (Nm × Fi)) : Nat × Pd × Fs := if letsF f then (0, { d with F := F, ops := d.ops + 1 }, burn f) else (11, d, burn f)
def Pd.rename (d : Pd) (f : Fs) (s t : Nm) : Nat × Pd × Fs :=
  if d.ans f [s, t] ≠ 0 then (d.ans f [s, t], d, f) else match gget d.F s with | none => (6, d, f) | some x => d.chg f (gput (gdel d.F s) t x)
def namesOf (F : List (Nm × Fi)) (q : Nm → Fi → Bool) : List Nm := (F.filter fun p => q p.1 p.2).map (·.1)
def Pd.loose (d : Pd) : List Nm := namesOf d.F fun _ x => x.2
end Go.Proofs.Ytkiojnledimihaa

/- A drive in memory: its nine cells, its map of files, its files' bytes, and its fuse; what stays while other memory turns. -/
namespace Go.Proofs.Ytkiojnledimihaa
open Go Go.RowKit

theorem hid {p : Prop} (h : p) : Hid p := h
def u8 (k : Nat) : Value := .int .u8 (k : Int)
abbrev sv (s : Nm) : Value := .string ⟨s.toArray⟩
structure Ent where
  v : Value
  b : List Nat
  l : Bool
def Ent.fi (e : Ent) : Fi := (e.b, e.l)
abbrev HD := Value × Bool
def RF (v : Value) : Option (DataW HD × List MemPlace) := match v with | .agg cs => (match cs.toList with | [.slice po n c, .bool l] => some (.held (.slice po n c, l), []) | _ => none) | _ => none
theorem RF_mk (po : Option Addr) (n c : Nat) (l : Bool) : RF (.agg #[.slice po n c, .bool l]) = some (.held (.slice po n c, l), []) := rfl
def encE (p : Nm × Ent) : Lit × DataW HD := (.string p.1, .held (p.2.v, p.2.l))
def mapD (L : List (Nm × Ent)) : DataW HD := .map (L.map encE)
theorem mapD_at (L : List (Nm × Ent)) (s : Nm) (z : DataW HD) : (mapD L).atKey (.string s) z = match gget L s with | some e => .held (e.v, e.l) | none => z := by
  unfold mapD DataW.atKey gget
  simp only [List.find?_map]
  have : ((fun p : Lit × DataW HD => p.1.sameKey (.string s)) ∘ encE) = fun p : Nm × Ent => p.1 == s := rfl
  rw [this]
  cases L.find? (fun p => p.1 == s) <;> rfl
theorem under9 : Try.prog.underlying 9 = some .string := by kernel_rfl
/-- Block b has these cells, none of them frozen. -/
def CAt (w : World) (b : Nat) (cs : Array Value) (t : TypeId) : Prop := w.heap[b]? = some (.cells cs t (0, 0))
theorem CAt.lt {w : World} {b : Nat} {cs : Array Value} {t : TypeId} (h : CAt w b cs t) : b < w.heap.size := (Array.getElem?_eq_some_iff.1 h).1
theorem CAt.cell {w : World} {b : Nat} {cs : Array Value} {t : TypeId} (h : CAt w b cs t) (i : Nat) : w.cell? ⟨b, i, none⟩ = cs[i]? := by
  simp [World.cell?, show w.heap[b]? = _ from h]
theorem CAt.free {w : World} {b : Nat} {cs : Array Value} {t : TypeId} (h : CAt w b cs t) (i : Nat) : w.frozen? ⟨b, i, none⟩ = false := by
  simp [World.frozen?, show w.heap[b]? = _ from h]
theorem CAt.set {w : World} {b : Nat} {cs : Array Value} {t : TypeId} (h : CAt w b cs t) (i : Nat) (v : Value) : CAt (w.setCell ⟨b, i, none⟩ v) b (cs.setIfInBounds i v) t := by
  unfold CAt at *
  simp [World.setCell, Array.getElem?_modify, h]
theorem CAt.keep {w w' : World} {b : Nat} {cs : Array Value} {t : TypeId} (h : CAt w b cs t) (e : w'.heap[b]? = w.heap[b]?) : CAt w' b cs t := e.trans h
theorem heap_setCell_ne (w : World) (a : Addr) (v : Value) (b : Nat) (h : b ≠ a.block) : (w.setCell a v).heap[b]? = w.heap[b]? := RowKit.Below.heap_setCell _ _ _ _ h
theorem setCell_size (w : World) (a : Addr) (v : Value) : (w.setCell a v).heap.size = w.heap.size := by
  unfold World.setCell; split <;> simp

abbrev ptr (p : Nat) : Value := .pointer (some ⟨p, 0, none⟩)
/-- Of what was there nothing has turned but blocks of S. -/
structure Only (S : Nat → Prop) (w w' : World) : Prop where
  os : w'.os = w.os
  tape : w'.tape = w.tape
  output : w'.output = w.output
  size : w.heap.size ≤ w'.heap.size
  block : ∀ k, k < w.heap.size → ¬ S k → w'.heap[k]? = w.heap[k]?
theorem Only.refl (S : Nat → Prop) (w : World) : Only S w w := ⟨rfl, rfl, rfl, Nat.le_refl _, fun _ _ _ => rfl⟩
theorem Only.trans {S : Nat → Prop} {a b c : World} (h : Only S a b) (k : Only S b c) : Only S a c :=
  ⟨k.os.trans h.os, k.tape.trans h.tape, k.output.trans h.output, Nat.le_trans h.size k.size, fun i hi hs => (k.block i (Nat.lt_of_lt_of_le hi h.size) hs).trans (h.block i hi hs)⟩
/-- .. where the later step may turn what is new since the first world. -/
theorem Only.then {S T : Nat → Prop} {a b c : World} (h : Only S a b) (k : Only T b c) (hT : ∀ i, i < a.heap.size → T i → S i) : Only S a c :=
  ⟨k.os.trans h.os, k.tape.trans h.tape, k.output.trans h.output, Nat.le_trans h.size k.size, fun i hi hs => (k.block i (Nat.lt_of_lt_of_le hi h.size) (fun ht => hs (hT i hi ht))).trans (h.block i hi hs)⟩
theorem Only.mono {S T : Nat → Prop} {a b : World} (h : Only S a b) (hS : ∀ i, S i → T i) : Only T a b := ⟨h.os, h.tape, h.output, h.size, fun i hi hs => h.block i hi fun k => hs (hS i k)⟩
theorem Only.of_below {S : Nat → Prop} {a b : World} (h : Below a.heap.size a b) : Only S a b := ⟨h.os, h.tape, h.output, h.size, fun i hi _ => h.block i hi⟩
theorem Only.below {S : Nat → Prop} {a b : World} {B : Nat} (h : Only S a b) (hB : B ≤ a.heap.size) (hS : ∀ i, S i → B ≤ i) : Below B a b :=
  ⟨h.os, h.tape, h.output, h.size, fun i hi => h.block i (by omega) fun k => by have := hS i k; omega⟩
theorem Only.of_grown {S : Nat → Prop} {a b : World} {r : Option Nat} (h : a.grownBy b r) (hr : ∀ k, r = some k → k < a.heap.size → S k) : Only S a b :=
  ⟨h.os, h.tape, h.output, h.size, fun i hi hs => h.block i hi fun e => hs (hr i e.symm hi)⟩
theorem Only.set {S : Nat → Prop} (w : World) (a : Addr) (v : Value) (h : S a.block) : Only S w (w.setCell a v) := by
  exact ⟨rfl, rfl, rfl, Nat.le_of_eq (setCell_size w a v).symm, fun k _ hk => heap_setCell_ne _ _ _ _ fun e => hk (e ▸ h)⟩
theorem ownsRow_keep {w w' : World} {B e n s : Nat} {v : Value} {xs : List Value} (h : w.ownsRow B e s v n xs) (hk : ∀ b, v.ownBlock = some b → w'.heap[b]? = w.heap[b]?) : w'.ownsRow B e s v n xs := by
  obtain ⟨h1, h2⟩ := h
  refine ⟨h1, ?_⟩
  rcases h2 with h2 | ⟨g, cap, cur, rfl, hB, hb, r⟩
  · exact Or.inl h2
  · exact Or.inr ⟨g, cap, cur, rfl, hB, (hk g rfl).trans hb, r⟩
end Go.Proofs.Ytkiojnledimihaa

/- Contracts of Name and answers of package drive. -/
namespace Go.Proofs.Ytkiojnledimihaa
open Go Go.RowKit

theorem getD_in {α : Type} (s : List α) (i : Nat) (z : α) (hi : i < s.length) : s.getD i z = s[i] := by simp [List.getD, hi]
/-- A list of texts lies at block b. -/
def TxtAt (w : World) (v : Value) (ns : List Nm) : Prop := (ns = [] ∧ v = .slice none 0 0) ∨ ∃ b c, v = .slice (some ⟨b, 0, none⟩) ns.length c ∧ ∀ i, i < ns.length → w.cell? ⟨b, i, none⟩ = some (sv (ns.getD i []))
end Go.Proofs.Ytkiojnledimihaa

/- Contract of find of package drive: a file, or what stands against it. -/
namespace Go.Proofs.Ytkiojnledimihaa
open Go Go.RowKit

theorem heap_alloc_old (w : World) (o : Obj) {b : Nat} (h : b < w.heap.size) : (w.alloc o).heap[b]? = w.heap[b]? := (MapKept.heap_alloc w o).2 b h
theorem size_al (w : World) (o : Obj) : (w.alloc o).heap.size = w.heap.size + 1 := by simp
theorem own_form {w : World} {B e sz n : Nat} {v : Value} {xs : List Value} (h : w.ownsRow B e sz v n xs) : ∃ po cc, v = .slice po n cc := by
  rcases h.2 with ⟨rfl, rfl⟩ | ⟨g, cap, cur, rfl, _⟩
  · exact ⟨_, _, rfl⟩
  · exact ⟨_, _, rfl⟩
theorem at_new (w : World) (o : Obj) : (w.alloc o).heap[w.heap.size]? = some o := (MapKept.heap_alloc w o).1
end Go.Proofs.Ytkiojnledimihaa

/- A region that draws its order, whose operations only read but for the last one, for which all others must have come up: one walk in the text's order serves every order. -/
namespace Go.Proofs.Ytkiojnledimihaa
open Go

section
variable {P : Program} {ops : Array Oper} {md : Region.Mode} {C : World → Prop}

/-- n more operations that only read come up, in whatever order; then the last one. -/
def wpAnyT (P : Program) (md : Region.Mode) (ops : Array Oper) (C : World → Prop) (last : Nat) (R : Act → Prop) : Nat → Array Bool → Act → Prop
  | 0, listed, a => Region.ready md ops listed = [last] ∧ Region.ready md ops (listed.setIfInBounds last true) = [] ∧ R a
  | n + 1, listed, a => Region.ready md ops listed ≠ [] ∧ last ∉ Region.ready md ops listed ∧ ∀ i ∈ Region.ready md ops listed, qOp P ops C i (wpAnyT P md ops C last R n (listed.setIfInBounds i true)) a

theorem wpAny_of_T {last : Nat} {R : Act → Prop} {Q : Exit → Act → World → Prop} (hR : ∀ a w, C w → R a → wpOp P ops Q last (fun a w => Q .normal a w) a w) : ∀ (n : Nat) (listed : Array Bool) (a : Act) (w : World), C w →
    wpAnyT P md ops C last R n listed a → wpAny P md ops Q (n + 1) listed a w
  | 0, listed, a, w, hw, h => by
    obtain ⟨h1, h2, h3⟩ := h
    refine ⟨fun h0 => (by rw [h1] at h0; cases h0), fun i hi => ?_⟩
    rw [h1, List.mem_singleton] at hi
    subst hi
    exact wpOp_mono (fun a' w' hq => ⟨h2, hq⟩) (hR a w hw h3)
  | n + 1, listed, a, w, hw, h => by
    obtain ⟨h1, _, h3⟩ := h
    exact ⟨fun h0 => absurd h0 h1, fun i hi => wpOp_of_qOp hw (fun a' w' hw' hh => wpAny_of_T hR n _ a' w' hw' hh) (h3 i hi)⟩

theorem wpAnyT_first {last : Nat} {R : Act → Prop} {i : Nat} {oi ol : Oper} {v : Value} (hi : ops[i]? = some oi) (hol : ops[last]? = some ol) (hwait : ∃ e ∈ ol.after, Region.binds md e = true ∧ e.on = i)
    (hsel : ∀ (j : Nat) (o : Oper) cs b, ops[j]? = some o → o.op ≠ .select cs b) : ∀ (n : Nat) (listed : Array Bool) (a : Act),
      (∀ j oj, ops[j]? = some oj → j ≠ i → listed.getD j true = false → (∀ e ∈ oj.after, Region.binds md e = true → e.on ≠ i) → oi.apart ops oj = true) →
      i ∈ Region.ready md ops listed → YieldsIn P ops C oi v a →
      wpAnyT P md ops C last R n (listed.setIfInBounds i true) (a.put oi.dst v) → wpAnyT P md ops C last R (n + 1) listed a := by
  have hnl : ∀ listed : Array Bool, i ∈ Region.ready md ops listed → last ∉ Region.ready md ops listed := fun listed hr hl => by
    obtain ⟨_, o, ho, hall⟩ := mem_ready.1 hl
    obtain ⟨e, he, hb, hon⟩ := hwait
    rw [hol] at ho
    cases ho
    have h1 := hall e he hb
    have h0 := (mem_ready.1 hr).1
    rw [hon] at h1
    rcases Nat.lt_or_ge i listed.size with h' | h'
    · simp [h'] at h0 h1; rw [h0] at h1; cases h1
    · simp [Array.getElem?_eq_none h'] at h1
  intro n
  induction n with
  | zero =>
    intro listed a _ hr hy H
    refine ⟨fun h => (by rw [h] at hr; cases hr), hnl _ hr, fun j hj => ?_⟩
    by_cases hji : j = i
    · subst hji; exact hy.qOp hi H
    · have h1 := ready_mono hj hji
      rw [H.1, List.mem_singleton] at h1
      subst h1
      exact absurd hj (hnl _ hr)
  | succ n ih =>
    intro listed a hfree hr hy H
    refine ⟨fun h => (by rw [h] at hr; cases hr), hnl _ hr, fun j hj => ?_⟩
    by_cases hji : j = i
    · subst hji; exact hy.qOp hi H
    · have h1 := H.2.2 j (ready_mono hj hji)
      obtain ⟨hjun, oj, hoj, hall⟩ := mem_ready.1 hj
      have hnot : ∀ e ∈ oj.after, Region.binds md e = true → e.on ≠ i := fun e he hb heq => by
        have h1 := hall e he hb
        have h0 := (mem_ready.1 hr).1
        rw [heq] at h1
        rcases Nat.lt_or_ge i listed.size with h' | h'
        · simp [h'] at h0 h1; rw [h0] at h1; cases h1
        · simp [Array.getElem?_eq_none h'] at h1
      have h2 := qOp_put hoj (hfree j oj hoj hji hjun hnot) (fun cs b => hsel i oi cs b hi) (fun cs b => hsel j oj cs b hoj) hy h1
      refine qOp_mono (fun a' h3 => ih (listed.setIfInBounds j true) a' (fun k ok hk hki hun hno => ?_) (ready_mono hr (Ne.symm hji)) h3.1 ?_) h2
      · refine hfree k ok hk hki ?_ hno
        by_cases hjk : j = k
        · subst hjk; exact hjun
        · rw [getD_set_ne true hjk] at hun; exact hun
      · rw [Array.setIfInBounds_comm _ _ hji]
        exact h3.2

/-- Held by reckoning: the operations up to the last may come up in the text's order, each apart from what does not wait for it; the last waits for all. -/
def lexT (md : Region.Mode) (ops : Array Oper) (last : Nat) : Nat → Nat → Array Bool → Bool
  | 0, _, listed => decide (Region.ready md ops listed = [last]) && (Region.ready md ops (listed.setIfInBounds last true)).isEmpty
  | n + 1, k, listed => (Region.ready md ops listed).contains k && Region.free md ops listed k && (match ops[last]? with | some ol => ol.after.any (fun e => Region.binds md e && e.on == k) | none => false) && lexT md ops last n (k + 1) (listed.setIfInBounds k true)

theorem wpAnyT_lex {last : Nat} {R : Act → Prop} (hs : Region.noSelect ops = true) : ∀ (l : List Oper) (k : Nat) (listed : Array Bool) (a : Act), (∀ j, j < l.length → l[j]? = ops[k + j]?) →
    lexT md ops last l.length k listed = true → wpQuiet P ops C R l a → wpAnyT P md ops C last R l.length listed a
  | [], _, _, _, _, hB, h => by
    simp only [List.length_nil, lexT, Bool.and_eq_true, decide_eq_true_eq, List.isEmpty_iff] at hB
    exact ⟨hB.1, hB.2, h⟩
  | o :: l, k, listed, a, hl, hB, h => by
    have h0 : ops[k]? = some o := by simpa using (hl 0 (by simp)).symm
    simp only [List.length_cons, lexT, Bool.and_eq_true] at hB
    obtain ⟨⟨⟨hr, hf⟩, hw⟩, hB'⟩ := hB
    cases hol : ops[last]? with
    | none => simp [hol] at hw
    | some ol =>
      have hwait : ∃ e ∈ ol.after, Region.binds md e = true ∧ e.on = k := by
        simp only [hol, Array.any_eq_true', Bool.and_eq_true, beq_iff_eq] at hw
        obtain ⟨e, he, h1, h2⟩ := hw
        exact ⟨e, he, h1, h2⟩
      have hst : qOp P ops C k (wpQuiet P ops C R l) a := by unfold qOp; simp only [h0]; exact h
      obtain ⟨v, hy, hK⟩ := yieldsIn_of_qOp h0 hst
      exact wpAnyT_first h0 hol hwait (Region.noSelect_spec hs) l.length listed a (Region.free_spec h0 hf) (by simpa using hr) hy
        (wpAnyT_lex hs l (k + 1) _ _ (fun j hj => by have := hl (j + 1) (by simp; omega); simpa [Nat.add_assoc, Nat.add_comm 1 j] using this) hB' hK)

def lastB (ops : Array Oper) : Bool := Region.noSelect ops && lexT .any ops (ops.size - 1) (ops.size - 1) 0 (Array.replicate ops.size false)

/-- The region's law: the quiet walk of all but the last, then the last one, as in a plain region. -/
theorem wp_region_last {id : Nat} {Q : Exit → Act → World → Prop} {a : Act} {w : World} {l : List Oper} {o : Oper} (hm : P.follows .mixedOrders = true) (hB : lastB (l ++ [o]).toArray = true)
    (h : wpQuiet P (l ++ [o]).toArray (fun w' => ∃ n, w' = w.drewN n) (fun a' => ∀ n, wpList P (l ++ [o]).toArray Q [o] a' (w.drewN n)) l a) : (Code.region id (l ++ [o]).toArray true).wp P Q a w := by
  simp only [lastB, Bool.and_eq_true] at hB
  have hsz : (l ++ [o]).toArray.size = l.length + 1 := by simp
  rw [hsz] at hB
  refine wp_region_any hm ?_
  rw [hsz]
  refine wpAny_of_T (C := fun w' => ∃ n, w' = w.drewN n) (last := l.length) (R := fun a' => ∀ n, wpList P (l ++ [o]).toArray Q [o] a' (w.drewN n)) ?_ l.length _ _ _ ⟨1, rfl⟩ ?_
  · rintro a' w' ⟨n, rfl⟩ hr
    have h1 := hr n
    unfold wpOp
    rw [show (l ++ [o]).toArray[l.length]? = some o by simp]
    exact h1
  · exact wpAnyT_lex hB.1 l 0 _ a (fun j hj => by simp [List.getElem?_append_left hj]) (by simpa using hB.2) h
/-- The same, the list cut by the kernel. -/
theorem wp_region_last_lit {id : Nat} {Q : Exit → Act → World → Prop} {a : Act} {w : World} {x : Oper} {r : List Oper} (hm : P.follows .mixedOrders = true) (hB : lastB (x :: r).toArray = true)
    (h : wpQuiet P (x :: r).toArray (fun w' => ∃ n, w' = w.drewN n) (fun a' => ∀ n, wpList P (x :: r).toArray Q [(x :: r).getLast (List.cons_ne_nil x r)] a' (w.drewN n)) (x :: r).dropLast a) : (Code.region id (x :: r).toArray true).wp P Q a w := by
  have e : (x :: r) = (x :: r).dropLast ++ [(x :: r).getLast (List.cons_ne_nil x r)] := (List.dropLast_concat_getLast (List.cons_ne_nil x r)).symm
  have key : ∀ k : List Oper, k = (x :: r).dropLast ++ [(x :: r).getLast (List.cons_ne_nil x r)] → lastB k.toArray = true → wpQuiet P k.toArray (fun w' => ∃ n, w' = w.drewN n) (fun a' => ∀ n, wpList P k.toArray Q [(x :: r).getLast (List.cons_ne_nil x r)] a' (w.drewN n)) (x :: r).dropLast a → (Code.region id k.toArray true).wp P Q a w := by
    intro k hk hB' h'
    subst hk
    exact wp_region_last hm hB' h'
  exact key (x :: r) e hB h
end
end Go.Proofs.Ytkiojnledimihaa

/- Regions that draw their order of which the last operations write. -/
namespace Go.Proofs.Ytkiojnledimihaa
open Go Go.RowKit

section
variable {P : Program} {ops : Array Oper} {md : Region.Mode} {C : World → Prop}

/-- What is listed has all listed for which it waits. -/
def Cl (md : Region.Mode) (ops : Array Oper) (listed : Array Bool) : Prop := ∀ j o, ops[j]? = some o → listed.getD j false = true → ∀ e ∈ o.after, Region.binds md e = true → listed.getD e.on false = true
theorem Cl.set {listed : Array Bool} {i : Nat} (h : Cl md ops listed) (hi : i ∈ Region.ready md ops listed) : Cl md ops (listed.setIfInBounds i true) := by
  intro j o ho hj e he hb
  obtain ⟨hun, oi, hoi, hall⟩ := mem_ready.1 hi
  by_cases hji : j = i
  · subst hji
    rw [ho] at hoi; cases hoi
    exact getD_set_true (hall e he hb)
  · rw [getD_set_ne false (Ne.symm hji)] at hj
    exact getD_set_true (h j o ho hj e he hb)
end
section
variable {P : Program} {C : World → Prop}
end
end Go.Proofs.Ytkiojnledimihaa

/- Contract of take of package drive: a file is let go of. -/
namespace Go.Proofs.Ytkiojnledimihaa
open Go Go.RowKit

section
variable {w : World} {S : Nat → Prop} {p m : Nat} {fu : Option Nat} {d : Pd} {L : List (Nm × Ent)}
end
theorem Only.drewN (S : Nat → Prop) (w : World) (n : Nat) : Only S w (w.drewN n) := ⟨rfl, rfl, rfl, Nat.le_refl _, fun _ _ _ => rfl⟩

end Go.Proofs.Ytkiojnledimihaa

/- Contract of put of package drive: a file is laid, in the place of what had its name. -/
namespace Go.Proofs.Ytkiojnledimihaa
open Go Go.RowKit

theorem below_on {w0 : World} (w w' : World) (h : Below w0.heap.size w0 w) (hb : Below w.heap.size w w') : Below w0.heap.size w0 w' :=
  ⟨hb.os.trans h.os, hb.tape.trans h.tape, hb.output.trans h.output, Nat.le_trans h.size hb.size, fun k hk => (hb.block k (Nat.lt_of_lt_of_le hk h.size)).trans (h.block k hk)⟩
end Go.Proofs.Ytkiojnledimihaa

/- Contract of change of package drive, for each of the four closures that it is handed. -/
namespace Go.Proofs.Ytkiojnledimihaa
open Go Go.RowKit

/-- S2: S, and what is new since w. -/
def Grows (w : World) (S S2 : Nat → Prop) : Prop := (∀ b, S b → S2 b) ∧ ∀ b, S2 b → S b ∨ w.heap.size ≤ b
theorem Grows.refl (w : World) (S : Nat → Prop) : Grows w S S := ⟨fun _ h => h, fun _ h => Or.inl h⟩
theorem Grows.on {w w1 : World} {S S2 : Nat → Prop} (h : Grows w1 S S2) (hs : w.heap.size ≤ w1.heap.size) : Grows w S S2 :=
  ⟨h.1, fun b hb => (h.2 b hb).imp id fun h => Nat.le_trans hs h⟩

end Go.Proofs.Ytkiojnledimihaa

/- Contracts of Delete, Sync and Rename of package drive. -/
namespace Go.Proofs.Ytkiojnledimihaa
open Go Go.RowKit

section
variable {d : Pd} {f : Fs} {s t : Nm}
end
section
variable {w : World} {S : Nat → Prop} {p m : Nat} {fu : Option Nat} {d : Pd} {L : List (Nm × Ent)}
theorem CAt.old {w : World} {b : Nat} {cs : Array Value} {t : TypeId} (h : CAt w b cs t) (o : Obj) : CAt (w.alloc o) b cs t := h.keep (heap_alloc_old w o h.lt)
theorem CAt.made (w : World) (cs : Array Value) (t : TypeId) : CAt (w.alloc (.cells cs t)) w.heap.size cs t := at_new w _
theorem CAt.below {w w' : World} {b : Nat} {cs : Array Value} {t : TypeId} (h : CAt w b cs t) (hb : Below w.heap.size w w') : CAt w' b cs t := h.keep (hb.block b h.lt)


end
end Go.Proofs.Ytkiojnledimihaa

/- Contract of Write of package drive. -/
namespace Go.Proofs.Ytkiojnledimihaa
open Go Go.RowKit

/-- Bytes that a slice tells. -/
def BAt (w : World) (po : Option Addr) (bs : List Nat) : Prop := (po = none ∧ bs = []) ∨ ∃ a, po = some a ∧ ∀ i, i < bs.length → w.cell? (a.add i) = some (.int .u8 ((bs.getD i 0 : Nat) : Int))
theorem BAt.below {w w' : World} {po : Option Addr} {bs : List Nat} (h : BAt w po bs) (hk : ∀ a, w.cell? a ≠ none → w'.cell? a = w.cell? a) : BAt w' po bs := by
  rcases h with h | ⟨a, rfl, h⟩
  · exact Or.inl h
  · exact Or.inr ⟨a, rfl, fun i hi => (hk _ (by rw [h i hi]; simp)).trans (h i hi)⟩
theorem cell_lt' {w : World} {a : Addr} (h : w.cell? a ≠ none) : a.block < w.heap.size := by
  rcases Nat.lt_or_ge a.block w.heap.size with h1 | h1
  · exact h1
  · exact absurd (by simp [World.cell?, Array.getElem?_eq_none h1]) h
theorem BAt.keepB {w w' : World} {po : Option Addr} {bs : List Nat} (h : BAt w po bs) (hb : Below w.heap.size w w') : BAt w' po bs :=
  h.below fun a ha => World.cell?_of_block (hb.block a.block (cell_lt' ha))
theorem own_ge {w : World} {B e sz n : Nat} {v : Value} {xs : List Value} (h : w.ownsRow B e sz v n xs) : ∀ b, v.ownBlock = some b → B ≤ b ∧ b < w.heap.size := fun b hb => World.ownsRow.lt h b hb
theorem own_base {w : World} {B B2 e sz n : Nat} {v : Value} {xs : List Value} (h : w.ownsRow B e sz v n xs) (hB : B2 ≤ B) : w.ownsRow B2 e sz v n xs := by
  refine ⟨h.1, ?_⟩
  rcases h.2 with h2 | ⟨g, cap, cur, rfl, hb, r⟩
  · exact Or.inl h2
  · exact Or.inr ⟨g, cap, cur, rfl, Nat.le_trans hB hb, r⟩
section
variable {w : World} {S : Nat → Prop} {p m : Nat} {fu : Option Nat} {d : Pd} {L : List (Nm × Ent)}
theorem below_drewN (w : World) (n : Nat) : Below w.heap.size w (w.drewN n) := ⟨rfl, rfl, rfl, Nat.le_refl _, fun _ _ => rfl⟩
end
end Go.Proofs.Ytkiojnledimihaa

/- Contracts of New, Read, Up, Ops, Used, Offline and Full of package drive. -/
namespace Go.Proofs.Ytkiojnledimihaa
open Go Go.RowKit

section
variable {w : World} {S : Nat → Prop} {p m : Nat} {fu : Option Nat} {d : Pd} {L : List (Nm × Ent)}
def Pd.up (d : Pd) (f : Fs) : Bool := !d.isOut f && !d.offl
end

end Go.Proofs.Ytkiojnledimihaa

/- Contract of names of package drive: which files are wanted, by rising names. -/
namespace Go.Proofs.Ytkiojnledimihaa
open Go Go.RowKit

/-- Texts that lie in a row of their own. -/
def TxtL (B : Nat) (w : World) (v : Value) (ns : List Nm) : Prop := w.ownsRow B 9 1 v ns.length (ns.map sv)
theorem Try.info9 : (Try.prog.info? 9).map (fun i => (i.zero, i.size, i.bytes)) = some (some (.string ⟨#[]⟩), 1, 16) := by kernel_rfl
theorem TxtL.push {B : Nat} {w : World} {v : Value} {ns : List Nm} (h : TxtL B w v ns) (x : Nm) (hn : ns.length ≤ 1000000000000) (hB : B ≤ w.heap.size) :
    ∃ v' w', (Builtin.append_ #[30, 30] 30 #[v, .slice (some ⟨w.heap.size, 0, none⟩) 1 1]).run Try.prog (w.alloc (.cells #[sv x] 9)) = .ok v' w' ∧ TxtL B w' v' (ns ++ [x]) ∧
      (w.alloc (.cells #[sv x] 9)).grownBy w' v.ownBlock ∧ (v'.ownBlock = v.ownBlock ∨ v'.ownBlock = some (w.heap.size + 1)) := by
  obtain ⟨i0, hi0, hz0, hz1, hz2⟩ := info_parts Try.info9
  have h2 : (w.alloc (.cells #[sv x] 9)).ownsRow B 9 1 v ns.length (ns.map sv) := h.kept (World.grownBy_alloc w _ none) (by
    cases hv : v.ownBlock
    · exact Or.inl rfl
    · exact Or.inr (by simp))
  have hc : CAt (w.alloc (.cells #[sv x] 9)) w.heap.size #[sv x] 9 := CAt.made w _ _
  obtain ⟨v', w', hr, h3, h4, _, h5⟩ := run_append_own_at (P := Try.prog) (w.alloc (.cells #[sv x] 9)) B 30 30 9 i0 (.string ⟨#[]⟩) 1 16 Try.underlying30 hi0 hz0 hz1 hz2 rfl (by decide) v ns.length (ns.map sv) h2 ⟨w.heap.size, 0, none⟩ 1 1 [sv x] rfl (fun j u hj => by
      have : j = 0 := by rcases j with _ | j <;> simp at hj ⊢
      subst this
      simp at hj; subst hj
      have hadd : (⟨w.heap.size, 0, none⟩ : Addr).add 0 = ⟨w.heap.size, 0, none⟩ := by unfold Addr.add; split <;> simp_all
      rw [hadd, hc.cell]; rfl) (by intro u hu; simp at hu; subst hu; rfl) (by unfold maxLen; omega) (by omega) (by rw [size_al]; omega)
  refine ⟨v', w', hr, ?_, h4, by rw [size_al] at h5; exact h5⟩
  unfold TxtL; simpa using h3
theorem wpList_append_run {P : Program} {w w' : World} {ops : Array Oper} {rest : List Oper} {o : Oper} {a : Act} {Q : Exit → Act → World → Prop} (s x : Operand) (t : TypeId)
    (ho : o.op = .call { callee := .builtin .append, args := #[s, x], argTypes := #[t, t] }) (hw : Region.wanted o (yielded ops a.tmps) = true)
    (v xv v' : Value) (hs : a.eval s = v) (hx : a.eval x = xv) (hr : (Builtin.append_ #[t, t] o.type #[v, xv]).run P w = .ok v' w') (h : wpList P ops Q rest (a.put o.dst v') w') : wpList P ops Q (o :: rest) a w := by
  refine BigFrame.wpList_want hw fun K hK => ?_
  unfold Oper.wp execOp
  simp only [ho, resolve, invoke, builtin, Sem.run_bind, Sem.run_pure, Result.andThen_ok, List.map_toArray, List.map_cons, List.map_nil, hs, hx, hr]
  exact hK _ _ h
/-- The names of those that are wanted, met so far. -/
def Coll (L : List (Nm × Ent)) (q : Nm → Fi → Bool) (left : Lit → Bool) (ss : List Nm) : Prop := ss.Nodup ∧ ∀ x, x ∈ ss ↔ ∃ e, gget L x = some e ∧ left (.string x) = false ∧ q x e.fi = true
section
variable {L : List (Nm × Ent)} {q : Nm → Fi → Bool} {left : Lit → Bool} {ss : List Nm}
theorem Coll.take (h : Coll L q left ss) {x : Nm} {e : Ent} (hl : left (.string x) = true) (hg : gget L x = some e) (hq : q x e.fi = true) : Coll L q (fun z => left z && !z.sameKey (.string x)) (ss ++ [x]) := by
  have hnew : x ∉ ss := fun hx => by obtain ⟨_, _, h2, _⟩ := (h.2 x).1 hx; rw [hl] at h2; cases h2
  refine ⟨List.nodup_append.2 ⟨h.1, by simp, fun a ha b hb => by simp at hb; subst hb; exact fun e => hnew (e ▸ ha)⟩, fun y => ?_⟩
  by_cases hy : y = x
  · subst hy; simp [hg, Lit.sameKey, hq]
  · simp [h.2 y, hy, Lit.sameKey]
theorem Coll.len (h : Coll L q left ss) : ss.length ≤ L.length := by
  have h1 : ss.Nodup := h.1
  have : ss ⊆ L.map (·.1) := fun x hx => by
    obtain ⟨e, h1, _⟩ := (h.2 x).1 hx
    exact List.mem_map.2 ⟨(x, e), gget_mem h1, rfl⟩
  have := h1.length_le_of_subset this
  simpa using this
end
end Go.Proofs.Ytkiojnledimihaa

/- Contracts of names, List and Loose of package drive, and of the closures that names is handed. -/
namespace Go.Proofs.Ytkiojnledimihaa
open Go Go.RowKit
open Go.Proofs (encStr)

theorem TxtL.keep {B : Nat} {w w' : World} {v : Value} {ns : List Nm} (h : TxtL B w v ns) (hk : ∀ b, v.ownBlock = some b → w'.heap[b]? = w.heap[b]?) : TxtL B w' v ns := ownsRow_keep h hk
theorem TxtL.below {B : Nat} {w w' : World} {v : Value} {ns : List Nm} (h : TxtL B w v ns) (hb : Below w.heap.size w w') : TxtL B w' v ns := h.keep fun b hb' => hb.block b (own_ge h b hb').2
structure FV where
  po : Option Addr
  n : Nat
  c : Nat
  l : Bool
def mkV (c : FV) : Value := .agg #[.slice c.po c.n c.c, .bool c.l]
theorem met {L : List (Nm × Ent)} {x : Nm} {c : FV} {kl : Lit} {yd : DataW HD} {yp : List MemPlace} (hk : keyOf Try.prog 9 (sv x) = some kl) (hv : RF (mkV c) = some (yd, yp)) (hat : ∀ zd, (mapD L).atKey kl zd = yd) :
    kl = .string x ∧ ∃ e, gget L x = some e ∧ e.v = .slice c.po c.n c.c ∧ e.l = c.l := by
  obtain ⟨x', e1, rfl, _⟩ := Maps.keyOf_str under9 hk
  obtain rfl : x = x' := encStr_inj e1
  refine ⟨rfl, ?_⟩
  have hy : yd = .held (.slice c.po c.n c.c, c.l) := by
    have := RF_mk c.po c.n c.c c.l
    unfold mkV at hv; rw [this] at hv; exact (congrArg Prod.fst (Option.some.inj hv)).symm
  subst hy
  cases hg : gget L x with
  | none => have := hat .nil; rw [mapD_at, hg] at this; cases this
  | some e =>
    have := hat .nil
    rw [mapD_at, hg] at this
    simp at this
    exact ⟨e, rfl, this.1, this.2⟩
theorem below_on_grown {w w1 w2 : World} {r : Option Nat} (h : Below w.heap.size w w1) (hg : w1.grownBy w2 r) (hr : ∀ b, r = some b → w.heap.size ≤ b) : Below w.heap.size w w2 :=
  ⟨hg.os.trans h.os, hg.tape.trans h.tape, hg.output.trans h.output, Nat.le_trans h.size hg.size, fun k hk => (hg.block k (Nat.lt_of_lt_of_le hk h.size) (fun e => by have := hr k e.symm; omega)).trans (h.block k hk)⟩
theorem grown_of_below {w w' : World} (h : Below w.heap.size w w') : w.grownBy w' none := ⟨h.os, h.tape, h.output, h.size, fun k hk _ => h.block k hk⟩

end Go.Proofs.Ytkiojnledimihaa

/- Contracts of Loose and List of package drive; texts held against one another. -/
namespace Go.Proofs.Ytkiojnledimihaa
open Go Go.RowKit

section
variable {w : World} {S : Nat → Prop} {p m : Nat} {fu : Option Nat} {d : Pd} {L : List (Nm × Ent)}
def Pd.list (d : Pd) (f : Fs) (pre : Nm) : List Nm := if d.ans f [] = 0 then namesOf d.F (fun x _ => pre.isPrefixOf x) else []
theorem TxtL.base {B B2 : Nat} {w : World} {v : Value} {ns : List Nm} (h : TxtL B w v ns) (hB : B2 ≤ B) : TxtL B2 w v ns := own_base h hB
end
theorem TxtL.at {B : Nat} {w : World} {v : Value} {ns : List Nm} (h : TxtL B w v ns) : TxtAt w v ns := by
  rcases h.2 with ⟨rfl, h0⟩ | ⟨g, cap, cur, rfl, _, hg, h1, _, h3, h4⟩
  · exact Or.inl ⟨List.eq_nil_of_length_eq_zero h0, rfl⟩
  · refine Or.inr ⟨g, cap, rfl, fun i hi => ?_⟩
    have hc : CAt w g cur 9 := hg
    rw [hc.cell]
    have := congrArg (fun l => l[i]?) h4
    simp [hi] at this
    rw [this, getD_in _ _ _ hi]
theorem TxtAt.below {w w' : World} {v : Value} {ns : List Nm} (h : TxtAt w v ns) (hb : Below w.heap.size w w') : TxtAt w' v ns := by
  rcases h with h | ⟨b, c, rfl, h⟩
  · exact Or.inl h
  · exact Or.inr ⟨b, c, rfl, fun i hi => (World.cell?_of_block (hb.block b (cell_lt' (a := ⟨b, i, none⟩) (by rw [h i hi]; simp)))).trans (h i hi)⟩
set_option maxHeartbeats 400000 in
theorem sameTexts_true (a b : Value) (ns : List Nm) (w : World) (hn : ns.length ≤ 1000000000000) (ha : TxtAt w a ns) (hb : TxtAt w b ns) :
    Calls Try.prog 17 #[a, b] w fun e w' => e = .returned (.bool true) ∧ ∃ k, w' = w.drewN k := by
  by_cases h0 : ns = []
  · subst h0
    have fa : ∃ pa ca, a = .slice pa 0 ca := by rcases ha with ⟨_, rfl⟩ | ⟨b, c, rfl, _⟩ <;> exact ⟨_, _, rfl⟩
    have fb : ∃ pa ca, b = .slice pa 0 ca := by rcases hb with ⟨_, rfl⟩ | ⟨b, c, rfl, _⟩ <;> exact ⟨_, _, rfl⟩
    obtain ⟨pa, ca, rfl⟩ := fa
    obtain ⟨pb, cb, rfl⟩ := fb
    clear ha hb
    go_enter Try.func17, Try.ntmps17
    go_wp2
    refine wp_loop_rounds 1 ?_
    rw [rounds_succ]
    go_wp2
    go_ret
    exact ⟨rfl, 0, rfl⟩
  · rcases ha with ⟨h, _⟩ | ⟨ga, ca, rfl, ha⟩
    · exact absurd h h0
    rcases hb with ⟨h, _⟩ | ⟨gb, cb, rfl, hb⟩
    · exact absurd h h0
    clear h0
    have HP := hid ha
    have HQ := hid hb
    clear ha hb
    go_enter Try.func17, Try.ntmps17
    go_wp2
    go_loopw [5] (fun v wr => ∃ i : Nat, i ≤ ns.length ∧ v = .int .i64 (i : Int) ∧ ∃ k, wr = w.drewN k) (fun v _ => (ns.length - intOf v).toNat)
    case atStart => exact ⟨0, by omega, rfl, 0, rfl⟩
    case round =>
      obtain ⟨i, hi, rfl, hw⟩ := hrel
      have HW := hid hw
      have hcell : ∀ a : Addr, wr.cell? a = w.cell? a := by obtain ⟨k, rfl⟩ := hw; intro a; rfl
      have HCE := hid hcell
      clear hw hcell
      by_cases hlt : i < ns.length
      · have c1 := (HCE.out _).trans (HP.out i hlt)
        have c2 := (HCE.out _).trans (HQ.out i hlt)
        have hlt' : (i : Int) < (ns.length : Int) := by omega
        unfold sv at c1 c2
        generalize (⟨(ns.getD i []).toArray⟩ : ByteArray) = bs at c1 c2
        go_wp2
        go_quiet (fail)
        go_wp2
        go_roundw
        case rel =>
          refine ⟨i + 1, by omega, by go_num, ?_⟩
          obtain ⟨k, rfl⟩ := HW.out
          first | exact ⟨_, rfl⟩ | exact ⟨k + nq, by simp [World.drewN, Nat.add_assoc]⟩
        case measure => simp [intOf]; omega
      · have hlt' : ¬ (i : Int) < (ns.length : Int) := by omega
        go_wp2
        go_ret
        exact ⟨rfl, HW.out⟩

end Go.Proofs.Ytkiojnledimihaa

/- Contracts of Offline, Full and Crash of package drive. -/
namespace Go.Proofs.Ytkiojnledimihaa
open Go Go.RowKit

section
variable {w : World} {S : Nat → Prop} {p m : Nat} {fu : Option Nat} {d : Pd} {L : List (Nm × Ent)}
/-- Bools that a slice tells, whose memory is not in S. -/
def KAt (w : World) (S : Nat → Prop) (po : Option Addr) (ks : List Bool) : Prop := ks = [] ∨ ∃ b o, po = some ⟨b, o, none⟩ ∧ ¬ S b ∧ ∀ i, i < ks.length → w.cell? ⟨b, o + i, none⟩ = some (.bool (ks.getD i false))
theorem KAt.only {w' : World} {T : Nat → Prop} {po : Option Addr} {ks : List Bool} (h : KAt w S po ks) (ho : Only T w w') (hT : ∀ b, b < w.heap.size → T b → S b) : KAt w' S po ks := by
  rcases h with h | ⟨b, o, rfl, hn, h⟩
  · exact Or.inl h
  · refine Or.inr ⟨b, o, rfl, hn, fun i hi => ?_⟩
    have hc := h i hi
    have hl : b < w.heap.size := cell_lt' (a := ⟨b, o + i, none⟩) (by rw [hc]; simp)
    exact (World.cell?_of_block (ho.block b hl (fun ht => hn (hT _ hl ht)))).trans hc
end
end Go.Proofs.Ytkiojnledimihaa

/- The statements' acts; contracts of Pick and step. -/
namespace Go.Proofs.Ytkiojnledimihaa
open Go Go.RowKit

/-- An act, as it stands in memory. -/
structure AV where
  kind : Int
  which : Int
  at_ : Int
  A : Nm
  C : Nm
  pb : Option Addr
  cb : Nat
  bs : List Nat
  is_ : Bool
  mask : Int
  pk : Option Addr
  ck : Nat
  ks : List Bool
structure AV.ok (w : World) (x : AV) : Prop where
  hA : x.A.length ≤ maxLen
  hC : x.C.length ≤ maxLen
  bB : BAt w x.pb x.bs
  b8 : ∀ y ∈ x.bs, y < 256
  bK : KAt w (fun _ => False) x.pk x.ks
  k1 : -9223372036854775808 ≤ x.kind ∧ x.kind ≤ 9223372036854775807
  k2 : -9223372036854775808 ≤ x.which ∧ x.which ≤ 9223372036854775807
  k3 : -9223372036854775808 ≤ x.at_ ∧ x.at_ ≤ 9223372036854775807
  k4 : 0 ≤ x.mask ∧ x.mask ≤ 255
theorem AV.ok.below {w w' : World} {x : AV} (h : x.ok w) (hb : Below w.heap.size w w') : x.ok w' :=
  { h with bB := h.bB.keepB hb, bK := h.bK.only (T := fun _ => False) ⟨hb.os, hb.tape, hb.output, hb.size, fun k hk _ => hb.block k hk⟩ (fun _ _ h => h) }
section
variable {w : World} {S : Nat → Prop} {p m : Nat} {fu : Option Nat} {d : Pd} {L : List (Nm × Ent)}
end

end Go.Proofs.Ytkiojnledimihaa

/- Contracts of SameBytes, in and names of the statements; acts and bools that came in. -/
namespace Go.Proofs.Ytkiojnledimihaa
open Go Go.RowKit

/-- A row of bytes of the statements' own. -/
def Row8 (w : World) (v : Value) (bs : List Nat) : Prop := ∃ B, w.ownsRow B 5 1 v bs.length (bs.map u8)
theorem sv_eq (x y : Nm) : (⟨x.toArray⟩ : ByteArray) = ⟨y.toArray⟩ ↔ x = y :=
  ⟨fun e => by have := congrArg (fun b : ByteArray => b.data.toList) e; simpa using this, fun e => by rw [e]⟩
theorem ba_ne {X Y : ByteArray} (h : X ≠ Y) : (X.toList == Y.toList) = false := by
  cases hb : (X.toList == Y.toList)
  · rfl
  · exfalso
    have h2 := eq_of_beq hb
    rw [ByteArray.toList_eq, ByteArray.toList_eq] at h2
    exact h (WideShapes.bytes_inj h2)
section
variable {w : World} {S : Nat → Prop} {p m : Nat} {fu : Option Nat} {d : Pd} {L : List (Nm × Ent)}
end
end Go.Proofs.Ytkiojnledimihaa

/- Acts and bools that came in. -/
namespace Go.Proofs.Ytkiojnledimihaa
open Go Go.RowKit

theorem add_zero' (a : Addr) : a.add 0 = a := by simp [Addr.add]
theorem plain_at (a : Addr) (w : World) (h : w.cell? a ≠ none) : ∃ b o, a = ⟨b, o, none⟩ := by
  obtain ⟨b, o, sp⟩ := a
  cases sp with
  | none => exact ⟨b, o, rfl⟩
  | some s =>
    exfalso; apply h
    unfold World.cell?
    split <;> simp
theorem add_none (b o n : Nat) : (⟨b, o, none⟩ : Addr).add n = ⟨b, o + n, none⟩ := by unfold Addr.add; split <;> simp_all
section
variable {H : Type} {enc : TypeId × Value → H} {w : World} {held : Bool} {fuel : Nat}
end

end Go.Proofs.Ytkiojnledimihaa

/- What a crash leaves, file by file; acts and what they leave of a drive. -/
namespace Go.Proofs.Ytkiojnledimihaa
open Go Go.RowKit

/-- A drive that answers: neither out nor offline, its files no more than its changes. -/
structure Pd.calm (d : Pd) (n : Nat) : Prop where
  out : d.out = false
  offl : d.offl = false
  len : d.F.length ≤ d.ops
  ops : d.ops ≤ n
theorem Pd.calm.more {d : Pd} {n : Nat} (h : d.calm n) : d.calm (n + 1) := ⟨h.out, h.offl, h.len, by have := h.ops; omega⟩
end Go.Proofs.Ytkiojnledimihaa

/- Drives beside one another, some of them with one fuse together. -/
namespace Go.Proofs.Ytkiojnledimihaa
open Go Go.RowKit

structure Dv where
  p : Nat
  S : Nat → Prop
  fu : Option Nat
  d : Pd
section
variable {w wr : World} {k : Nat} {D : Nat → Dv} {Z : Nat → Nat × Bool}
end

end Go.Proofs.Ytkiojnledimihaa

/- Two drives beside one another, each with a fuse, with one together, or with none. -/
namespace Go.Proofs.Ytkiojnledimihaa
open Go Go.RowKit

structure Dl where
  p : Nat
  fu : Option Nat
  d : Pd
section
variable {w wr : World} {a b : Dl} {Z : Nat → Nat × Bool}
end

end Go.Proofs.Ytkiojnledimihaa
