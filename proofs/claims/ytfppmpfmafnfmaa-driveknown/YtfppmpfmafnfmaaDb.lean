/- A drive in memory: its nine cells, its map of files, its files' bytes, and its fuse; what stays while other memory turns. -/
import Derived.Test.YtfppmpfmafnfmaaDa
import Derived.WalkKit
import Derived.WalkSpells
import Derived.WalkLawsBesides
import Derived.Maps.OwnSet
import Derived.Laws.Rows
import Derived.Laws.CopyOwn
import Derived.Deep.RegionHeld3
import Derived.Deep.QuietTactic
namespace Go.Proofs.Ytfppmpfmafnfmaa
open Go Go.RowKit

theorem hid {p : Prop} (h : p) : Hid p := h
def u8 (k : Nat) : Value := .int .u8 (k : Int)
abbrev sv (s : Nm) : Value := .string ⟨s.toArray⟩
structure Ent where
  v : Value
  b : List Nat
  l : Bool
def Ent.fi (e : Ent) : Fi := (e.b, e.l)
abbrev HD := Value × Bool
def RF (v : Value) : Option (DataW HD × List MemPlace) := match v with | .agg cs => (match cs.toList with | [.slice po n c, .bool l] => some (.held (.slice po n c, l), []) | _ => none) | _ => none
theorem RF_mk (po : Option Addr) (n c : Nat) (l : Bool) : RF (.agg #[.slice po n c, .bool l]) = some (.held (.slice po n c, l), []) := rfl
theorem RF_inv {v : Value} {z : DataW HD × List MemPlace} (h : RF v = some z) : ∃ po n c l, v = .agg #[.slice po n c, .bool l] ∧ z = (.held (.slice po n c, l), []) := by
  unfold RF at h
  split at h
  · rename_i cs
    split at h
    · rename_i po n c l e
      cases h
      exact ⟨po, n, c, l, by rw [← e], rfl⟩
    · cases h
  · cases h
def encE (p : Nm × Ent) : Lit × DataW HD := (.string p.1, .held (p.2.v, p.2.l))
def mapD (L : List (Nm × Ent)) : DataW HD := .map (L.map encE)
theorem encE_ins (x : Nm × Ent) : ∀ L : List (Nm × Ent), DataW.insert (encE x) (L.map encE) = (gins x L).map encE
  | [] => rfl
  | y :: r => by
    have ih := encE_ins x r
    have hb : (encE x).1.before (encE y).1 = bytesBefore x.1 y.1 := rfl
    rw [List.map_cons, DataW.insert, gins, hb]
    by_cases h : bytesBefore x.1 y.1 = true
    · rw [if_pos h, if_pos h]; rfl
    · rw [if_neg h, if_neg h, List.map_cons, ← ih]
theorem encE_del (L : List (Nm × Ent)) (s : Nm) : (L.map encE).filter (fun p => !p.1.sameKey (.string s)) = (gdel L s).map encE := by
  unfold gdel; rw [List.filter_map]; rfl
theorem mapD_del (L : List (Nm × Ent)) (s : Nm) : (mapD L).del (.string s) = mapD (gdel L s) := by
  show DataW.map _ = _; rw [encE_del]; rfl
theorem mapD_put (L : List (Nm × Ent)) (s : Nm) (e : Ent) : (mapD L).put (.string s) (.held (e.v, e.l)) = mapD (gput L s e) := by
  show DataW.map _ = _; rw [encE_del]; unfold gput mapD; rw [← encE_ins]; rfl
theorem mapD_at (L : List (Nm × Ent)) (s : Nm) (z : DataW HD) : (mapD L).atKey (.string s) z = match gget L s with | some e => .held (e.v, e.l) | none => z := by
  unfold mapD DataW.atKey gget
  simp only [List.find?_map]
  have : ((fun p : Lit × DataW HD => p.1.sameKey (.string s)) ∘ encE) = fun p : Nm × Ent => p.1 == s := rfl
  rw [this]
  cases L.find? (fun p => p.1 == s) <;> rfl
theorem mapD_has (L : List (Nm × Ent)) (s : Nm) : Maps.has (mapD L) (.string s) = (gget L s).isSome := by
  unfold mapD; rw [Maps.has_eq, List.any_map]
  have : ((fun p : Lit × DataW HD => p.1.sameKey (.string s)) ∘ encE) = fun p : Nm × Ent => p.1 == s := rfl
  rw [this]; unfold gget; rw [Option.isSome_map]
  cases hf : L.find? (fun p => p.1 == s) with
  | none => rw [List.find?_eq_none] at hf; simp; intro a b hab; have := hf _ hab; simpa using this
  | some x => simp; have h1 := List.find?_some hf; have h2 := List.mem_of_find?_eq_some hf; simp at h1; exact ⟨x.2, by rw [← h1]; exact h2⟩
theorem mapD_size (L : List (Nm × Ent)) : Maps.size (mapD L) = L.length := by simp [mapD, Maps.size]
theorem ownsMap_exact {w : World} {P : Program} {k : TypeId} {m n : Nat} {L : List (Nm × Ent)} (h : w.ownsMap P k RF m n (mapD L)) : w.ownsMap P k RF m L.length (mapD L) := by
  obtain ⟨es, clock, hb, F, hs, hD⟩ := h
  refine ⟨es, clock, hb, F, ?_, hD⟩
  have h2 := congrArg Maps.size hD
  rw [mapD_size] at h2
  rw [h2]; simp [Maps.size, length_sorted]

theorem under9 : Try.prog.underlying 9 = some .string := by kernel_rfl
theorem underM : Try.prog.underlying 48 = some (.map 9 78) := by kernel_rfl
theorem strLaw : Maps.Keyed Try.prog 9 := Maps.string_keyed under9
theorem zeroF (w : World) : (zeroValue 78).run Try.prog w = .ok (.agg #[.slice none 0 0, .bool false]) w := by kernel_rfl
theorem keyS (s : Nm) (h : s.length ≤ maxLen) : keyOf Try.prog 9 (sv s) = some (.string s) := by
  have := WideMaps.keyOf_string_mk (P := Try.prog) under9 (s := ⟨s.toArray⟩) (by simpa [ByteArray.size] using h)
  simpa using this

/-- Block b has these cells, none of them frozen. -/
def CAt (w : World) (b : Nat) (cs : Array Value) (t : TypeId) : Prop := w.heap[b]? = some (.cells cs t (0, 0))
theorem CAt.lt {w : World} {b : Nat} {cs : Array Value} {t : TypeId} (h : CAt w b cs t) : b < w.heap.size := (Array.getElem?_eq_some_iff.1 h).1
theorem CAt.cell {w : World} {b : Nat} {cs : Array Value} {t : TypeId} (h : CAt w b cs t) (i : Nat) : w.cell? ⟨b, i, none⟩ = cs[i]? := by
  simp [World.cell?, show w.heap[b]? = _ from h]
theorem CAt.free {w : World} {b : Nat} {cs : Array Value} {t : TypeId} (h : CAt w b cs t) (i : Nat) : w.frozen? ⟨b, i, none⟩ = false := by
  simp [World.frozen?, show w.heap[b]? = _ from h]
theorem CAt.set {w : World} {b : Nat} {cs : Array Value} {t : TypeId} (h : CAt w b cs t) (i : Nat) (v : Value) : CAt (w.setCell ⟨b, i, none⟩ v) b (cs.setIfInBounds i v) t := by
  unfold CAt at *
  simp [World.setCell, Array.getElem?_modify, h]
theorem CAt.keep {w w' : World} {b : Nat} {cs : Array Value} {t : TypeId} (h : CAt w b cs t) (e : w'.heap[b]? = w.heap[b]?) : CAt w' b cs t := e.trans h
theorem heap_setCell_ne (w : World) (a : Addr) (v : Value) (b : Nat) (h : b ≠ a.block) : (w.setCell a v).heap[b]? = w.heap[b]? := RowKit.Below.heap_setCell _ _ _ _ h
theorem setCell_size (w : World) (a : Addr) (v : Value) : (w.setCell a v).heap.size = w.heap.size := by
  unfold World.setCell; split <;> simp

def fuV : Option Nat → Value | none => .pointer none | some q => .pointer (some ⟨q, 0, none⟩)
abbrev ptr (p : Nat) : Value := .pointer (some ⟨p, 0, none⟩)
def dcells (p m : Nat) (fu : Option Nat) (d : Pd) (us : Int) : Array Value :=
  #[ptr p, .int .i64 (d.size : Int), .map (some m), .int .i64 us, .int .i64 (d.ops : Int), .bool d.offl, .bool d.full, .bool d.out, fuV fu]

/-- A drive lies at block p, its map at block m, its files as L; all its blocks are in S. -/
structure DrC (w : World) (S : Nat → Prop) (p m : Nat) (fu : Option Nat) (d : Pd) (L : List (Nm × Ent)) : Prop where
  c : CAt w p (dcells p m fu d (usedOf d.F : Int)) 51
  mp : w.ownsMap Try.prog 9 RF m L.length (mapD L)
  fs : d.F = gmap Ent.fi L
  ow : ∀ x ∈ L, w.ownsRow 0 5 1 x.2.v x.2.b.length (x.2.b.map u8)
  ap : L.Pairwise fun x y => x.2.v.ownBlock = none ∨ x.2.v.ownBlock ≠ y.2.v.ownBlock
  by8 : ∀ x ∈ L, ∀ y ∈ x.2.b, y < 256
  so : Srt L
  nm : ∀ x ∈ L, okNm x.1 = true
  sp : S p
  sm : S m
  sf : ∀ x ∈ L, ∀ b, x.2.v.ownBlock = some b → S b
  lt : ∀ b, S b → b < w.heap.size
  us : usedOf d.F ≤ d.size
  sz : d.size ≤ 67108864
/-- A fuse, outside S. -/
def FuAt (w : World) (S : Nat → Prop) : Option Nat → Fs → Prop
  | none, none => True
  | some q, some (n, g) => CAt w q #[.int .i64 (n : Int), .bool g] 81 ∧ ¬ S q ∧ n ≤ 9223372036854775807
  | _, _ => False

/-- Of what was there nothing has turned but blocks of S. -/
structure Only (S : Nat → Prop) (w w' : World) : Prop where
  os : w'.os = w.os
  tape : w'.tape = w.tape
  output : w'.output = w.output
  size : w.heap.size ≤ w'.heap.size
  block : ∀ k, k < w.heap.size → ¬ S k → w'.heap[k]? = w.heap[k]?
theorem Only.refl (S : Nat → Prop) (w : World) : Only S w w := ⟨rfl, rfl, rfl, Nat.le_refl _, fun _ _ _ => rfl⟩
theorem Only.trans {S : Nat → Prop} {a b c : World} (h : Only S a b) (k : Only S b c) : Only S a c :=
  ⟨k.os.trans h.os, k.tape.trans h.tape, k.output.trans h.output, Nat.le_trans h.size k.size, fun i hi hs => (k.block i (Nat.lt_of_lt_of_le hi h.size) hs).trans (h.block i hi hs)⟩
/-- .. where the later step may turn what is new since the first world. -/
theorem Only.then {S T : Nat → Prop} {a b c : World} (h : Only S a b) (k : Only T b c) (hT : ∀ i, i < a.heap.size → T i → S i) : Only S a c :=
  ⟨k.os.trans h.os, k.tape.trans h.tape, k.output.trans h.output, Nat.le_trans h.size k.size, fun i hi hs => (k.block i (Nat.lt_of_lt_of_le hi h.size) (fun ht => hs (hT i hi ht))).trans (h.block i hi hs)⟩
theorem Only.mono {S T : Nat → Prop} {a b : World} (h : Only S a b) (hS : ∀ i, S i → T i) : Only T a b := ⟨h.os, h.tape, h.output, h.size, fun i hi hs => h.block i hi fun k => hs (hS i k)⟩
theorem Only.of_below {S : Nat → Prop} {a b : World} (h : Below a.heap.size a b) : Only S a b := ⟨h.os, h.tape, h.output, h.size, fun i hi _ => h.block i hi⟩
theorem Only.below {S : Nat → Prop} {a b : World} {B : Nat} (h : Only S a b) (hB : B ≤ a.heap.size) (hS : ∀ i, S i → B ≤ i) : Below B a b :=
  ⟨h.os, h.tape, h.output, h.size, fun i hi => h.block i (by omega) fun k => by have := hS i k; omega⟩
theorem Only.of_grown {S : Nat → Prop} {a b : World} {r : Option Nat} (h : a.grownBy b r) (hr : ∀ k, r = some k → k < a.heap.size → S k) : Only S a b :=
  ⟨h.os, h.tape, h.output, h.size, fun i hi hs => h.block i hi fun e => hs (hr i e.symm hi)⟩
theorem Only.set {S : Nat → Prop} (w : World) (a : Addr) (v : Value) (h : S a.block) : Only S w (w.setCell a v) := by
  exact ⟨rfl, rfl, rfl, Nat.le_of_eq (setCell_size w a v).symm, fun k _ hk => heap_setCell_ne _ _ _ _ fun e => hk (e ▸ h)⟩
theorem Only.alloc {S : Nat → Prop} (w : World) (o : Obj) : Only S w (w.alloc o) := Only.of_grown (World.grownBy_alloc w o none) (by simp)

def grw (S : Nat → Prop) (w w' : World) (b : Nat) : Prop := S b ∨ (w.heap.size ≤ b ∧ b < w'.heap.size)

theorem ownsRow_keep {w w' : World} {B e n s : Nat} {v : Value} {xs : List Value} (h : w.ownsRow B e s v n xs) (hk : ∀ b, v.ownBlock = some b → w'.heap[b]? = w.heap[b]?) : w'.ownsRow B e s v n xs := by
  obtain ⟨h1, h2⟩ := h
  refine ⟨h1, ?_⟩
  rcases h2 with h2 | ⟨g, cap, cur, rfl, hB, hb, r⟩
  · exact Or.inl h2
  · exact Or.inr ⟨g, cap, cur, rfl, hB, (hk g rfl).trans hb, r⟩
theorem ownsMap_keep {w w' : World} {P : Program} {k : TypeId} {m n : Nat} {D : DataW HD} (h : w.ownsMap P k RF m n D) (e : w'.heap[m]? = w.heap[m]?) : w'.ownsMap P k RF m n D := by
  obtain ⟨es, clock, hb, r⟩ := h
  exact ⟨es, clock, e.trans hb, r⟩
/-- A drive stays as it is while none of its blocks turns. -/
theorem DrC.keep {w w' : World} {S : Nat → Prop} {p m : Nat} {fu : Option Nat} {d : Pd} {L : List (Nm × Ent)} (h : DrC w S p m fu d L) (hs : w.heap.size ≤ w'.heap.size) (hk : ∀ b, S b → w'.heap[b]? = w.heap[b]?) : DrC w' S p m fu d L :=
  { h with c := h.c.keep (hk p h.sp), mp := ownsMap_keep h.mp (hk m h.sm), ow := fun x hx => ownsRow_keep (h.ow x hx) fun b hb => hk b (h.sf x hx b hb), lt := fun b hb => Nat.lt_of_lt_of_le (h.lt b hb) hs }
theorem DrC.wide {w : World} {S S' : Nat → Prop} {p m : Nat} {fu : Option Nat} {d : Pd} {L : List (Nm × Ent)} (h : DrC w S p m fu d L) (hS : ∀ b, S b → S' b) (hl : ∀ b, S' b → b < w.heap.size) : DrC w S' p m fu d L :=
  { h with sp := hS p h.sp, sm := hS m h.sm, sf := fun x hx b hb => hS b (h.sf x hx b hb), lt := hl }
theorem FuAt.keep {w w' : World} {S : Nat → Prop} : ∀ {fu : Option Nat} {f : Fs}, FuAt w S fu f → (∀ q, fu = some q → w'.heap[q]? = w.heap[q]?) → FuAt w' S fu f
  | none, none, _, _ => trivial
  | some q, some (_, _), h, hk => ⟨h.1.keep (hk q rfl), h.2⟩
def DrAt (w : World) (S : Nat → Prop) (p : Nat) (fu : Option Nat) (d : Pd) : Prop := ∃ m L, DrC w S p m fu d L
theorem DrAt.keep {w w' : World} {S : Nat → Prop} {p : Nat} {fu : Option Nat} {d : Pd} (h : DrAt w S p fu d) (hs : w.heap.size ≤ w'.heap.size) (hk : ∀ b, S b → w'.heap[b]? = w.heap[b]?) : DrAt w' S p fu d := by
  obtain ⟨m, L, h⟩ := h; exact ⟨m, L, h.keep hs hk⟩
#print axioms DrC.keep
end Go.Proofs.Ytfppmpfmafnfmaa
