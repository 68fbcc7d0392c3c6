/- Texts laid into one, cut to what is needed: the remark ahead of each part says what is proved there. -/
import Derived.Test.YtkiojnledimihaaPab
import Derived.Deep.QuietTactic
import Derived.BigQuiet
import Derived.RangeFuncNested
import Derived.RangeFuncBound
import Derived.RangeFuncCalls
import Derived.RangeFuncLeaves
import Derived.OrdersIn
import Derived.TacticsIn
import Derived.Stop.Asserts
import Derived.RowKitTokens
import Derived.LaidEql
import Derived.Shelf.Abstract
import Derived.WalkKit
import Derived.OwnWalkIn
import Derived.TacticsInMore
import Derived.LoopNIn
import Derived.LoopIn
import Derived.Laws.CopyOwn
import Derived.Great.BuildSlice
import Derived.Deep.LoopGhost
import Derived.Maps.AppendAt
import Derived.Laws.OwnMore
/- Contract of with of the document's drives. -/
namespace Go.Proofs.Ytkiojnledimihaa
open Go Go.RowKit

theorem less_before : ∀ a b : Nm, Op.bytesLess a b = bytesBefore a b
  | [], [] => rfl
  | [], _ :: _ => rfl
  | _ :: _, [] => rfl
  | a :: r, b :: s => by simp [Op.bytesLess, bytesBefore, less_before r s]

end Go.Proofs.Ytkiojnledimihaa

/- A loop's body within a range over a function: its regions walked as everywhere; a range over a function whose iterator may hold such ranges itself. -/
namespace Go.Proofs.Ytkiojnledimihaa
open Go Go.RowKit

section
variable {P : Program} {ops : Array Oper} {Q : Exit → Act → World → Prop} {md : Region.Mode} {l n : Nat}

abbrev rndF (l : Nat) : Fence := Fence.wide.inRound l
theorem calls_rnd {f : FuncId} {args : Array Value} {w : World} {R : Ending → World → Prop} (h : Calls P f args w R) : CallsIn (rndF l) n P f args w R := CallsIn.inRound l (callsIn_wide.2 h)
theorem rows_rnd {row : String} {args : Array Value} {w : World} {R : Value → World → Prop} (h : Rows P row args w R) : RowsIn (rndF l) n P row args w R :=
  fun c cs _ => let ⟨v, w', r, s⟩ := h c cs; ⟨v, w', r, stepsIn_wide.2 s⟩

def noDefer (ops : Array Oper) : Bool := ops.all fun o => match o.op with | .defer _ => false | _ => true
theorem noDefer_at {o : Oper} (h : noDefer ops = true) (ho : o ∈ ops) : ∀ c, o.op ≠ .defer c := by
  intro c e
  have := Array.all_eq_true_iff_forall_mem.1 h o ho
  simp [e] at this

theorem oper_rnd {o : Oper} {a : Act} {w : World} {K : Act → World → Prop} (hd : ∀ c, o.op ≠ .defer c) (h : o.wp P a w K Q) : o.wpIn (rndF l) n P a w K Q := by
  refine ⟨fun _ _ => trivial, ?_⟩
  rw [Oper.semAt_eq _ _ _ hd]
  unfold Oper.wp at h
  generalize (execOp a.eval o).run P w = r at *
  cases r with
  | ok x w' =>
    cases x <;> simp only [Oper.upon, Oper.uponIn] at h ⊢ <;>
      first
        | exact h
        | exact ⟨fun e => (by cases e), calls_rnd h⟩
        | exact ⟨fun e => (by cases e), rows_rnd h⟩
        | exact h.elim
  | halt x w' => cases x <;> simp only [Oper.upon, Oper.uponIn] at h ⊢ <;> exact h

theorem list_rnd (hQ : ¬ LetsOut Q) : ∀ (k : List Oper) (a : Act) (w : World), (∀ o ∈ k, ∀ c, o.op ≠ .defer c) → wpList P ops Q k a w → wpListIn (rndF l) n P ops Q k a w
  | [], _, _, _, h => h
  | o :: k, a, w, hd, h => by
    unfold wpList at h
    unfold wpListIn
    have ih := fun a w => list_rnd hQ k a w (fun o' ho' => hd o' (List.mem_cons_of_mem _ ho'))
    split
    · rename_i hw
      rw [if_pos hw] at h
      rcases h with h | h
      · exact Oper.wpIn_mono (fun a w h => ih a w h) (oper_rnd (hd o (List.mem_cons_self ..)) h)
      · exact absurd h.2 hQ
    · rename_i hw
      rw [if_neg hw] at h
      exact ⟨fun _ _ => trivial, ih _ _ h⟩

/-- A region in a round, walked plain. -/
theorem round_list {id : Nat} {k : List Oper} {a : Act} {w : World} (hQ : ∀ a w, Q .outgrown a w → False) (hd : noDefer k.toArray = true) (h : wpList P k.toArray Q k a w) : (Code.region id k.toArray false).wpIn (rndF l) n P Q a w :=
  wpIn_region_lit (list_rnd (fun ⟨a, w, q⟩ => hQ a w q) k a w (fun o ho => noDefer_at hd (by simpa using ho)) h)
end

section
variable {P : Program}
end

/-! ### A range over a function whose iterator may hold such ranges itself -/
/-- What keeps a loop's books. -/
def bkO : Obj → Bool
  | .loop _ => true
  | .deferred _ => true
  | _ => false
/-- New blocks, and at most one block from B on that keeps a loop's books has turned. -/
def Tn (B : Nat) (A C : World) : Prop := ∃ row : Option Nat, A.grownBy C row ∧ ∀ r, row = some r → B ≤ r ∧ ∃ o : Obj, A.heap[r]? = some o ∧ bkO o = true
theorem Tn.mono {B B' : Nat} {A C : World} (h : Tn B A C) (hB : B' ≤ B) : Tn B' A C := by
  obtain ⟨row, hg, hr⟩ := h
  exact ⟨row, hg, fun r e => ⟨Nat.le_trans hB (hr r e).1, (hr r e).2⟩⟩
theorem Tn.alloc (B : Nat) (A : World) (o : Obj) : Tn B A (A.alloc o) := ⟨none, World.grownBy_alloc A o none, fun _ e => by cases e⟩
theorem Tn.put {B : Nat} {A : World} {r : Nat} {o : Obj} (o' : Obj) (hB : B ≤ r) (h : A.heap[r]? = some o) (hb : bkO o = true) : Tn B A (A.putObj r o') :=
  ⟨some r, grownBy_putObj' A r o', fun q e => by cases e; exact ⟨hB, o, h, hb⟩⟩
theorem Tn.low {B : Nat} {A C : World} (h : Tn B A C) {k : Nat} (hk : k < B) (hA : k < A.heap.size) : C.heap[k]? = A.heap[k]? := by
  obtain ⟨row, hg, hr⟩ := h
  exact hg.block k hA fun e => by have := (hr k e.symm).1; omega
theorem Tn.other {B : Nat} {A C : World} (h : Tn B A C) {k : Nat} {o : Obj} (hk : A.heap[k]? = some o) (ho : bkO o = false) : C.heap[k]? = A.heap[k]? := by
  obtain ⟨row, hg, hr⟩ := h
  refine hg.block k (Array.getElem?_eq_some_iff.1 hk).1 fun e => ?_
  obtain ⟨_, o', h1, h2⟩ := hr k e.symm
  rw [hk] at h1; cases h1; rw [ho] at h2; cases h2
theorem Tn.size {B : Nat} {A C : World} (h : Tn B A C) : A.heap.size ≤ C.heap.size := by obtain ⟨_, hg, _⟩ := h; exact hg.size
/-- I abides that. -/
def OwL (B : Nat) (I : World → Prop) : Prop := ∀ A C, I A → Tn B A C → I C
def endAct (a : Act) (D : Nat) : Act := { a with defers := { target := .collected D, args := #[] } :: a.defers }

/-! ### A region in a round that calls another loop's yield -/
section
variable {P : Program} {ops : Array Oper} {Q : Exit → Act → World → Prop} {l n : Nat}
end
end Go.Proofs.Ytkiojnledimihaa

/- The drives of a set: k drives beside one another that have a fuse together, or none. -/
namespace Go.Proofs.Ytkiojnledimihaa
open Go Go.RowKit

/-! ### What abides books being kept -/
section
variable {A C : World} {S : Nat → Prop} {p m : Nat} {fu : Option Nat} {d : Pd} {L : List (Nm × Ent)} {B : Nat}
theorem CAt.tn {b : Nat} {cs : Array Value} {t : TypeId} (h : CAt A b cs t) (ht : Tn B A C) : CAt C b cs t := (ht.other h rfl).trans h
theorem Only.tn {w : World} {T : Nat → Prop} (h : Only T w A) (ht : Tn B A C) (hB : w.heap.size ≤ B) : Only T w C := by
  have hl := @Tn.low B A C ht
  obtain ⟨row, hg, hr⟩ := ht
  exact ⟨hg.os.trans h.os, hg.tape.trans h.tape, hg.output.trans h.output, Nat.le_trans h.size hg.size, fun k hk hT => (hl (by omega) (Nat.lt_of_lt_of_le hk h.size)).trans (h.block k hk hT)⟩
theorem below_tn {w : World} (h : Below w.heap.size w A) (ht : Tn B A C) (hB : w.heap.size ≤ B) : Below w.heap.size w C := by
  have hl := @Tn.low B A C ht
  obtain ⟨row, hg, hr⟩ := ht
  exact ⟨hg.os.trans h.os, hg.tape.trans h.tape, hg.output.trans h.output, Nat.le_trans h.size hg.size, fun k hk => (hl (by omega) (Nat.lt_of_lt_of_le hk h.size)).trans (h.block k hk)⟩
end
section
variable {w wr : World} {k : Nat} {D : Nat → Dv} {Z : Nat → Nat × Bool}
end

/-! ### The drives of a set: those from c on have the fuse -/
def upd {α : Type} (d : Nat → α) (i : Nat) (x : α) : Nat → α := fun j => if j = i then x else d j
theorem upd_same {α : Type} (d : Nat → α) (i : Nat) (x : α) : upd d i x i = x := by simp [upd]
theorem upd_ne {α : Type} (d : Nat → α) {i j : Nat} (x : α) (h : j ≠ i) : upd d i x j = d j := by simp [upd, h]
section
variable {w wr : World} {T : Nat → Prop} {k : Nat} {p : Nat → Nat} {d : Nat → Pd} {f : Fs} {c : Nat}
end

/-! ### A loop over them, begun in wr: what is written besides are blocks X that lay there -/
section
variable {w wr W : World} {T X : Nat → Prop} {k : Nat} {p : Nat → Nat} {d : Nat → Pd} {f : Fs}
end

end Go.Proofs.Ytkiojnledimihaa

/- Lists of drives: each (an iterator), none, checkDrives; a fuse of any number of drives. -/
namespace Go.Proofs.Ytkiojnledimihaa
open Go Go.RowKit Go.Shelf

/-- A list of drives in memory, at a block that is none of T. -/
structure LsAt (w : World) (T : Nat → Prop) (v : Value) (k : Nat) (p : Nat → Nat) : Prop where
  ex : (k = 0 ∧ v = .slice none 0 0) ∨ (0 < k ∧ ∃ b c, v = .slice (some ⟨b, 0, none⟩) k c ∧ ¬ T b ∧ ∀ j, j < k → w.cell? ⟨b, j, none⟩ = some (ptr (p j)))
theorem cell_lt2 {w : World} {b i : Nat} {v : Value} (h : w.cell? ⟨b, i, none⟩ = some v) : b < w.heap.size := by
  rcases Nat.lt_or_ge b w.heap.size with h' | h'
  · exact h'
  · simp [World.cell?, Array.getElem?_eq_none h'] at h
theorem LsAt.keep {w w' : World} {T T' : Nat → Prop} {v : Value} {k : Nat} {p : Nat → Nat} (h : LsAt w T v k p) (hk : ∀ b, b < w.heap.size → ¬ T b → w'.heap[b]? = w.heap[b]?) (hT : ∀ b, b < w.heap.size → T' b → T b) : LsAt w' T' v k p := by
  rcases h.ex with h | ⟨h0, b, c, h1, h2, h3⟩
  · exact ⟨.inl h⟩
  · have hb := cell_lt2 (h3 0 h0)
    exact ⟨.inr ⟨h0, b, c, h1, fun ht => h2 (hT b hb ht), fun j hj => (World.cell?_of_block (hk b hb h2)).trans (h3 j hj)⟩⟩
theorem LsAt.none {w : World} {T : Nat → Prop} {v : Value} {k : Nat} {p : Nat → Nat} (h : LsAt w T v k p) : LsAt w (fun _ => False) v k p := h.keep (fun _ _ _ => rfl) (fun _ _ h => h.elim)
end Go.Proofs.Ytkiojnledimihaa

/- What a drive answers that is nil, or that nobody made. -/
namespace Go.Proofs.Ytkiojnledimihaa
open Go Go.RowKit

/-- A pointer to no drive, or to one whose first cell is nil. -/
inductive Bare (w : World) : Value → Prop
  | nil : Bare w (.pointer none)
  | zero (p : Nat) (h : w.cell? ⟨p, 0, none⟩ = some (.pointer none)) : Bare w (ptr p)
theorem Bare.below {w w' : World} {v : Value} (h : Bare w v) (hb : Below w.heap.size w w') : Bare w' v := by
  cases h with
  | nil => exact .nil
  | zero p h => exact .zero p ((World.cell?_of_block (hb.block p (cell_lt' (a := ⟨p, 0, none⟩) (by rw [h]; simp)))).trans h)
end Go.Proofs.Ytkiojnledimihaa

/- What fan makes of drives, as mathematics: files staged and finished, deleted, committed. -/
namespace Go.Proofs.Ytkiojnledimihaa
open Go

def tmpN (s : Nm) : Nm := [116, 109, 112, 47] ++ s
/-- A file: its name and its bytes. -/
abbrev Fl := Nm × List Nat
structure FS where
  d : Nat → Pd
  f : Fs
abbrev Op3 := Pd → Fs → Fl → Nat × Pd × Fs
def fin : Op3 := fun d f x => d.rename f (tmpN x.1) x.1
/-- No more files than a, no more changes than b. -/
def Bnd (a b : Nat) (d : Pd) : Prop := d.F.length ≤ a ∧ d.ops ≤ b
theorem Bnd.mono {a b a' b' : Nat} {d : Pd} (h : Bnd a b d) (ha : a ≤ a') (hb : b ≤ b') : Bnd a' b' d := ⟨Nat.le_trans h.1 ha, Nat.le_trans h.2 hb⟩
end Go.Proofs.Ytkiojnledimihaa

/- Files to be committed, in memory; which drives are well; how many are. -/
namespace Go.Proofs.Ytkiojnledimihaa
open Go Go.RowKit Go.Shelf

/-- A file as it stands in memory. -/
structure FlV where
  nm : Nm
  pb : Option Addr
  cb : Nat
  bs : List Nat
instance : Inhabited FlV := ⟨⟨[], none, 0, []⟩⟩
abbrev FlV.bv (x : FlV) : Value := .slice x.pb x.bs.length x.cb
structure FlV.ok (w : World) (T : Nat → Prop) (x : FlV) : Prop where
  nl : x.nm.length ≤ maxLen
  b8 : ∀ y ∈ x.bs, y < 256
  bl : x.bs.length ≤ 1000000
  bt : BAt w x.pb x.bs
  nt : ∀ a, x.pb = some a → x.bs ≠ [] → ¬ T a.block
structure RowV where
  po : Option Addr
  c : Nat
  l : List FlV
instance : Inhabited RowV := ⟨⟨none, 0, []⟩⟩
abbrev RowV.v (r : RowV) : Value := .slice r.po r.l.length r.c
structure RowV.ok (w : World) (T : Nat → Prop) (r : RowV) : Prop where
  at_ : r.l = [] ∨ ∃ b o, r.po = some ⟨b, o, none⟩ ∧ ¬ T b ∧ ∀ j, j < r.l.length → w.cell? ⟨b, o + j * 2, none⟩ = some (sv (r.l.getD j default).nm) ∧ w.cell? ⟨b, o + j * 2 + 1, none⟩ = some (r.l.getD j default).bv
  el : ∀ x ∈ r.l, x.ok w T
  cp : r.l.length ≤ r.c
/-- The lists of all drives. -/
structure FsV where
  po : Option Addr
  c : Nat
  l : List RowV
abbrev FsV.v (r : FsV) : Value := .slice r.po r.l.length r.c
structure FsV.ok (w : World) (T : Nat → Prop) (r : FsV) : Prop where
  at_ : r.l = [] ∨ ∃ b o, r.po = some ⟨b, o, none⟩ ∧ ¬ T b ∧ ∀ j, j < r.l.length → w.cell? ⟨b, o + j, none⟩ = some (r.l.getD j default).v
  el : ∀ x ∈ r.l, x.ok w T
theorem add_block (a : Addr) (i : Nat) : (a.add i).block = a.block := by unfold Addr.add; split <;> rfl
section
variable {w w' : World} {T T' : Nat → Prop}
theorem FlV.ok.keep {x : FlV} (h : x.ok w T) (hk : ∀ b, b < w.heap.size → ¬ T b → w'.heap[b]? = w.heap[b]?) (hT : ∀ b, b < w.heap.size → T' b → T b) : x.ok w' T' := by
  have lt : ∀ a, x.pb = some a → x.bs ≠ [] → a.block < w.heap.size := fun a e hne => by
    rcases h.bt with ⟨h1, h2⟩ | ⟨a', h1, h2⟩
    · exact absurd h2 hne
    · rw [h1] at e; cases e
      have := h2 0 (List.length_pos_iff.2 hne)
      have := cell_lt' (w := w) (a := a.add 0) (by rw [this]; simp)
      rwa [add_block] at this
  refine ⟨h.nl, h.b8, h.bl, ?_, fun a e hne ht => h.nt a e hne (hT _ (lt a e hne) ht)⟩
  rcases h.bt with ⟨h1, h2⟩ | ⟨a', h1, h2⟩
  · exact .inl ⟨h1, h2⟩
  · refine .inr ⟨a', h1, fun i hi => ?_⟩
    have hne : x.bs ≠ [] := List.length_pos_iff.1 (by omega)
    refine (World.cell?_of_block ?_).trans (h2 i hi)
    rw [add_block]
    exact hk _ (lt a' h1 hne) (h.nt a' h1 hne)
theorem RowV.ok.keep {x : RowV} (h : x.ok w T) (hk : ∀ b, b < w.heap.size → ¬ T b → w'.heap[b]? = w.heap[b]?) (hT : ∀ b, b < w.heap.size → T' b → T b) : x.ok w' T' := by
  refine ⟨?_, fun y hy => (h.el y hy).keep hk hT, h.cp⟩
  rcases h.at_ with h1 | ⟨b, o, h1, h2, h3⟩
  · exact .inl h1
  · rcases Nat.eq_zero_or_pos x.l.length with h0 | h0
    · exact .inl (List.length_eq_zero_iff.1 h0)
    · have hb := cell_lt2 (h3 0 h0).1
      exact .inr ⟨b, o, h1, fun ht => h2 (hT b hb ht), fun j hj => ⟨(World.cell?_of_block (a := ⟨b, o + j * 2, none⟩) (hk b hb h2)).trans (h3 j hj).1, (World.cell?_of_block (a := ⟨b, o + j * 2 + 1, none⟩) (hk b hb h2)).trans (h3 j hj).2⟩⟩
theorem FsV.ok.keep {x : FsV} (h : x.ok w T) (hk : ∀ b, b < w.heap.size → ¬ T b → w'.heap[b]? = w.heap[b]?) (hT : ∀ b, b < w.heap.size → T' b → T b) : x.ok w' T' := by
  refine ⟨?_, fun y hy => (h.el y hy).keep hk hT⟩
  rcases h.at_ with h1 | ⟨b, o, h1, h2, h3⟩
  · exact .inl h1
  · rcases Nat.eq_zero_or_pos x.l.length with h0 | h0
    · exact .inl (List.length_eq_zero_iff.1 h0)
    · have hb := cell_lt2 (h3 0 h0)
      exact .inr ⟨b, o, h1, fun ht => h2 (hT b hb ht), fun j hj => (World.cell?_of_block (a := ⟨b, o + j, none⟩) (hk b hb h2)).trans (h3 j hj)⟩
theorem FsV.ok.only {x : FsV} {Y : Nat → Prop} (h : x.ok w T) (ho : Only Y w w') (hY : ∀ b, Y b → T b) : x.ok w' T := h.keep (fun b hb hT => ho.block b hb fun hy => hT (hY b hy)) (fun _ _ h => h)
/-- Which drives are well, in memory. -/
def WlAt (w : World) (bw k : Nat) (wl : Nat → Bool) : Prop := ∀ j, j < k → w.cell? ⟨bw, j, none⟩ = some (.bool (wl j)) ∧ w.frozen? ⟨bw, j, none⟩ = false
theorem WlAt.keep {bw k : Nat} {wl : Nat → Bool} (h : WlAt w bw k wl) (e : w'.heap[bw]? = w.heap[bw]?) : WlAt w' bw k wl := fun j hj => ⟨(World.cell?_of_block (a := ⟨bw, j, none⟩) e).trans (h j hj).1, (World.frozen?_of_block (a := ⟨bw, j, none⟩) e).trans (h j hj).2⟩
theorem WlAt.set {bw k : Nat} {wl : Nat → Bool} (h : WlAt w bw k wl) {i : Nat} (hi : i < k) (b : Bool) : WlAt (w.setCell ⟨bw, i, none⟩ (.bool b)) bw k (upd wl i b) := fun j hj => by
  by_cases e : j = i
  · subst e; rw [upd_same]; exact ⟨World.cell?_setCell_same' _ _ _ (by rw [(h j hj).1]; rfl), by rw [World.frozen?_setCell]; exact (h j hj).2⟩
  · rw [upd_ne _ _ e]; exact ⟨(World.cell?_setCell_other w ⟨bw, i, none⟩ ⟨bw, j, none⟩ (.bool b) (by intro e2; cases e2; exact e rfl)).trans (h j hj).1, by rw [World.frozen?_setCell]; exact (h j hj).2⟩
end
end Go.Proofs.Ytkiojnledimihaa

/- The document's stage, finish and drop of one drive's files. -/
namespace Go.Proofs.Ytkiojnledimihaa
open Go Go.RowKit Go.Shelf

/-- A drive that may be: its files by rising names, no more bytes than it takes. -/
structure Gd (d : Pd) : Prop where
  srt : Srt d.F
  uz : usedOf d.F ≤ d.size
  sz : d.size ≤ 67108864
section
variable {w W0 W W' : World} {T : Nat → Prop} {k : Nat} {p : Nat → Nat} {d : Nat → Pd} {f : Fs}
end
end Go.Proofs.Ytkiojnledimihaa

/- What stands against a Commit. -/
namespace Go.Proofs.Ytkiojnledimihaa
open Go Go.RowKit

def names (r : RowV) : List Nm := r.l.map FlV.nm
end Go.Proofs.Ytkiojnledimihaa

/- The document's may: why files may not be committed. -/
namespace Go.Proofs.Ytkiojnledimihaa
open Go Go.RowKit Go.Shelf

theorem FsV.ok.row {w : World} {T : Nat → Prop} {po : Option Addr} {c : Nat} {rows : List RowV} (h : FsV.ok w T ⟨po, c, rows⟩) {j : Nat} (hj : j < rows.length) : ∃ b o, po = some ⟨b, o, none⟩ ∧ (∀ dn, (w.drewN dn).cell? ⟨b, o + j, none⟩ = some (.slice (rows.getD j default).po (rows.getD j default).l.length (rows.getD j default).c)) ∧ (rows.getD j default).ok w T := by
  rcases h.at_ with h0 | ⟨b, o, h1, _, h3⟩
  · have h0' : rows = [] := h0
    rw [h0'] at hj; exact absurd hj (Nat.not_lt_zero _)
  · exact ⟨b, o, h1, fun dn => h3 j hj, h.el (rows.getD j default) (by show rows.getD j default ∈ rows; rw [getD_in _ _ _ hj]; exact List.getElem_mem _)⟩
end Go.Proofs.Ytkiojnledimihaa

/- Files that are named for each drive are deleted. -/
namespace Go.Proofs.Ytkiojnledimihaa
open Go Go.RowKit Go.Shelf

theorem TxtL.blk {B : Nat} {w : World} {v : Value} {ns : List Nm} (h : TxtL B w v ns) {b : Nat} (hb : v.ownBlock = some b) : ∃ cur, w.heap[b]? = some (.cells cur 9) := by
  rcases h.2 with ⟨e, _⟩ | ⟨g, cap, cur, e, _, hg, _⟩
  · rw [e] at hb; simp [Value.ownBlock] at hb
  · rw [e] at hb; simp [Value.ownBlock] at hb; subst hb; exact ⟨cur, hg⟩
end Go.Proofs.Ytkiojnledimihaa

/- Texts that lie anywhere; the document's names: may they be deleted? -/
namespace Go.Proofs.Ytkiojnledimihaa
open Go Go.RowKit Go.Shelf

/-- Texts in memory, from any place of a block on. -/
def TxO (w : World) (po : Option Addr) (ns : List Nm) : Prop := ns = [] ∨ ∃ b o, po = some ⟨b, o, none⟩ ∧ ∀ i, i < ns.length → w.cell? ⟨b, o + i, none⟩ = some (sv (ns.getD i []))
theorem TxO.below {w w' : World} {po : Option Addr} {ns : List Nm} (h : TxO w po ns) (hb : Below w.heap.size w w') : TxO w' po ns := by
  rcases h with h | ⟨b, o, rfl, h⟩
  · exact .inl h
  · exact .inr ⟨b, o, rfl, fun i hi => (World.cell?_of_block (a := ⟨b, o + i, none⟩) (hb.block b (cell_lt2 (h i hi)))).trans (h i hi)⟩
theorem TxO.cell {w : World} {po : Option Addr} {ns : List Nm} (h : TxO w po ns) {j : Nat} (hj : j < ns.length) : ∃ b o, po = some ⟨b, o, none⟩ ∧ w.cell? ⟨b, o + j, none⟩ = some (sv (ns.getD j [])) := by
  rcases h with h | ⟨b, o, rfl, h⟩
  · rw [h] at hj; exact absurd hj (Nat.not_lt_zero _)
  · exact ⟨b, o, rfl, h j hj⟩
end Go.Proofs.Ytkiojnledimihaa

/- The document's drives of a set while calls change them and other blocks are written. -/
namespace Go.Proofs.Ytkiojnledimihaa
open Go Go.RowKit Go.Shelf

/-- Drives that may be; those from i on are as they were bounded first. -/
def Bs (a b k i : Nat) (d : Nat → Pd) : Prop := ∀ j, j < k → Gd (d j) ∧ (i ≤ j → Bnd a b (d j)) ∧ Bnd (a + 16) (b + 16) (d j)
theorem Bs.set {a b k i : Nat} {d : Nat → Pd} {x : Pd} (h : Bs a b k i d) (hg : Gd x) (hb : Bnd (a + 16) (b + 16) x) : Bs a b k (i + 1) (upd d i x) := fun j hj => by
  by_cases e : j = i
  · subst e; rw [upd_same]; exact ⟨hg, fun h => by omega, hb⟩
  · rw [upd_ne _ _ e]; exact ⟨(h j hj).1, fun hl => (h j hj).2.1 (by omega), (h j hj).2.2⟩
section
variable {w W0 W W' : World} {T X : Nat → Prop} {k : Nat} {p : Nat → Nat} {d d2 : Nat → Pd} {f f2 : Fs}
end
end Go.Proofs.Ytkiojnledimihaa

/- The document's Delete, Finish and Clean. (Written by tools/gen_Yi.py.) -/
namespace Go.Proofs.Ytkiojnledimihaa
open Go Go.RowKit Go.Shelf

def Bg (k i : Nat) (d : Nat → Pd) : Prop := ∀ j, j < k → i ≤ j → Bnd 800000 800000000 (d j)
theorem Bg.set {k i : Nat} {d : Nat → Pd} (h : Bg k i d) (x : Pd) : Bg k (i + 1) (upd d i x) := fun j hj hi => by rw [upd_ne _ _ (by omega)]; exact h j hj (by omega)
section
variable {w w1 : World} {T : Nat → Prop} {k : Nat} {p : Nat → Nat} {X0 : FS}
end
end Go.Proofs.Ytkiojnledimihaa

/- The document's Clean. (Written by tools/gen_Yk.py.) -/
namespace Go.Proofs.Ytkiojnledimihaa
open Go Go.RowKit Go.Shelf

def Bc (k i : Nat) (d : Nat → Pd) : Prop := ∀ j, j < k → i ≤ j → Bnd 800000 800000000 (d j) ∧ ∀ x ∈ (d j).F, okNm x.1 = true
theorem Bc.set {k i : Nat} {d : Nat → Pd} (h : Bc k i d) (x : Pd) : Bc k (i + 1) (upd d i x) := fun j hj hi => by rw [upd_ne _ _ (by omega)]; exact h j hj (by omega)
theorem tx_of {B : Nat} {w : World} {po : Option Addr} {c : Nat} {ns : List Nm} (h : TxtL B w (.slice po ns.length c) ns) : TxO w po ns := by
  rcases h.2 with ⟨h1, h0⟩ | ⟨g, cap, cur, h1, _, hg, h2, _, h3, h4⟩
  · exact .inl (List.length_eq_zero_iff.1 h0)
  · cases h1
    refine .inr ⟨g, 0, rfl, fun i hi => ?_⟩
    have hc : CAt w g cur 9 := hg
    rw [Nat.zero_add, hc.cell]
    have e : cur.toList[i]? = (ns.map sv)[i]? := by rw [← h4, List.getElem?_take, if_pos (by omega)]
    rw [← Array.getElem?_toList, e, List.getElem?_map, List.getElem?_eq_getElem hi, getD_in _ _ _ hi]; rfl
section
variable {w w1 : World} {T : Nat → Prop} {k : Nat} {p : Nat → Nat} {X0 : FS}
end
end Go.Proofs.Ytkiojnledimihaa

/- slices.Compact of texts: as mathematics. -/
namespace Go.Proofs.Ytkiojnledimihaa
open Go Go.RowKit Go.Shelf

/-- What is left of a list where of equal neighbours one stays: the rest, after its last text x. -/
def cmpF : Nm → List Nm → List Nm
  | _, [] => []
  | x, y :: r => if y = x then cmpF x r else y :: cmpF y r
def cmpL : List Nm → List Nm
  | [] => []
  | x :: r => x :: cmpF x r
theorem cmpF_snoc : ∀ (x : Nm) (l : List Nm) (y : Nm), cmpF x (l ++ [y]) = if y = (x :: l).getLast (by simp) then cmpF x l else cmpF x l ++ [y]
  | x, [], y => by by_cases h : y = x <;> simp [cmpF, h]
  | x, z :: r, y => by
    have e : (x :: z :: r).getLast (by simp) = (z :: r).getLast (by simp) := List.getLast_cons (by simp)
    simp only [List.cons_append, cmpF]
    by_cases h : z = x
    · subst h
      rw [if_pos rfl, if_pos rfl, cmpF_snoc z r y, e]
    · rw [if_neg h, if_neg h, cmpF_snoc z r y, e]
      split <;> rfl
theorem cmpL_snoc (x : Nm) (l : List Nm) (y : Nm) : cmpL (x :: l ++ [y]) = if y = (x :: l).getLast (by simp) then cmpL (x :: l) else cmpL (x :: l) ++ [y] := by
  simp only [List.cons_append, cmpL]
  rw [cmpF_snoc]
  split <;> rfl
/-- One text more of a list. -/
theorem cmpL_take (l : List Nm) (k : Nat) (h0 : 0 < k) (hk : k < l.length) : cmpL (l.take (k + 1)) = if l.getD k [] = l.getD (k - 1) [] then cmpL (l.take k) else cmpL (l.take k) ++ [l.getD k []] := by
  have e1 : l.take (k + 1) = l.take k ++ [l[k]] := by rw [List.take_add_one, List.getElem?_eq_getElem hk]; rfl
  cases l with
  | nil => simp at hk
  | cons x r =>
    obtain ⟨j, rfl⟩ : ∃ j, k = j + 1 := ⟨k - 1, by omega⟩
    rw [e1]
    simp only [List.take_succ_cons]
    rw [cmpL_snoc]
    have e2 : (x :: r.take j).getLast (by simp) = (x :: r).getD (j + 1 - 1) [] := by
      rw [List.getLast_eq_getElem]
      simp only [List.length_cons, List.length_take, Nat.add_sub_cancel]
      simp at hk
      rw [getD_in _ _ _ (by simp; omega)]
      have hm : min j r.length = j := by omega
      simp only [hm]
      cases j with
      | zero => rfl
      | succ j => simp
    rw [e2, getD_in _ _ _ hk]
end Go.Proofs.Ytkiojnledimihaa

/- Names of all drives, as mathematics: sorted and compacted, or put in one by one. -/
namespace Go.Proofs.Ytkiojnledimihaa
open Go Go.RowKit Go.Shelf

def wth : List Nm → Nm → List Nm
  | [], s => [s]
  | y :: r, s => if bytesBefore y s then y :: wth r s else if y = s then y :: r else s :: y :: r
def SSrt (l : List Nm) : Prop := l.Pairwise fun a b => bytesBefore a b = true
theorem wth_mem : ∀ (l : List Nm) (s x : Nm), x ∈ wth l s ↔ x = s ∨ x ∈ l
  | [], s, x => by simp [wth]
  | y :: r, s, x => by
    unfold wth; split
    · rw [List.mem_cons, wth_mem r s x, List.mem_cons]
      exact ⟨fun h => h.elim (fun h => .inr (.inl h)) (fun h => h.elim .inl (fun h => .inr (.inr h))), fun h => h.elim (fun h => .inr (.inl h)) (fun h => h.elim .inl (fun h => .inr (.inr h)))⟩
    · split
      · rename_i e; subst e; simp
      · rw [List.mem_cons]
theorem wth_srt : ∀ (l : List Nm) (s : Nm), SSrt l → SSrt (wth l s)
  | [], s, _ => by simp [wth, SSrt]
  | y :: r, s, h => by
    obtain ⟨h1, h2⟩ := List.pairwise_cons.1 h
    unfold wth; split
    · rename_i hb
      refine List.pairwise_cons.2 ⟨fun x hx => ?_, wth_srt r s h2⟩
      rcases (wth_mem r s x).1 hx with rfl | hx
      · exact hb
      · exact h1 x hx
    · rename_i hb
      split
      · exact h
      · rename_i hne
        have hsy : bytesBefore s y = true := (bb_total hne).elim (fun h => absurd h hb) id
        refine List.pairwise_cons.2 ⟨fun x hx => ?_, h⟩
        rcases List.mem_cons.1 hx with rfl | hx
        · exact hsy
        · exact bb_trans hsy (h1 x hx)
theorem wth_len (l : List Nm) (s : Nm) : (wth l s).length ≤ l.length + 1 := by
  induction l with
  | nil => simp [wth]
  | cons y r ih =>
    unfold wth; split
    · simp only [List.length_cons]; omega
    · split <;> simp only [List.length_cons] <;> omega
def wths (l : List Nm) (xs : List Nm) : List Nm := xs.foldl wth l
theorem wths_mem : ∀ (xs l : List Nm) (x : Nm), x ∈ wths l xs ↔ x ∈ l ∨ x ∈ xs
  | [], l, x => by simp [wths]
  | y :: r, l, x => by
    show x ∈ wths (wth l y) r ↔ _
    rw [wths_mem r (wth l y) x, wth_mem, List.mem_cons]
    exact ⟨fun h => h.elim (fun h => h.elim (fun h => .inr (.inl h)) .inl) (fun h => .inr (.inr h)), fun h => h.elim (fun h => .inl (.inr h)) (fun h => h.elim (fun h => .inl (.inl h)) .inr)⟩
theorem wths_srt : ∀ (xs l : List Nm), SSrt l → SSrt (wths l xs)
  | [], _, h => h
  | y :: r, l, h => wths_srt r (wth l y) (wth_srt l y h)
theorem wths_len : ∀ (xs l : List Nm), (wths l xs).length ≤ l.length + xs.length
  | [], l => by simp [wths]
  | y :: r, l => by
    have h1 := wths_len r (wth l y)
    have h2 := wth_len l y
    show (wths (wth l y) r).length ≤ _
    simp only [List.length_cons]; omega
theorem wths_app (l xs ys : List Nm) : wths l (xs ++ ys) = wths (wths l xs) ys := by unfold wths; rw [List.foldl_append]
theorem cmpF_mem : ∀ (x : Nm) (l : List Nm) (z : Nm), (z = x ∨ z ∈ cmpF x l) ↔ (z = x ∨ z ∈ l)
  | x, [], z => by simp [cmpF]
  | x, y :: r, z => by
    unfold cmpF; split
    · rename_i e; subst e
      rw [cmpF_mem y r z, List.mem_cons]
      exact ⟨fun h => h.elim .inl (fun h => .inr (.inr h)), fun h => h.elim .inl (fun h => h.elim .inl .inr)⟩
    · have := cmpF_mem y r z
      rw [List.mem_cons, List.mem_cons]
      exact ⟨fun h => h.elim .inl (fun h => .inr (this.1 h)), fun h => h.elim .inl (fun h => .inr (this.2 h))⟩
theorem cmpL_mem (l : List Nm) (z : Nm) : z ∈ cmpL l ↔ z ∈ l := by
  cases l with
  | nil => simp [cmpL]
  | cons x r => unfold cmpL; rw [List.mem_cons, List.mem_cons]; exact cmpF_mem x r z
theorem cmpF_srt : ∀ (x : Nm) (l : List Nm), (x :: l).Pairwise (fun a b => decide (a ≤ b) = true) → SSrt (x :: cmpF x l)
  | x, [], _ => by simp [cmpF, SSrt]
  | x, y :: r, h => by
    obtain ⟨h1, h2⟩ := List.pairwise_cons.1 h
    unfold cmpF; split
    · rename_i e; subst e; exact cmpF_srt y r h2
    · rename_i hne
      have hxy : bytesBefore x y = true := by
        have := h1 y (by simp)
        rw [bb_lt]
        exact Std.lt_of_le_of_ne (by simpa using this) (fun e => hne e.symm)
      have ih := cmpF_srt y r h2
      refine List.pairwise_cons.2 ⟨fun z hz => ?_, ih⟩
      rcases List.mem_cons.1 hz with rfl | hz
      · exact hxy
      · exact bb_trans hxy ((List.pairwise_cons.1 ih).1 z hz)
theorem cmpL_srt (l : List Nm) (h : l.Pairwise (fun a b => decide (a ≤ b) = true)) : SSrt (cmpL l) := by
  cases l with
  | nil => simp [cmpL, SSrt]
  | cons x r => exact cmpF_srt x r h
theorem ssrt_ext {L M : List Nm} (hL : SSrt L) (hM : SSrt M) (h : ∀ s, s ∈ L ↔ s ∈ M) : L = M := by
  have nd : ∀ (K : List Nm), SSrt K → K.Nodup := fun K hK => List.Pairwise.imp (R := fun (p q : Nm) => bytesBefore p q = true) (fun {a b} h => bb_ne h) hK
  refine List.Perm.eq_of_pairwise (le := fun (p q : Nm) => bytesBefore p q = true) (fun a b _ _ h1 h2 => ?_) hL hM ((List.perm_ext_iff_of_nodup (nd L hL) (nd M hM)).2 h)
  have := bb_trans h1 h2; rw [bb_irrefl] at this; cases this
theorem names_one (l : List Nm) : cmpL (l.mergeSort fun x y => decide (x ≤ y)) = wths [] l := by
  refine ssrt_ext (cmpL_srt _ (List.pairwise_mergeSort (fun a b c h1 h2 => ?_) (fun a b => ?_) l)) (wths_srt l [] (by simp [SSrt])) (fun s => ?_)
  · simp only [decide_eq_true_eq] at *; exact Std.le_trans h1 h2
  · have := Std.le_total (a := a) (b := b); simpa [Bool.or_eq_true] using this
  · rw [cmpL_mem, wths_mem]; simp [(List.mergeSort_perm l _).mem_iff]
end Go.Proofs.Ytkiojnledimihaa

/- The statements' own functions: some drives (some), the same file for each (each). -/
namespace Go.Proofs.Ytkiojnledimihaa
open Go Go.RowKit Go.Shelf

theorem own_get {w : World} {B n : Nat} {t : TypeId} {v : Value} {xs : List Value} (h : w.ownsRow B t 1 v n xs) (h0 : 0 < n) : ∃ g c, v = .slice (some ⟨g, 0, none⟩) n c ∧ n ≤ c ∧ B ≤ g ∧ ∀ j, j < n → w.cell? ⟨g, j, none⟩ = xs[j]? := by
  rcases h.2 with ⟨rfl, h0'⟩ | ⟨g, cap, cur, rfl, hB, hg, h1, _, h3, h4⟩
  · omega
  have hc : CAt w g cur t := hg
  refine ⟨g, cap, rfl, h1, hB, fun j hj => ?_⟩
  rw [hc.cell, ← h4, List.getElem?_take, if_pos (by omega)]
  simp
end Go.Proofs.Ytkiojnledimihaa

/- The document's with: rising texts, with one more. -/
namespace Go.Proofs.Ytkiojnledimihaa
open Go Go.RowKit Go.Shelf

theorem wth_at : ∀ (l : List Nm) (s : Nm) (n : Nat), n ≤ l.length → (∀ i, i < n → bytesBefore (l.getD i []) s = true) → (n < l.length → bytesBefore (l.getD n []) s = false) → wth l s = if n < l.length ∧ l.getD n [] = s then l else l.take n ++ [s] ++ l.drop n
  | [], s, n, hn, _, _ => by simp at hn; subst hn; simp [wth]
  | y :: r, s, 0, _, _, h2 => by
    have := h2 (by simp)
    simp only [List.getD_cons_zero] at this
    unfold wth; rw [if_neg (by simp [this])]
    by_cases e : y = s
    · rw [if_pos e, if_pos ⟨by simp, by simpa using e⟩]
    · rw [if_neg e, if_neg (fun h => e (by simpa using h.2))]; simp
  | y :: r, s, n + 1, hn, h1, h2 => by
    have h0 := h1 0 (by omega)
    simp only [List.getD_cons_zero] at h0
    have ih := wth_at r s n (by simpa using hn) (fun i hi => by have := h1 (i + 1) (by omega); simpa using this) (fun h => by have := h2 (by simp only [List.length_cons]; omega); simpa using this)
    unfold wth; rw [if_pos h0, ih]
    by_cases e : n < r.length ∧ r.getD n [] = s
    · rw [if_pos e, if_pos ⟨by simp only [List.length_cons]; omega, by simpa using e.2⟩]
    · rw [if_neg e, if_neg (fun h => e ⟨by have := h.1; simp only [List.length_cons] at this; omega, by simpa using h.2⟩)]; simp
/-- append(v, s...) of texts that lie anywhere, or of none. -/
theorem TxtL.app {B : Nat} {w : World} {v : Value} {ns : List Nm} (h : TxtL B w v ns) (po : Option Addr) (m c : Nat) (ms : List Nm) (hm : ms.length = m) (hx : (po = none ∧ m = 0 ∧ c = 0) ∨ ∃ b o, po = some ⟨b, o, none⟩ ∧ ∀ i, i < m → w.cell? ⟨b, o + i, none⟩ = some (sv (ms.getD i []))) (hn : ns.length + m ≤ 1000000000) (hB : B ≤ w.heap.size) :
    ∃ v' w', (Builtin.append_ #[30, 30] 30 #[v, .slice po m c]).run Try.prog w = .ok v' w' ∧ TxtL B w' v' (ns ++ ms) ∧ w.grownBy w' v.ownBlock ∧ (v'.ownBlock = v.ownBlock ∨ v'.ownBlock = some w.heap.size) := by
  obtain ⟨i0, hi0, hz0, hz1, hz2⟩ := info_parts Try.info9
  rcases hx with ⟨rfl, rfl, rfl⟩ | ⟨b, o, rfl, hc⟩
  · refine ⟨v, w, run_append_owned_none (P := Try.prog) (w := w) B 30 30 9 i0 1 Try.underlying30 hi0 v ns.length (ns.map sv) h, ?_, ⟨rfl, rfl, rfl, Nat.le_refl _, fun _ _ _ => rfl⟩, .inl rfl⟩
    rw [List.length_eq_zero_iff.1 hm, List.append_nil]; exact h
  · obtain ⟨v', w', hr, h3, h4, _, h5⟩ := run_append_own_at (P := Try.prog) w B 30 30 9 i0 (.string ⟨#[]⟩) 1 16 Try.underlying30 hi0 hz0 hz1 hz2 rfl (by decide) v ns.length (ns.map sv) h ⟨b, o, none⟩ m c (ms.map sv) (by simp [hm]) (fun j u hj => by
      rw [List.getElem?_map] at hj
      obtain ⟨x, hx, rfl⟩ := Option.map_eq_some_iff.1 hj
      have hjl : j < ms.length := (List.getElem?_eq_some_iff.1 hx).1
      rw [add_none, hc j (by omega), List.getD_eq_getElem?_getD, hx]; rfl) (by intro u hu; obtain ⟨x, _, rfl⟩ := List.mem_map.1 hu; rfl) (by unfold maxLen; omega) (by omega) hB
    refine ⟨v', w', hr, ?_, h4, h5⟩
    unfold TxtL
    rw [List.length_append, List.map_append, hm]; exact h3
theorem tx_new0 (w : World) : TxtL w.heap.size (w.alloc (.cells #[] 9)) (.slice (some ⟨w.heap.size, 0, none⟩) 0 0) [] :=
  ⟨rfl, Or.inr ⟨w.heap.size, 0, #[], rfl, Nat.le_refl _, (CAt.made w _ _), Nat.le_refl _, Nat.zero_le _, rfl, rfl⟩⟩
theorem tx_cells {B : Nat} {w : World} {g n c : Nat} {l : List Nm} (h : TxtL B w (.slice (some ⟨g, 0, none⟩) n c) l) : ∀ j, j < l.length → w.cell? ⟨g, j, none⟩ = some (sv (l.getD j [])) := fun j hj => by
  obtain ⟨g', c', e, _, _, hc⟩ := own_get h (by omega)
  cases e
  rw [hc j hj, List.getElem?_map, List.getElem?_eq_getElem hj, getD_in _ _ _ hj]; rfl
def WthAt (B : Nat) (w : World) (l : List Nm) (e : Ending) (w' : World) : Prop := ∃ po c, e = .returned (.slice po l.length c) ∧ TxtL B w' (.slice po l.length c) l ∧ Below w.heap.size w w'
/-- What the three appends make. -/
theorem with_runs {B : Nat} {w : World} {l : List Nm} (hl : l.length ≤ 1000000) (hB : B ≤ w.heap.size) (s : Nm) (n : Nat) (hn : n ≤ l.length) (p1 p2 : Option Addr) (m2 c1 c2 : Nat) (hm2 : m2 = l.length - n)
    (hx1 : ∀ W, Below w.heap.size w W → (p1 = none ∧ n = 0 ∧ c1 = 0) ∨ ∃ b o, p1 = some ⟨b, o, none⟩ ∧ ∀ i, i < n → W.cell? ⟨b, o + i, none⟩ = some (sv (l.getD i [])))
    (hx2 : ∀ W, Below w.heap.size w W → (p2 = none ∧ m2 = 0 ∧ c2 = 0) ∨ ∃ b o, p2 = some ⟨b, o, none⟩ ∧ ∀ i, i < m2 → W.cell? ⟨b, o + i, none⟩ = some (sv (l.getD (n + i) []))) :
    ∃ v1 w1 v2 w2 v3 w3, (Builtin.append_ #[30, 30] 30 #[.slice (some ⟨w.heap.size, 0, none⟩) 0 0, .slice p1 n c1]).run Try.prog (w.alloc (.cells #[] 9)) = .ok v1 w1 ∧
      (Builtin.append_ #[30, 30] 30 #[v1, .slice (some ⟨w1.heap.size, 0, none⟩) 1 1]).run Try.prog (w1.alloc (.cells #[sv s] 9)) = .ok v2 w2 ∧
      (Builtin.append_ #[30, 30] 30 #[v2, .slice p2 m2 c2]).run Try.prog w2 = .ok v3 w3 ∧ WthAt B w (l.take n ++ [s] ++ l.drop n) (.returned v3) w3 := by
  have b0 : Below w.heap.size w (w.alloc (.cells #[] 9)) := (Below.refl _ _).alloc (Nat.le_refl _) _
  have e1 : (l.take n).length = n := by rw [List.length_take]; omega
  obtain ⟨v1, w1, r1, t1, g1, o1⟩ := (tx_new0 w).app p1 n c1 (l.take n) e1 ((hx1 _ b0).imp_right (fun ⟨b, o, h1, h2⟩ => ⟨b, o, h1, fun i hi => by rw [h2 i hi, List.getD_eq_getElem?_getD, List.getD_eq_getElem?_getD, List.getElem?_take, if_pos hi]⟩)) (by simp; omega) (by simp)
  rw [List.nil_append] at t1
  have b1 : Below w.heap.size w w1 := below_on_grown b0 g1 (fun b hb => by cases hb; exact Nat.le_refl _)
  obtain ⟨v2, w2, r2, t2, g2, o2⟩ := t1.push s (by omega) b1.size
  have b2 : Below w.heap.size w w2 := below_on_grown (below_on _ _ b1 ((Below.refl _ _).alloc (Nat.le_refl _) _)) g2 (fun b hb => (own_ge t1 b hb).1)
  obtain ⟨v3, w3, r3, t3, g3, o3⟩ := t2.app p2 m2 c2 (l.drop n) (by rw [List.length_drop]; omega) ((hx2 _ b2).imp_right (fun ⟨b, o, h1, h2⟩ => ⟨b, o, h1, fun i hi => by rw [h2 i hi, List.getD_eq_getElem?_getD, List.getD_eq_getElem?_getD, List.getElem?_drop]⟩)) (by rw [List.length_append, e1]; simp; omega) b2.size
  have b3 : Below w.heap.size w w3 := below_on_grown b2 g3 (fun b hb => (own_ge t2 b hb).1)
  obtain ⟨po, c, rfl⟩ := own_form t3
  exact ⟨v1, w1, v2, w2, _, w3, r1, r2, r3, po, c, rfl, t3.base hB, b3⟩
end Go.Proofs.Ytkiojnledimihaa
