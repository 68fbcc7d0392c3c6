/- Texts laid into one, cut to what is needed: the remark ahead of each part says what is proved there. -/
import Derived.Test.YtklchjfkkbpipaaGreatDoorPan
import Derived.Test.YtklchjfkkbpipaaGreatDoorPah
import Derived.Deep.QuietTactic
import Derived.BigQuiet
import Derived.Deep.RegionHeld3
import Derived.Test.YtklchjfkkbpipaaGreatDoorPae
import Derived.Lib.SlBytesConst
/- The document's own drives in memory; contracts of out, Up, ready, burns, At and Used of them. -/
namespace Go.Proofs.YtklchjfkkbpipaaGreatDoor
open Go Go.RowKit

def e00 : Nm × Ent := ([], ⟨.slice none 0 0, [], false⟩)
def atL (L : List (Nm × Ent)) (i : Nat) : Nm × Ent := L.getD i e00
def fent (p : Nm × Ent) : List Value := [sv p.1, p.2.v, .bool p.2.l]
def flat : List (Nm × Ent) → List Value
  | [] => []
  | p :: r => sv p.1 :: p.2.v :: .bool p.2.l :: flat r
theorem flat_get : ∀ (L : List (Nm × Ent)) (i j : Nat), i < L.length → j < 3 → (flat L)[i * 3 + j]? = (fent (atL L i))[j]?
  | [], i, _, h, _ => by simp at h
  | p :: r, 0, j, _, hj => by
    have : j = 0 ∨ j = 1 ∨ j = 2 := by omega
    rcases this with rfl | rfl | rfl <;> rfl
  | p :: r, i + 1, j, h, hj => by
    have := flat_get r i j (by simpa using h) hj
    have e : (i + 1) * 3 + j = (i * 3 + j) + 3 := by omega
    rw [e]
    show (sv p.1 :: p.2.v :: .bool p.2.l :: flat r)[i * 3 + j + 3]? = _
    simpa [atL] using this
def rcells (v : Value) (fu : Option Nat) (d : Pd) : Array Value := #[.int .i64 (d.size : Int), v, .bool d.offl, .bool d.full, .bool d.out, fuV fu, .int .i64 (d.ops : Int)]
/-- A drive of the document's lies at block q, its files in the row v. -/
structure RfC (w : World) (R : Nat → Prop) (q : Nat) (v : Value) (fu : Option Nat) (d : Pd) (L : List (Nm × Ent)) : Prop where
  c : CAt w q (rcells v fu d) 101
  ow : w.ownsRow 0 153 3 v L.length (flat L)
  fs : d.F = gmap Ent.fi L
  by_ : ∀ x ∈ L, w.ownsRow 0 5 1 x.2.v x.2.b.length (x.2.b.map u8)
  sp : R q
  rv : ∀ b, v.ownBlock = some b → R b
  rb : ∀ x ∈ L, ∀ b, x.2.v.ownBlock = some b → R b
  lt : ∀ b, R b → b < w.heap.size
/-- A fuse of the document's, outside R. -/
def FuR (w : World) (R : Nat → Prop) : Option Nat → Fs → Prop
  | none, none => True
  | some q, some (n, g) => CAt w q #[.int .i64 (n : Int), .bool g] 155 ∧ ¬ R q ∧ n ≤ 9223372036854775807
  | _, _ => False
section
variable {w w' : World} {R : Nat → Prop} {q : Nat} {v : Value} {fu : Option Nat} {d : Pd} {L : List (Nm × Ent)} {f : Fs}
theorem RfC.keep (h : RfC w R q v fu d L) (hs : w.heap.size ≤ w'.heap.size) (hk : ∀ b, R b → w'.heap[b]? = w.heap[b]?) : RfC w' R q v fu d L :=
  { h with c := h.c.keep (hk q h.sp), ow := ownsRow_keep h.ow fun b hb => hk b (h.rv b hb), by_ := fun x hx => ownsRow_keep (h.by_ x hx) fun b hb => hk b (h.rb x hx b hb), lt := fun b hb => Nat.lt_of_lt_of_le (h.lt b hb) hs }
theorem RfC.below (h : RfC w R q v fu d L) (hb : Below w.heap.size w w') : RfC w' R q v fu d L := h.keep hb.size fun b hR => hb.block b (h.lt b hR)
theorem RfC.alloc (h : RfC w R q v fu d L) (o : Obj) : RfC (w.alloc o) R q v fu d L := h.below ((Below.refl _ _).alloc (Nat.le_refl _) _)
theorem FuR.keep : ∀ {fu : Option Nat} {f : Fs}, FuR w R fu f → (∀ q, fu = some q → w'.heap[q]? = w.heap[q]?) → FuR w' R fu f
  | none, none, _, _ => trivial
  | some q, some (_, _), h, hk => ⟨h.1.keep (hk q rfl), h.2⟩
theorem FuR.lt : ∀ {fu : Option Nat} {f : Fs}, FuR w R fu f → ∀ q, fu = some q → q < w.heap.size
  | some q, some (_, _), h, _, e => by cases e; exact h.1.lt
theorem FuR.ne : ∀ {fu : Option Nat} {f : Fs}, FuR w R fu f → ∀ q, fu = some q → ¬ R q
  | some q, some (_, _), h, _, e => by cases e; exact h.2.1
theorem FuR.below (h : FuR w R fu f) (hb : Below w.heap.size w w') : FuR w' R fu f := h.keep fun q e => hb.block q (h.lt q e)
theorem FuR.alloc (h : FuR w R fu f) (o : Obj) : FuR (w.alloc o) R fu f := h.below ((Below.refl _ _).alloc (Nat.le_refl _) _)
theorem RfC.at (h : RfC w R q v fu d L) {i : Nat} (hi : i < L.length) : ∃ g c, v = .slice (some ⟨g, 0, none⟩) L.length c ∧ w.cell? ⟨g, i * 3, none⟩ = some (sv (atL L i).1) ∧ w.cell? ⟨g, i * 3 + 1, none⟩ = some (atL L i).2.v ∧ w.cell? ⟨g, i * 3 + 2, none⟩ = some (.bool (atL L i).2.l) ∧ ∀ j, w.frozen? ⟨g, j, none⟩ = false := by
  rcases h.ow.2 with ⟨_, h0⟩ | ⟨g, cap, cur, rfl, _, hg, h1, _, h3, h4⟩
  · omega
  · have hc : CAt w g cur 153 := hg
    have get : ∀ j, j < 3 → w.cell? ⟨g, i * 3 + j, none⟩ = (fent (atL L i))[j]? := fun j hj => by
      rw [hc.cell, ← flat_get L i j hi hj, ← h4, List.getElem?_take, if_pos (by omega)]
      simp
    exact ⟨g, cap, rfl, get 0 (by omega), get 1 (by omega), get 2 (by omega), fun j => hc.free j⟩
end
end Go.Proofs.YtklchjfkkbpipaaGreatDoor

/- Contracts of ready, At and Used of the document's drives. -/
namespace Go.Proofs.YtklchjfkkbpipaaGreatDoor
open Go Go.RowKit
section
variable {w w' : World} {R : Nat → Prop} {q : Nat} {v : Value} {fu : Option Nat} {d : Pd} {L : List (Nm × Ent)} {f : Fs}
/-- A row of bytes or files does not lie where a drive lies. -/
theorem RfC.ne_q (h : RfC w R q v fu d L) {t s n : Nat} {u : Value} {xs : List Value} (ho : w.ownsRow 0 t s u n xs) (ht : t ≠ 101) : ∀ b, u.ownBlock = some b → b ≠ q := fun b hb e => by
  rcases ho.2 with ⟨rfl, _⟩ | ⟨g, cap, cur, rfl, _, hg, _⟩
  · cases hb
  · cases hb
    have h2 : w.heap[q]? = _ := h.c
    have e' : g = q := e
    rw [e', h2] at hg
    cases hg
    exact ht rfl
theorem RfC.setq (h : RfC w R q v fu d L) (i : Nat) (x : Value) {fu2 : Option Nat} {d2 : Pd} (hc : (rcells v fu d).setIfInBounds i x = rcells v fu2 d2) (hF : d2.F = d.F) : RfC (w.setCell ⟨q, i, none⟩ x) R q v fu2 d2 L := by
  have own : ∀ {t s n : Nat} {u : Value} {xs : List Value}, w.ownsRow 0 t s u n xs → t ≠ 101 → (w.setCell ⟨q, i, none⟩ x).ownsRow 0 t s u n xs := fun ho ht => ownsRow_keep ho fun b hb => heap_setCell_ne _ _ _ _ (h.ne_q ho ht b hb)
  exact ⟨by have := h.c.set i x; rw [hc] at this; exact this, own h.ow (by decide), hF.trans h.fs, fun x hx => own (h.by_ x hx) (by decide), h.sp, h.rv, h.rb, fun b hb => by rw [setCell_size]; exact h.lt b hb⟩
end
end Go.Proofs.YtklchjfkkbpipaaGreatDoor

/- Contracts of Used and without of the document's drives. -/
namespace Go.Proofs.YtklchjfkkbpipaaGreatDoor
open Go Go.RowKit

/-- Files that lie in a row of their own. -/
def FilL (B : Nat) (w : World) (v : Value) (L : List (Nm × Ent)) : Prop := w.ownsRow B 153 3 v L.length (flat L)
theorem FilL.below {B : Nat} {w w' : World} {v : Value} {L : List (Nm × Ent)} (h : FilL B w v L) (hb : Below w.heap.size w w') : FilL B w' v L := ownsRow_keep h fun b hb' => hb.block b (own_ge h b hb').2
section
variable {w w' : World} {R : Nat → Prop} {q : Nat} {v : Value} {fu : Option Nat} {d : Pd} {L : List (Nm × Ent)} {f : Fs}
theorem RfC.slice (h : RfC w R q v fu d L) {x : Nm × Ent} (hx : x ∈ L) : ∃ po c, x.2.v = .slice po x.2.b.length c := own_form (h.by_ x hx)
end
end Go.Proofs.YtklchjfkkbpipaaGreatDoor

/- Contract of with of the document's drives. -/
namespace Go.Proofs.YtklchjfkkbpipaaGreatDoor
open Go Go.RowKit

theorem FilL.at {B : Nat} {w : World} {v : Value} {L : List (Nm × Ent)} (h : FilL B w v L) {i : Nat} (hi : i < L.length) : ∃ g c, v = .slice (some ⟨g, 0, none⟩) L.length c ∧ w.cell? ⟨g, i * 3, none⟩ = some (sv (atL L i).1) ∧ w.cell? ⟨g, i * 3 + 1, none⟩ = some (atL L i).2.v ∧ w.cell? ⟨g, i * 3 + 2, none⟩ = some (.bool (atL L i).2.l) ∧ ∀ j, w.frozen? ⟨g, j, none⟩ = false := by
  rcases h.2 with ⟨_, h0⟩ | ⟨g, cap, cur, rfl, _, hg, h1, _, h3, h4⟩
  · omega
  · have hc : CAt w g cur 153 := hg
    have get : ∀ j, j < 3 → w.cell? ⟨g, i * 3 + j, none⟩ = (fent (atL L i))[j]? := fun j hj => by
      rw [hc.cell, ← flat_get L i j hi hj, ← h4, List.getElem?_take, if_pos (by omega)]
      simp
    exact ⟨g, cap, rfl, get 0 (by omega), get 1 (by omega), get 2 (by omega), fun j => hc.free j⟩
end Go.Proofs.YtklchjfkkbpipaaGreatDoor

/- Contract of Light of the document's own answer. -/
namespace Go.Proofs.YtklchjfkkbpipaaGreatDoor
open Go Go.RowKit

section
variable {w w' : World} {R : Nat → Prop} {q : Nat} {v : Value} {fu : Option Nat} {d : Pd} {L : List (Nm × Ent)} {f : Fs}
theorem RfC.litC (h : RfC w R q v fu d L) (o : Bool) (z : Nat) : RfC ((w.setCell ⟨q, 4, none⟩ (.bool o)).setCell ⟨q, 5, none⟩ (ptr z)) R q v (some z) { d with out := o } L :=
  (h.setq 4 (.bool o) (d2 := { d with out := o }) (fu2 := fu) rfl rfl).setq 5 (ptr z) (d2 := { d with out := o }) (fu2 := some z) rfl rfl
theorem FuR.ne_drive (hf : FuR w R fu f) {p : Nat} {cs : Array Value} (hc : CAt w p cs 101) : ∀ z, fu = some z → z ≠ p := by
  intro z hz e
  match fu, f, hf with
  | some z2, some (n, g), hf =>
    cases hz
    have h1 : w.heap[z]? = _ := hf.1
    have h2 : w.heap[p]? = _ := hc
    rw [e, h2] at h1
    have ht := (Obj.cells.inj (Option.some.inj h1)).2.1
    revert ht; decide
theorem RfC.box_ne (h : RfC w R q v fu d L) {b : Nat} {cs : Array Value} {t : TypeId} (hc : CAt w b cs t) (ht : t ≠ 101) : b ≠ q := fun e => by
  have h1 : w.heap[q]? = _ := h.c
  have h2 : w.heap[b]? = _ := hc
  rw [e, h1] at h2
  exact ht (Obj.cells.inj (Option.some.inj h2)).2.1.symm
variable {R2 : Nat → Prop} {q2 : Nat} {v2 : Value} {fu2 : Option Nat} {d2 : Pd} {L2 : List (Nm × Ent)} {f2 : Fs}
end
end Go.Proofs.YtklchjfkkbpipaaGreatDoor

/- Bytes in memory; contracts of SameBytes, LentBytes and KeptBytes of the statements' kit. -/
namespace Go.Proofs.YtklchjfkkbpipaaGreatDoor
open Go.RowKit

/-- A row of n bytes lies at block b from o on. -/
def RowAt (w : World) (b o n : Nat) (x : Nat → Nat) : Prop := ∀ i, i < n → w.cell? ⟨b, o + i, none⟩ = some (.int .u8 (x i : Nat))
/-- The world w has one block more than w0 has: n bytes, x, which may be written; what was there is as it was. -/
structure NewRow (w0 w : World) (n : Nat) (x : Nat → Nat) : Prop where
  size : w.heap.size = w0.heap.size + 1
  below : Below w0.heap.size w0 w
  cells : ∀ i, i < n → w.cell? ⟨w0.heap.size, i, none⟩ = some (.int .u8 (x i : Nat))
  free : ∀ i, w.frozen? ⟨w0.heap.size, i, none⟩ = false

theorem madeCells_get (z : Value) (n i : Nat) (h : i < n) : (madeCells #[z] n)[i]? = some z := by
  simp [madeCells, h, Nat.mod_one]
theorem NewRow.made (w : World) (n : Nat) : NewRow w (w.alloc (.cells (madeCells #[.int .u8 0] n) 5)) n (fun _ => 0) where
  size := by simp
  below := (Below.refl _ _).alloc (Nat.le_refl _) _
  cells := fun i h => by rw [World.cell?_alloc_new, madeCells_get _ _ _ h]; rfl
  free := fun i => World.frozen?_alloc_new _ _ _ _
theorem NewRow.set {w0 w : World} {n : Nat} {x : Nat → Nat} (h : NewRow w0 w n x) (k : Nat) (v : Nat) (hk : k < n) :
    NewRow w0 (w.setCell ⟨w0.heap.size, k, none⟩ (.int .u8 (v : Nat))) n (fun i => if i = k then v else x i) where
  size := by simp [h.size]
  below := h.below.setCell (Nat.le_refl _) _
  cells := fun i hi => by
    by_cases e : i = k
    · subst e
      rw [World.cell?_setCell_same _ _ _ (h.cells i hi)]; simp
    · rw [World.cell?_setCell_other _ _ _ _ (by intro h2; cases h2; exact e rfl), h.cells i hi]; simp [e]
  free := fun i => by rw [World.frozen?_setCell]; exact h.free i
theorem NewRow.congr {w0 w : World} {n : Nat} {x y : Nat → Nat} (h : NewRow w0 w n x) (e : ∀ i, i < n → x i = y i) : NewRow w0 w n y where
  size := h.size
  below := h.below
  cells := fun i hi => by rw [h.cells i hi, e i hi]
  free := h.free

end Go.Proofs.YtklchjfkkbpipaaGreatDoor

/- Contract of SameBytes of the statements' kit: of two slices that read alike it returns true, and leaves the world as it was. -/
namespace Go.Proofs.YtklchjfkkbpipaaGreatDoor
open Go.RowKit

/-- The slice's value leads to n bytes x; one of no byte may lead anywhere. -/
def StrAt (w : World) (p : Option Addr) (n : Nat) (x : Nat → Nat) : Prop := n = 0 ∨ ∃ b o, p = some ⟨b, o, none⟩ ∧ RowAt w b o n x
def strN (n : Nat) (x : Nat → Nat) : ByteArray := strOfNums ((List.range n).map fun i => (x i : Int))
theorem conv_str (w : World) (p : Option Addr) (n c : Nat) (x : Nat → Nat) (h : StrAt w p n x) :
    (convert 30 9 (.slice p n c)).run Tryz.prog w = .ok (.string (strN n x)) w := by
  rcases h with rfl | ⟨b, o, rfl, h⟩
  · rw [run_convert_bytes_string w 30 9 5 _ 0 c Tryz.underlying30 Tryz.underlying5 Tryz.underlying9]
    cases p <;> simp [Conv.bytesToString, loadCells, strN]
    all_goals rfl
  · exact run_convert_bytes_arg w 30 5 Tryz.underlying30 Tryz.underlying5 b o n c _ (by simp) (fun i hi => by rw [h i hi]; simp [List.getD, hi]) 9 Tryz.underlying9

set_option maxHeartbeats 400000 in
theorem same_true (p q : Option Addr) (n c d : Nat) (x : Nat → Nat) (w : World) (hp : StrAt w p n x) (hq : StrAt w q n x) :
    Calls Tryz.prog 64 #[.slice p n c, .slice q n d] w fun e w' => e = .returned (.bool true) ∧ w' = w := by
  have h1 := conv_str w p n c x hp
  have h2 := conv_str w q n d x hq
  go_enter Tryz.func64, Tryz.ntmps64
  go_wp2
  go_ret
  exact ⟨rfl, rfl⟩
end Go.Proofs.YtklchjfkkbpipaaGreatDoor

/- Contract of LentBytes of the statements' kit: a copy of the bytes lies in a new block, with three marked bytes of spare room behind it; what was there is as it was. -/
namespace Go.Proofs.YtklchjfkkbpipaaGreatDoor
open Go.RowKit

end Go.Proofs.YtklchjfkkbpipaaGreatDoor

/- Contract of KeptBytes of the statements' kit: it returns true of a lent list that reads as it was lent. -/
namespace Go.Proofs.YtklchjfkkbpipaaGreatDoor
open Go.RowKit

theorem RowAt.below {B : Nat} {w w' : World} {b o n : Nat} {x : Nat → Nat} (h : RowAt w b o n x) (hb : Below B w w') (hlt : b < B) : RowAt w' b o n x :=
  fun i hi => (hb.cell (p := ⟨b, o + i, none⟩) hlt).trans (h i hi)
theorem NewRow.row {w0 w : World} {n : Nat} {x : Nat → Nat} (h : NewRow w0 w n x) : RowAt w w0.heap.size 0 n x :=
  fun i hi => by rw [Nat.zero_add]; exact h.cells i hi

end Go.Proofs.YtklchjfkkbpipaaGreatDoor

/- SameBools; a set of drives with the list of them; the examples (awake). -/
namespace Go.Proofs.YtklchjfkkbpipaaGreatDoor
open Go Go.RowKit Go.Shelf

/-- Bools in memory. -/
def BoAt (w : World) (v : Value) (n : Nat) (g : Nat → Bool) : Prop := ∃ po c, v = .slice po n c ∧ (n = 0 ∨ ∃ b, po = some ⟨b, 0, none⟩ ∧ ∀ i, i < n → w.cell? ⟨b, i, none⟩ = some (.bool (g i)))
theorem BoAt.below {w w' : World} {v : Value} {n : Nat} {g : Nat → Bool} (h : BoAt w v n g) (hb : Below w.heap.size w w') : BoAt w' v n g := by
  obtain ⟨po, c, rfl, h⟩ := h
  refine ⟨po, c, rfl, ?_⟩
  rcases h with h | ⟨b, rfl, h⟩
  · exact .inl h
  · exact .inr ⟨b, rfl, fun i hi => (World.cell?_of_block (hb.block b (cell_lt2 (h i hi)))).trans (h i hi)⟩
set_option maxHeartbeats 400000 in
theorem sameBools_true (a b : Value) (n : Nat) (g : Nat → Bool) (w : World) (hn : n ≤ 1000) (ha : BoAt w a n g) (hb : BoAt w b n g) :
    Calls Tryz.prog 34 #[a, b] w fun e w' => e = .returned (.bool true) ∧ ∃ k, w' = w.drewN k := by
  obtain ⟨pa, ca, rfl, ha⟩ := ha
  obtain ⟨pb, cb, rfl, hb⟩ := hb
  rcases Nat.eq_zero_or_pos n with h0 | h0
  · subst h0
    clear ha hb
    go_enter Tryz.func34, Tryz.ntmps34
    go_wp2
    refine wp_loop_rounds 1 ?_
    rw [rounds_succ]
    go_wp2
    go_ret
    exact ⟨rfl, 0, rfl⟩
  · rcases ha with h | ⟨ga, rfl, ha⟩
    · omega
    rcases hb with h | ⟨gb, rfl, hb⟩
    · omega
    have HP := hid ha
    have HQ := hid hb
    clear ha hb
    go_enter Tryz.func34, Tryz.ntmps34
    go_wp2
    go_loopw [5] (fun v wr => ∃ i : Nat, i ≤ n ∧ v = .int .i64 (i : Int) ∧ ∃ k, wr = w.drewN k) (fun v _ => (n - intOf v).toNat)
    case atStart => exact ⟨0, by omega, rfl, 0, rfl⟩
    case round =>
      obtain ⟨i, hi, rfl, hw⟩ := hrel
      have HW := hid hw
      have hcell : ∀ a : Addr, wr.cell? a = w.cell? a := by obtain ⟨k, rfl⟩ := hw; intro a; rfl
      have HCE := hid hcell
      clear hw hcell
      by_cases hlt : i < n
      · have c1 := (HCE.out _).trans (HP.out i hlt)
        have c2 := (HCE.out _).trans (HQ.out i hlt)
        have hlt' : (i : Int) < (n : Int) := by omega
        generalize g i = bs at c1 c2
        cases bs <;>
        · go_wp2
          go_quiet (fail)
          go_wp2
          go_roundw
          case rel =>
            refine ⟨i + 1, by omega, by go_num, ?_⟩
            obtain ⟨k, rfl⟩ := HW.out
            first | exact ⟨_, rfl⟩ | exact ⟨k + nq, by simp [World.drewN, Nat.add_assoc]⟩
          case measure => simp [intOf]; omega
      · have hlt' : ¬ (i : Int) < (n : Int) := by omega
        go_wp2
        go_ret
        exact ⟨rfl, HW.out⟩
/-- A set of drives since w, and the list of them. -/
structure DS (w W : World) (T : Nat → Prop) (lv : Value) (k : Nat) (p : Nat → Nat) (X : FS) : Prop where
  fa : FA w W T k p X.d X.f 0
  ls : LsAt W T lv k p
section
variable {w W W' : World} {T : Nat → Prop} {lv : Value} {k : Nat} {p : Nat → Nat} {X X2 : FS}
theorem DS.below (h : DS w W T lv k p X) (hb : Below W.heap.size W W') : DS w W' T lv k p X := ⟨h.fa.below hb, h.ls.keep (fun b hb' _ => hb.block b hb') (fun _ _ h => h)⟩
theorem DS.alloc (h : DS w W T lv k p X) (o : Obj) : DS w (W.alloc o) T lv k p X := h.below ((Below.refl _ _).alloc (Nat.le_refl _) _)
theorem DS.on {T' : Nat → Prop} (h : DS w W T lv k p X) (hg : Grows W T T') (hf : FA w W' T' k p X2.d X2.f 0) (ho : Only T W W') : DS w W' T' lv k p X2 :=
  ⟨hf, h.ls.keep (fun b hb hn => ho.block b hb hn) (fun b hb ht => (hg.2 b ht).elim id (fun hl => by omega))⟩
/-- Another set's call. -/
theorem DS.only {Y : Nat → Prop} (h : DS w W T lv k p X) (ho : Only Y W W') (hY : ∀ b, Y b → w.heap.size ≤ b) (hT : ∀ b, T b → ¬ Y b) (hL : ∀ b c, lv = .slice (some ⟨b, 0, none⟩) k c → ¬ Y b) : DS w W' T lv k p X := by
  refine ⟨h.fa.only ho (fun b hb hy => by have := hY b hy; omega) hT, ⟨?_⟩⟩
  rcases h.ls.ex with h1 | ⟨h0, b, c, h1, h2, h3⟩
  · exact .inl h1
  · exact .inr ⟨h0, b, c, h1, h2, fun j hj => (World.cell?_of_block (a := ⟨b, j, none⟩) (ho.block b (cell_lt2 (h3 j hj)) (hL b c h1))).trans (h3 j hj)⟩
theorem DS.cell (h : DS w W T lv k p X) (hk : 0 < k) : ∃ b c, lv = .slice (some ⟨b, 0, none⟩) k c ∧ ¬ T b ∧ ∀ j, j < k → W.cell? ⟨b, j, none⟩ = some (ptr (p j)) := by
  rcases h.ls.ex with ⟨h1, _⟩ | ⟨h0, h1⟩
  · omega
  · exact h1
theorem DS.read (h : DS w W T lv k p X) {i : Nat} (hi : i < k) (s : Nm) (hs : s.length ≤ maxLen) : Calls Tryz.prog 32 #[ptr (p i), sv s] W (ReadAt W ((X.d i).readE X.f s) ((X.d i).readB X.f s)) := h.fa.look hi fun _ _ _ _ hd hf => read_any hd hf s hs
theorem DS.loose (h : DS w W T lv k p X) {i : Nat} (hi : i < k) (hl : (X.d i).F.length < 1000000000000) : Calls Tryz.prog 60 #[ptr (p i)] W (NamesAt W (X.d i).loose) := h.fa.look hi fun _ _ _ _ hd _ => loose_any hd hl
end
theorem fl_map (fv : FsV) : fv.fl = fun i => (fv.l.map RowV.fl).getD i [] := by
  funext i
  unfold FsV.fl
  by_cases h : i < fv.l.length
  · rw [getD_in _ _ _ h, getD_in _ _ _ (by simpa using h)]; simp
  · simp only [List.getD]
    rw [List.getElem?_eq_none (by omega), List.getElem?_eq_none (by simp; omega)]; rfl
/-- What a Commit of a set answers and leaves. -/
def ComAt (w W : World) (T : Nat → Prop) (lv : Value) (k : Nat) (p : Nat → Nat) (r : Nat × (Nat → Bool) × FS) (e : Ending) (W' : World) : Prop :=
  ∃ v T', e = .returned (.tuple #[v, .int .i64 (r.1 : Int)]) ∧ Grows W T T' ∧ DS w W' T' lv k p r.2.2 ∧ Only T W W' ∧ ((r.1 ≠ 0 ∧ v = .slice none 0 0) ∨ (r.1 = 0 ∧ BoAt W' v k r.2.1))
def comM (k : Nat) (fl : List (List Fl)) (need : Int) (X : FS) : Nat × (Nat → Bool) × FS :=
  if comE k fl need ≠ 0 then (comE k fl need, fun _ => false, X) else com (fun i => fl.getD i []) k need X
theorem DS.commit {w W : World} {T : Nat → Prop} {lv : Value} {k : Nat} {p : Nat → Nat} {X : FS} (h : DS w W T lv k p X) (hE : Erh w) (hk : k ≤ 1000) (hB : ∀ i, i < k → Bnd 1000000000 1000000000 (X.d i)) (fv : FsV) (hf : fv.ok W T) (hfl : fv.l.length ≤ 1000) (h8 : ∀ r ∈ fv.l, r.l.length ≤ 1000) (need : Int) :
    Calls Tryz.prog 15 #[lv, fv.v, .int .i64 need] W (ComAt w W T lv k p (comM k (fv.l.map RowV.fl) need X)) := by
  refine (commit_any h.fa h.ls hk hE hB fv hf hfl h8 need).mono ?_
  have e : comR k fv need X = comM k (fv.l.map RowV.fl) need X := by unfold comR comM; rw [fl_map]
  rw [e]
  rintro e W' ⟨v, T', h1, h2, h3, h4, h5⟩
  refine ⟨v, T', h1, h2, h.on h2 h3 h4, h4, h5.elim .inl fun ⟨q1, bw, q2, q3, _⟩ => .inr ⟨q1, _, _, q2, .inr ⟨bw, rfl, fun i hi => (q3 i hi).1⟩⟩⟩
/-- The chapter's files: a with xy on each of three. -/
def xy3 : List (List Fl) := List.replicate 3 [([97], [120, 121])]
def awR : Nat × (Nat → Bool) × FS := comM 3 xy3 2 ⟨fun _ => fresh 100, none⟩
theorem awR_e : awR.1 = 0 := by decide
theorem awR_w : ∀ i, i < 3 → awR.2.1 i = true := by decide
theorem awR_r : (awR.2.2.d 2).readE awR.2.2.f [97] = 0 := by decide
theorem awR_b : (awR.2.2.d 2).readB awR.2.2.f [97] = [120, 121] := by decide
theorem awR_l : (awR.2.2.d 0).loose = [] := by decide
theorem awR_n : (awR.2.2.d 0).F.length = 1 := by decide
theorem Erh.on {w w' : World} (h : Erh w) (hb : Below w.heap.size w w') : Erh w' := h.below hb h.lt
theorem bat_str {w : World} {po : Option Addr} {bs : List Nat} (h : BAt w po bs) (hn : ∀ b o m, po = some ⟨b, o, m⟩ → m = none) : StrAt w po bs.length (fun i => bs.getD i 0) := by
  rcases h with ⟨_, rfl⟩ | ⟨a, rfl, h⟩
  · exact .inl rfl
  · obtain ⟨b, o, m⟩ := a
    have : m = none := hn _ _ _ rfl
    subst this
    exact .inr ⟨b, o, rfl, fun i hi => by have := h i hi; rw [add_none] at this; exact this⟩
theorem own_str {w : World} {B : Nat} {po : Option Addr} {n c : Nat} {bs : List Nat} (h : w.ownsRow B 5 1 (.slice po n c) bs.length (bs.map u8)) : StrAt w po bs.length (fun i => bs.getD i 0) := by
  have hat := own_BAt h
  refine bat_str hat fun b o m e => ?_
  rcases h.2 with ⟨e2, _⟩ | ⟨g, cap, cur, e2, _⟩
  · cases e2; cases e
  · cases e2; cases e; rfl
theorem StrAt.below {w w' : World} {po : Option Addr} {n : Nat} {x : Nat → Nat} (h : StrAt w po n x) (hb : Below w.heap.size w w') : StrAt w' po n x := by
  rcases h with h | ⟨b, o, rfl, h⟩
  · exact .inl h
  · exact .inr ⟨b, o, rfl, fun i hi => (World.cell?_of_block (hb.block b (cell_lt2 (h i hi)))).trans (h i hi)⟩
/-- Bytes of a literal as a file's. -/
theorem xyok (W : World) (T : Nat → Prop) (hT : ∀ b, T b → b < W.heap.size) (nm : Nm) (hn : nm.length ≤ 1000) (c : Nat) (fr : Nat × Nat) : (⟨nm, some ⟨W.heap.size, 0, none⟩, c, [120, 121]⟩ : FlV).ok (W.alloc (.cells #[.int .u8 120, .int .u8 121] 5 fr)) T :=
  ⟨by unfold maxLen; show nm.length ≤ _; omega, fun y hy => by simp at hy; omega, by simp, lit_at W _ rfl [120, 121] fr, fun a e _ ht => by cases e; have := hT _ ht; simp at this⟩
theorem xystr (W : World) (fr : Nat × Nat) : StrAt (W.alloc (.cells #[.int .u8 120, .int .u8 121] 5 fr)) (some ⟨W.heap.size, 0, none⟩) 2 (fun i => ([120, 121] : List Nat).getD i 0) := bat_str (bs := [120, 121]) (lit_at W _ rfl [120, 121] fr) (fun b o m e => by cases e; rfl)
theorem bo3 (W : World) (a b c : Bool) (g : Nat → Bool) (h0 : g 0 = a) (h1 : g 1 = b) (h2 : g 2 = c) (cc : Nat) : BoAt (W.alloc (.cells #[.bool a, .bool b, .bool c] 4)) (.slice (some ⟨W.heap.size, 0, none⟩) 3 cc) 3 g := by
  refine ⟨_, _, rfl, .inr ⟨_, rfl, fun i hi => ?_⟩⟩
  rw [(CAt.made W _ _).cell]
  have : i = 0 ∨ i = 1 ∨ i = 2 := by omega
  rcases this with rfl | rfl | rfl <;> simp [h0, h1, h2]
set_option maxHeartbeats 2000000 in
set_option maxRecDepth 100000 in
theorem fawake_any (w : World) (hE : Erh w) : Calls Tryz.prog 20 #[] w fun e w' => e = .returned (.bool true) ∧ Below w.heap.size w w' := by
  have HS := hid (some_any w w (Below.refl _ _) 3 100 (by omega) (by omega) (by omega))
  have HE := hid hE
  clear hE
  have hcv := fun (w : World) (C : Array Value) (n c : Nat) => Lib.run_convert_bytes_const (P := Tryz.prog) w 30 5 C n c Tryz.underlying30 Tryz.underlying5
  have HC : Hid (∀ W T lv p (fv : FsV), DS w W T lv 3 p ⟨fun _ => fresh 100, none⟩ → fv.ok W T → fv.l.map RowV.fl = xy3 → Calls Tryz.prog 15 #[lv, fv.v, .int .i64 2] W (ComAt w W T lv 3 p awR)) := fun W T lv p fv hD hf hm => by
    have := hD.commit HE.out (by omega) (fun i _ => ⟨Nat.zero_le _, Nat.zero_le _⟩) fv hf (by have := congrArg List.length hm; simp [xy3] at this; omega) (fun r hr => by
      have : r.fl ∈ fv.l.map RowV.fl := List.mem_map_of_mem hr
      rw [hm] at this
      simp [xy3, RowV.fl] at this
      obtain ⟨a, h1, _⟩ := this
      rw [h1]; simp) 2
    rw [hm] at this
    exact this
  go_enter Tryz.func20, Tryz.ntmps20
  go_upto_region 5 with (first
    | (go_at_call 21; refine HS.out.mono ?_; rintro e w1 ⟨lv, p, T1, rfl, hfa, hls, hb1, -⟩; have HD1 := hid (show DS w w1 T1 lv 3 p ⟨fun _ => fresh 100, none⟩ from ⟨hfa, hls⟩); clear hfa hls hb1)
    | (go_at_call 33; refine (leach_any _ T1 (fun b hb => by have := HD1.out.fa.lt b hb; simp; omega) ⟨[97], some ⟨w1.heap.size, 0, none⟩, 2, [120, 121]⟩ (xyok w1 T1 HD1.out.fa.lt [97] (by simp) 2 _) 3 (by omega) (by omega)).mono ?_; rintro e w2 ⟨fv, rfl, hf2, hm2, hb2⟩; have HD2 := hid ((HD1.out.alloc _).below hb2); have HF2 := hid hf2; have HM2 := hid hm2; clear hf2 hm2 hb2)
    | (go_at_call 15; refine (HC.out _ _ _ _ _ HD2.out HF2.out HM2.out).mono ?_; rintro e w3 ⟨av, T3, rfl, hg3, hd3, -, hr3⟩; have HD3 := hid hd3; have HR3 := hid hr3; clear hg3 hd3 hr3; rw [awR_e]))
  have HAV : Hid (BoAt w3 av 3 awR.2.1) := HR3.out.elim (fun h => absurd awR_e h.1) (fun h => h.2)
  obtain ⟨gl, cl, hlv, -, hcl⟩ := HD3.out.cell (by omega)
  subst hlv
  have c2 := hcl 2 (by omega)
  have c0 := hcl 0 (by omega)
  have HC0 := hid c0
  have HRD := hid (fun W (h : DS w W T3 (.slice (some ⟨gl, 0, none⟩) 3 cl) 3 p awR.2.2) => h.read (i := 2) (by omega) [97] (by unfold maxLen; simp))
  have HLO := hid (fun W (h : DS w W T3 (.slice (some ⟨gl, 0, none⟩) 3 cl) 3 p awR.2.2) => h.loose (i := 0) (by omega) (by rw [awR_n]; omega))
  rw [awR_r, awR_b] at HRD
  rw [awR_l] at HLO
  obtain ⟨pav, cav, hav, -⟩ := HAV.out
  subst hav
  clear hcl c0 HR3 HD2 HD1 HF2 HM2 HC HS
  go_wp2_with (first
    | (go_at_call 32; refine (HRD.out _ HD3.out).mono ?_; rintro e w4 ⟨pr, cr, rfl, ho4, hb4⟩; have HD4 := hid (HD3.out.below hb4); have HV4 := hid (HAV.out.below hb4); have HB4 := hid (own_str ho4); clear ho4 hb4 c2)
    | (go_at_call 34; refine (sameBools_true _ _ 3 awR.2.1 _ (by omega) (HV4.out.below ((Below.refl _ _).alloc (Nat.le_refl _) _)) (bo3 _ true true true _ (awR_w 0 (by omega)) (awR_w 1 (by omega)) (awR_w 2 (by omega)) _)).mono ?_; rintro e w5 ⟨rfl, k5, hw5⟩; have HD5 : Hid (DS w w5 _ _ 3 p awR.2.2) := hid (by rw [hw5]; exact (HD4.out.alloc _).below (below_drewN _ k5)); have HB5 : Hid (StrAt w5 pr 2 _) := hid (by rw [hw5]; exact (HB4.out.below ((Below.refl _ _).alloc (Nat.le_refl _) _)).below (below_drewN _ k5)); clear hw5)
    | (go_at_call 64; refine (same_true _ _ 2 _ _ _ _ (HB5.out.below ((Below.refl _ _).alloc (Nat.le_refl _) _)) (xystr _ _)).mono ?_; rintro e w6 ⟨rfl, hw6⟩; have HD6 : Hid (DS w w6 _ _ 3 p awR.2.2) := hid (by rw [hw6]; exact (HD5.out.alloc _)); clear hw6; have c0 : w6.cell? ⟨gl, 0, none⟩ = some (ptr (p 0)) := (by obtain ⟨b', c', e', _, hh⟩ := HD6.out.cell (by omega); cases e'; exact hh 0 (by omega)))
    | (go_at_call 60; refine (HLO.out _ HD6.out).mono ?_; rintro e w7 ⟨pl, cl7, rfl, -, hb7⟩; have HD7 := hid (HD6.out.below hb7); clear hb7))
  go_ret
  exact ⟨rfl, HD7.out.fa.be⟩
end Go.Proofs.YtklchjfkkbpipaaGreatDoor

/- Drives of which one is none: what all calls answer. The walk of FanNone. -/
namespace Go.Proofs.YtklchjfkkbpipaaGreatDoor
open Go Go.RowKit Go.Shelf

/-- A list of two: a drive, and none. -/
structure NoL (W : World) (v : Value) : Prop where
  ex : ∃ b q a S d, v = .slice (some ⟨b, 0, none⟩) 2 2 ∧ W.cell? ⟨b, 0, none⟩ = some (ptr q) ∧ W.cell? ⟨b, 1, none⟩ = some (.pointer a) ∧ DrAt W S q none d ∧ Bare W (.pointer a)
theorem NoL.below {W W' : World} {v : Value} (h : NoL W v) (hb : Below W.heap.size W W') : NoL W' v := by
  obtain ⟨b, q, a, S, d, h1, h2, h3, ⟨m, L, h4⟩, h5⟩ := h.ex
  exact ⟨b, q, a, S, d, h1, (World.cell?_of_block (hb.block b (cell_lt2 h2))).trans h2, (World.cell?_of_block (hb.block b (cell_lt2 h3))).trans h3, ⟨m, L, h4.below hb⟩, h5.below hb⟩
theorem NoL.alloc {W : World} {v : Value} (h : NoL W v) (o : Obj) : NoL (W.alloc o) v := h.below ((Below.refl _ _).alloc (Nat.le_refl _) _)
theorem NoL.form {W : World} {v : Value} (h : NoL W v) : ∃ b, v = .slice (some ⟨b, 0, none⟩) 2 2 := by obtain ⟨b, q, a, S, d, h1, _⟩ := h.ex; exact ⟨b, h1⟩
theorem fuse_none2 {W : World} {v : Value} (h : NoL W v) : Calls Tryz.prog 30 #[v, .int .i64 (-1)] W fun e w' => e = .returned (.int .i64 1) ∧ w' = W := by
  obtain ⟨b, q, a, S, d, rfl, h2, h3, ⟨m, L, h4⟩, h5⟩ := h.ex
  have HM := hid (made_any h4)
  have HA := hid (made_none h5)
  clear h h4 h5
  go_enter Tryz.func30, Tryz.ntmps30
  go_wp2
  refine wp_loop_rounds 2 ?_
  rw [rounds_succ]
  go_wp2_with (go_at_call 93; refine HM.out.mono ?_; rintro e w' ⟨rfl, hw'⟩; have hw2 := hw'.symm; subst hw2)
  rw [rounds_succ]
  go_wp2_with (go_at_call 93; refine HA.out.mono ?_; rintro e w' ⟨rfl, hw'⟩; have hw2 := hw'.symm; subst hw2)
  go_ret
  exact ⟨rfl, by first | rfl | trivial⟩
theorem ckD_none {W : World} {v : Value} (h : NoL W v) : Calls Tryz.prog 65 #[v] W fun e w' => e = .returned (.int .i64 1) ∧ w' = W := by
  have HN : Hid (Calls Tryz.prog 87 #[v] W fun e w' => e = .returned (.bool true) ∧ w' = W) := by
    have HF := hid (fuse_none2 h)
    obtain ⟨b, rfl⟩ := h.form
    clear h
    show Calls _ _ _ _ _
    go_enter Tryz.func87, Tryz.ntmps87
    go_wp2_with (go_at_call 30; refine HF.out.mono ?_; rintro e w' ⟨rfl, hw'⟩; have hw2 := hw'.symm; subst hw2)
    go_ret
    exact ⟨rfl, by first | rfl | trivial⟩
  obtain ⟨b, rfl⟩ := h.form
  clear h
  go_enter Tryz.func65, Tryz.ntmps65
  go_wp2_with (go_at_call 87; refine HN.out.mono ?_; rintro e w' ⟨rfl, hw'⟩; have hw2 := hw'.symm; subst hw2)
  go_ret
  exact ⟨rfl, by first | rfl | trivial⟩
theorem read_nil {W : World} {v : Value} (h : NoL W v) (s : Nm) : Calls Tryz.prog 14 #[v, sv s] W fun e w' => (∃ x, e = .returned (.tuple #[x, .int .i64 1])) ∧ Below W.heap.size W w' := by
  have HC := hid (fun o1 o2 o3 => ckD_none (((h.alloc o1).alloc o2).alloc o3))
  obtain ⟨b, rfl⟩ := h.form
  clear h
  go_enter Tryz.func14, Tryz.ntmps14
  go_wp2_with (go_at_call 65; refine (HC.out _ _ _).mono ?_; rintro e w' ⟨rfl, hw'⟩; have hw2 := hw'.symm; subst hw2)
  refine ⟨rfl, .tuple #[.slice none 0 0, .int .i64 1], ?_, ?_⟩
  · simp [results, Tryz.f14, go_sem]
  · exact ⟨⟨_, rfl⟩, (((Below.refl W.heap.size W).alloc (Nat.le_refl _) _).alloc (by simp only [size_al]; omega) _).alloc (by simp only [size_al]; omega) _⟩
theorem commit_nil {W : World} {v : Value} (h : NoL W v) : Calls Tryz.prog 15 #[v, .slice none 0 0, .int .i64 1] W fun e w' => (∃ x, e = .returned (.tuple #[x, .int .i64 1])) ∧ Below W.heap.size W w' := by
  have HC := hid (ckD_none h)
  obtain ⟨b, rfl⟩ := h.form
  clear h
  have HQ : Hid (Calls Tryz.prog 70 #[.slice (some ⟨b, 0, none⟩) 2 2, .slice none 0 0, .int .i64 1] W fun e w' => e = .returned (.int .i64 1) ∧ w' = W) := by
    show Calls _ _ _ _ _
    go_enter Tryz.func70, Tryz.ntmps70
    go_wp2_with (go_at_call 65; refine HC.out.mono ?_; rintro e w' ⟨rfl, hw'⟩; have hw2 := hw'.symm; subst hw2)
    go_ret
    exact ⟨rfl, by first | rfl | trivial⟩
  go_enter Tryz.func15, Tryz.ntmps15
  go_wp2_with (go_at_call 70; refine HQ.out.mono ?_; rintro e w' ⟨rfl, hw'⟩; have hw2 := hw'.symm; subst hw2)
  go_ret2
  exact ⟨⟨_, rfl⟩, Below.refl _ _⟩
theorem delete_nil {W : World} {v : Value} (h : NoL W v) : Calls Tryz.prog 16 #[v, .slice none 0 0] W fun e w' => (∃ x, e = .returned (.tuple #[x, .int .i64 1])) ∧ Below W.heap.size W w' := by
  have HC := hid (fun o1 => ckD_none (h.alloc o1))
  obtain ⟨b, rfl⟩ := h.form
  clear h
  go_enter Tryz.func16, Tryz.ntmps16
  go_wp2_with (go_at_call 65; refine (HC.out _).mono ?_; rintro e w' ⟨rfl, hw'⟩; have hw2 := hw'.symm; subst hw2)
  go_ret2
  exact ⟨⟨_, rfl⟩, (Below.refl _ _).alloc (Nat.le_refl _) _⟩
theorem clean_nil {W : World} {v : Value} (h : NoL W v) (s : Nm) : Calls Tryz.prog 17 #[v, sv s] W fun e w' => (∃ x, e = .returned (.tuple #[x, .int .i64 1])) ∧ Below W.heap.size W w' := by
  have HC := hid (fun o1 => ckD_none (h.alloc o1))
  obtain ⟨b, rfl⟩ := h.form
  clear h
  go_enter Tryz.func17, Tryz.ntmps17
  go_wp2_with (go_at_call 65; refine (HC.out _).mono ?_; rintro e w' ⟨rfl, hw'⟩; have hw2 := hw'.symm; subst hw2)
  go_ret2
  exact ⟨⟨_, rfl⟩, (Below.refl _ _).alloc (Nat.le_refl _) _⟩
theorem names_nil {W : World} {v : Value} (h : NoL W v) (s : Nm) : Calls Tryz.prog 18 #[v, sv s] W fun e w' => (∃ x, e = .returned (.tuple #[x, .int .i64 1])) ∧ Below W.heap.size W w' := by
  have HC := hid (fun o1 o2 o3 => ckD_none (((h.alloc o1).alloc o2).alloc o3))
  obtain ⟨b, rfl⟩ := h.form
  clear h
  go_enter Tryz.func18, Tryz.ntmps18
  go_wp2_with (go_at_call 65; refine (HC.out _ _ _).mono ?_; rintro e w' ⟨rfl, hw'⟩; have hw2 := hw'.symm; subst hw2)
  refine ⟨rfl, .tuple #[.slice none 0 0, .int .i64 1], ?_, ?_⟩
  · simp [results, Tryz.f18, go_sem]
  · exact ⟨⟨_, rfl⟩, (((Below.refl W.heap.size W).alloc (Nat.le_refl _) _).alloc (by simp only [size_al]; omega) _).alloc (by simp only [size_al]; omega) _⟩
theorem finish_nil {W : World} {v : Value} (h : Bare W v) : Calls Tryz.prog 19 #[v, .slice none 0 0] W fun e w' => e = .returned (.int .i64 1) ∧ Below W.heap.size W w' := by
  have HF := hid (fuse_none (h.below ((Below.refl _ _).alloc (Nat.le_refl _) (.cells #[v] 38))) _ (CAt.made W #[v] 38) (-1))
  obtain ⟨a, rfl⟩ := h.form
  clear h
  have HN : Hid (Calls Tryz.prog 87 #[.slice (some ⟨W.heap.size, 0, none⟩) 1 1] (W.alloc (.cells #[.pointer a] 38)) fun e w' => e = .returned (.bool true) ∧ w' = W.alloc (.cells #[.pointer a] 38)) := by
    show Calls _ _ _ _ _
    generalize W.alloc (.cells #[.pointer a] 38) = W2 at *
    go_enter Tryz.func87, Tryz.ntmps87
    go_wp2_with (go_at_call 30; refine HF.out.mono ?_; rintro e w' ⟨rfl, hw'⟩; have hw2 := hw'.symm; subst hw2)
    go_ret
    exact ⟨rfl, by first | rfl | trivial⟩
  go_enter Tryz.func19, Tryz.ntmps19
  go_wp2_with (go_at_call 87; refine HN.out.mono ?_; rintro e w' ⟨rfl, hw'⟩; have hw2 := hw'.symm; subst hw2)
  go_ret
  exact ⟨rfl, (Below.refl _ _).alloc (Nat.le_refl _) _⟩
structure NI2 (w wr : World) (g b q : Nat) : Prop where
  g : CAt wr g #[.pointer none, ptr b] 38
  z : wr.cell? ⟨b, 0, none⟩ = some (.pointer none)
  dr : ∃ S d, DrAt wr S q none d
  be : Below w.heap.size w wr
theorem NI2.on {w wr w2 : World} {g b q : Nat} (h : NI2 w wr g b q) (hb : Below wr.heap.size wr w2) : NI2 w w2 g b q :=
  ⟨h.g.below hb, (World.cell?_of_block (hb.block _ (cell_lt2 h.z))).trans h.z, by obtain ⟨S, d, m, L, hd⟩ := h.dr; exact ⟨S, d, m, L, hd.below hb⟩, below_on _ _ h.be hb⟩
theorem NI2.nol {w wr : World} {g b q : Nat} (h : NI2 w wr g b q) {a : Option Addr} (hB : Bare wr (.pointer a)) : NoL (wr.alloc (.cells #[ptr q, .pointer a] 38)) (.slice (some ⟨wr.heap.size, 0, none⟩) 2 2) := by
  obtain ⟨S, d, m, L, hd⟩ := h.dr
  exact ⟨_, q, a, S, d, rfl, (CAt.made wr _ _).cell 0, (CAt.made wr _ _).cell 1, ⟨m, L, hd.below ((Below.refl _ _).alloc (Nat.le_refl _) _)⟩, hB.below ((Below.refl _ _).alloc (Nat.le_refl _) _)⟩
set_option maxHeartbeats 4000000 in
set_option maxRecDepth 100000 in
theorem fanNone_walk (s : Nm) (w : World) (hE : Erh w) : Calls Tryz.prog 4 #[sv s] w fun e w' => e = .returned (.bool true) ∧ Below w.heap.size w w' := by
  have HN := hid (new_ok 100 (by omega) (by omega) w)
  have HE := hid hE
  clear hE
  go_enter Tryz.func4, Tryz.ntmps4
  go_upto_region 5 with (go_at_call 13; refine HN.out.mono ?_; rintro e w1 ⟨q, rfl, hd1, hb1⟩; have HD1 := hid hd1; have HB1 := hid hb1; clear hd1 hb1)
  have H0 : Hid (∀ o : Array Value, o[0]? = some (.pointer none) → NI2 w ((w1.alloc (.cells o 45)).alloc (.cells #[.pointer none, ptr w1.heap.size] 38)) (w1.heap.size + 1) w1.heap.size q) := hid (fun o ho => ⟨by
      have := CAt.made (w1.alloc (.cells o 45)) #[.pointer none, ptr w1.heap.size] 38
      rw [size_al] at this; exact this, by
      have := ((CAt.made w1 o 45).old (.cells #[.pointer none, ptr w1.heap.size] 38)).cell 0
      rw [this]; exact ho, by
      obtain ⟨m, L, hd⟩ := HD1.out
      exact ⟨_, _, m, L, (hd.below ((Below.refl _ _).alloc (Nat.le_refl _) _)).below ((Below.refl _ _).alloc (Nat.le_refl _) _)⟩,
      below_on _ _ (below_on _ _ HB1.out ((Below.refl _ _).alloc (Nat.le_refl _) _)) ((Below.refl _ _).alloc (Nat.le_refl _) _)⟩)
  go_wp2
  go_loopw [6] (fun v wr => ∃ k : Nat, k ≤ 2 ∧ v = .int .i64 (k : Int) ∧ NI2 w wr (w1.heap.size + 1) w1.heap.size q) (fun v _ => (2 - intOf v).toNat)
  case atStart => exact ⟨0, by omega, rfl, H0.out _ rfl⟩
  case round =>
    obtain ⟨k, hk, rfl, hI⟩ := hrel
    have HI := hid hI
    clear hI H0
    by_cases hlt : k < 2
    · have hlt' : (k : Int) < 2 := by omega
      have hget : ∃ a, wr.cell? ⟨w1.heap.size + 1, k, none⟩ = some (.pointer a) ∧ Bare wr (.pointer a) := by
        rw [HI.out.g.cell]
        have : k = 0 ∨ k = 1 := by omega
        rcases this with rfl | rfl
        · exact ⟨none, rfl, .nil⟩
        · exact ⟨_, rfl, .zero _ HI.out.z⟩
      obtain ⟨a, ca, hb⟩ := hget
      have HCK : Hid ((#[.pointer none, ptr w1.heap.size] : Array Value)[k]? = some (.pointer a)) := hid (by rw [HI.out.g.cell] at ca; exact ca)
      have HL := hid (HI.out.nol hb)
      have HB := hid (hb.below ((Below.refl _ _).alloc (Nat.le_refl _) (.cells #[ptr q, .pointer a] 38)))
      have HI2 := hid (HI.out.on ((Below.refl _ _).alloc (Nat.le_refl _) (.cells #[ptr q, .pointer a] 38)))
      clear hb HI
      have HI := HI2
      clear HI2
      have HCA : Hid (∀ W, NI2 w W (w1.heap.size + 1) w1.heap.size q → W.cell? ⟨w1.heap.size + 1, k, none⟩ = some (.pointer a)) := hid (fun W hW => by
        rw [hW.g.cell]
        exact HCK.out)
      go_wp2_with (first
        | (go_at_call 14; refine (read_nil HL.out s).mono ?_; rintro e w' ⟨⟨x0, rfl⟩, hb⟩; have HI := hid (HI.out.on hb); have HB := hid (HB.out.below hb); have HL := hid (HL.out.below hb); have ca := HCA.out _ HI.out; clear hb)
        | (go_at_call 15; refine (commit_nil HL.out).mono ?_; rintro e w' ⟨⟨x1, rfl⟩, hb⟩; have HI := hid (HI.out.on hb); have HB := hid (HB.out.below hb); have HL := hid (HL.out.below hb); have ca := HCA.out _ HI.out; clear hb)
        | (go_at_call 16; refine (delete_nil HL.out).mono ?_; rintro e w' ⟨⟨x2, rfl⟩, hb⟩; have HI := hid (HI.out.on hb); have HB := hid (HB.out.below hb); have HL := hid (HL.out.below hb); have ca := HCA.out _ HI.out; clear hb)
        | (go_at_call 17; refine (clean_nil HL.out s).mono ?_; rintro e w' ⟨⟨x3, rfl⟩, hb⟩; have HI := hid (HI.out.on hb); have HB := hid (HB.out.below hb); have HL := hid (HL.out.below hb); have ca := HCA.out _ HI.out; clear hb)
        | (go_at_call 18; refine (names_nil HL.out s).mono ?_; rintro e w' ⟨⟨x4, rfl⟩, hb⟩; have HI := hid (HI.out.on hb); have HB := hid (HB.out.below hb); have HL := hid (HL.out.below hb); have ca := HCA.out _ HI.out; clear hb)
        | (go_at_call 19; refine (finish_nil HB.out).mono ?_; rintro e w' ⟨rfl, hb⟩; have HI := hid (HI.out.on hb); clear hb))
      go_roundw
      case rel => exact ⟨k + 1, by omega, by go_num, HI.out⟩
      case measure => simp [intOf]; omega
    · have hlt' : ¬ (k : Int) < 2 := by omega
      have HA := hid (fawake_any wr (HE.out.on HI.out.be))
      go_wp2_with (go_at_call 20; refine HA.out.mono ?_; rintro e w1 ⟨rfl, hb⟩; have HI := hid (HI.out.on hb); clear hb)
      go_ret
      exact ⟨rfl, HI.out.be⟩
end Go.Proofs.YtklchjfkkbpipaaGreatDoor
