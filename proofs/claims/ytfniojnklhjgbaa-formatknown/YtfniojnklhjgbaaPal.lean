/- Texts laid into one, cut to what is needed: the remark ahead of each part says what is proved there. -/
import Derived.Test.YtfniojnklhjgbaaPak
import Derived.Laws.OwnMore
import Derived.Deep.AppendLies
import Derived.WalkMore
import Derived.Deep.LoopGhost
import Derived.Deep.QuietTactic
import Derived.BigQuiet
import Derived.Deep.Draws
import Derived.Deep.Matrix
import Derived.ProofKit
import Derived.OpenShut
import Derived.Deep.RegionWith
import Derived.BigRegion
import Derived.Test.YtfniojnklhjgbaaPaj
import Derived.Test.YtfniojnklhjgbaaPae
import Derived.Test.YtfniojnklhjgbaaPaf
/- Texts laid into one: the remark ahead of each part says what is proved there. -/
/- Matrices as they lie in memory, and contracts of the functions that look at their lengths alone (Large; Check of package matrix and what it calls): the answer by the lengths; the world is as it was. -/
namespace Go.Proofs.Ytfniojnklhjgbaa.U
open Go.RowKit

/-- The slice's value leads to n rows, each a slice's value; one of no row may lead anywhere. -/
def TopAt (w : World) (p : Option Addr) (n : Nat) (A : Nat → Option Addr) (L C : Nat → Nat) : Prop :=
  n = 0 ∨ ∃ b o, p = some ⟨b, o, none⟩ ∧ ∀ i, i < n → w.cell? ⟨b, o + i, none⟩ = some (.slice (A i) (L i) (C i))
theorem TopAt.pos {w : World} {p : Option Addr} {n : Nat} {A : Nat → Option Addr} {L C : Nat → Nat} (h : TopAt w p n A L C) (hn : 0 < n) :
    ∃ b o, p = some ⟨b, o, none⟩ ∧ ∀ i, i < n → w.cell? ⟨b, o + i, none⟩ = some (.slice (A i) (L i) (C i)) := by
  rcases h with h | h
  · omega
  · exact h
/-- n rows, row i of L i bytes, X i. -/
structure MatAt (w : World) (p : Option Addr) (n : Nat) (A : Nat → Option Addr) (L C : Nat → Nat) (X : Nat → Nat → K) : Prop where
  top : TopAt w p n A L C
  row : ∀ i, i < n → StrAt w (A i) (L i) (fun j => (X i j).val)
  le : ∀ i, i < n → L i ≤ C i
/-- What was there is as it was. -/
def Stays (w w' : World) : Prop := ∀ p v, w.cell? p = some v → w'.cell? p = some v
theorem Stays.of_below {w w' : World} (h : Below w.heap.size w w') : Stays w w' := fun _ _ hp =>
  (h.cell (World.block_lt_of_cell? w _ hp)).trans hp
theorem TopAt.keep {w w' : World} {p : Option Addr} {n : Nat} {A : Nat → Option Addr} {L C : Nat → Nat} (h : TopAt w p n A L C) (k : Stays w w') : TopAt w' p n A L C := by
  rcases h with h | ⟨b, o, h, hc⟩
  · exact .inl h
  · exact .inr ⟨b, o, h, fun i hi => k _ _ (hc i hi)⟩
theorem StrAt.keep {w w' : World} {p : Option Addr} {n : Nat} {x : Nat → Nat} (h : StrAt w p n x) (k : Stays w w') : StrAt w' p n x := by
  rcases h with h | ⟨b, o, h, hc⟩
  · exact .inl h
  · exact .inr ⟨b, o, h, fun i hi => k _ _ (hc i hi)⟩
theorem MatAt.keep {w w' : World} {p : Option Addr} {n : Nat} {A : Nat → Option Addr} {L C : Nat → Nat} {X : Nat → Nat → K} (h : MatAt w p n A L C X) (k : Stays w w') : MatAt w' p n A L C X :=
  ⟨h.top.keep k, fun i hi => (h.row i hi).keep k, h.le⟩

end Go.Proofs.Ytfniojnklhjgbaa.U

/- Matrices in memory of the call's own, and what a store into them makes; contracts of zeros and One of package matrix: the rows lie in new memory, each by itself; what was there is as it was. -/
namespace Go.Proofs.Ytfniojnklhjgbaa.U
open Go.RowKit

/-- One place turned. -/
def upd {α : Type} (f : Nat → α) (k : Nat) (v : α) : Nat → α := fun i => if i = k then v else f i
/-- One place of a matrix turned. -/
def up2 (X : Nat → Nat → K) (i j : Nat) (v : K) : Nat → Nat → K := fun r c => if r = i ∧ c = j then v else X r c
/-- The first n values. -/
def vals (n : Nat) (V : Nat → Value) : List Value := (List.range n).map V
theorem vals_len (n : Nat) (V : Nat → Value) : (vals n V).length = n := by simp [vals]
theorem vals_get (n : Nat) (V : Nat → Value) (i : Nat) (h : i < n) : (vals n V)[i]? = some (V i) := by simp [vals, h]
theorem vals_set (n : Nat) (V : Nat → Value) (k : Nat) (v : Value) : (vals n V).set k v = vals n (upd V k v) := by
  apply List.ext_getElem?
  intro i
  by_cases hi : i < n
  · by_cases e : i = k
    · subst e
      rw [List.getElem?_set_self (by rw [vals_len]; exact hi), vals_get _ _ _ hi]; simp [upd]
    · rw [List.getElem?_set_ne (fun h => e h.symm), vals_get _ _ _ hi, vals_get _ _ _ hi]; simp [upd, e]
  · rw [List.getElem?_eq_none (by rw [List.length_set, vals_len]; omega), List.getElem?_eq_none (by rw [vals_len]; omega)]
theorem vals_congr {n : Nat} {V W : Nat → Value} (h : ∀ i, i < n → V i = W i) : vals n V = vals n W := by
  unfold vals; exact List.map_congr_left (fun i hi => h i (by simpa using hi))
/-- A byte's value. -/
def kv (a : K) : Value := .int .u8 ((a.val : Nat) : Int)
/-- A row's value. -/
def rv (g m c : Nat) : Value := .slice (some ⟨g, 0, none⟩) m c

/-- n rows of m numbers, X, in memory of the call's own (from block B on): each row in a block of its own. -/
structure OwnMat (B : Nat) (w : World) (g c n m : Nat) (G Q : Nat → Nat) (X : Nat → Nat → K) : Prop where
  top : w.ownsRow B 24 1 (.slice (some ⟨g, 0, none⟩) n c) n (vals n fun i => rv (G i) m (Q i))
  row : ∀ i, i < n → w.ownsRow B 5 1 (.slice (some ⟨G i, 0, none⟩) m (Q i)) m (vals m fun j => kv (X i j))
  inj : ∀ i j, i < n → j < n → G i = G j → i = j

theorem own_block {w : World} {B e g n c : Nat} {xs : List Value} (h : w.ownsRow B e 1 (.slice (some ⟨g, 0, none⟩) n c) n xs) : ∃ cur, w.heap[g]? = some (.cells cur e (0, 0)) := by
  rcases h.2 with ⟨h, _⟩ | ⟨g', cap, cur, hv, _, hg, _⟩
  · cases h
  · cases hv; exact ⟨cur, hg⟩
theorem own_ge {w : World} {B e g n c : Nat} {xs : List Value} (h : w.ownsRow B e 1 (.slice (some ⟨g, 0, none⟩) n c) n xs) : B ≤ g ∧ g < w.heap.size := h.lt g rfl
theorem own_keep {w w' : World} {B e g n c : Nat} {xs : List Value} (h : w.ownsRow B e 1 (.slice (some ⟨g, 0, none⟩) n c) n xs) (hb : w'.heap[g]? = w.heap[g]?) : w'.ownsRow B e 1 (.slice (some ⟨g, 0, none⟩) n c) n xs := by
  refine ⟨h.1, ?_⟩
  rcases h.2 with ⟨h, _⟩ | ⟨g', cap, cur, hv, h1, h2, h3⟩
  · cases h
  · cases hv; exact .inr ⟨g, c, cur, rfl, h1, hb.trans h2, h3⟩
theorem own_base {w : World} {B B' e g n c : Nat} {xs : List Value} (h : w.ownsRow B e 1 (.slice (some ⟨g, 0, none⟩) n c) n xs) (hb : B' ≤ B) : w.ownsRow B' e 1 (.slice (some ⟨g, 0, none⟩) n c) n xs := by
  refine ⟨h.1, ?_⟩
  rcases h.2 with ⟨h, _⟩ | ⟨g', cap, cur, hv, h1, h2, h3⟩
  · cases h
  · cases hv; exact .inr ⟨g, c, cur, rfl, Nat.le_trans hb h1, h2, h3⟩
theorem own_cell {w : World} {B e g n c : Nat} {V : Nat → Value} (h : w.ownsRow B e 1 (.slice (some ⟨g, 0, none⟩) n c) n (vals n V)) (i : Nat) (hi : i < n) : w.cell? ⟨g, i, none⟩ = some (V i) := by
  rw [h.cellAt i (by omega), vals_get n V i hi]
theorem own_apart {w : World} {B B' e e' g g' n n' c c' : Nat} {xs ys : List Value} (h : w.ownsRow B e 1 (.slice (some ⟨g, 0, none⟩) n c) n xs) (h' : w.ownsRow B' e' 1 (.slice (some ⟨g', 0, none⟩) n' c') n' ys) (he : e ≠ e') : g ≠ g' := by
  intro q
  obtain ⟨cur, h1⟩ := own_block h
  obtain ⟨cur', h2⟩ := own_block h'
  rw [← q, h1] at h2
  simp at h2
  exact he h2.2

section
variable {B : Nat} {w : World} {g c n m : Nat} {G Q : Nat → Nat} {X : Nat → Nat → K}
theorem OwnMat.apart (h : OwnMat B w g c n m G Q X) (i : Nat) (hi : i < n) : g ≠ G i := own_apart h.top (h.row i hi) (by decide)
theorem OwnMat.cell (h : OwnMat B w g c n m G Q X) (i j : Nat) (hi : i < n) (hj : j < m) : w.cell? ⟨G i, j, none⟩ = some (.int .u8 ((X i j).val : Nat)) := own_cell (V := fun j => kv (X i j)) (h.row i hi) j hj
theorem OwnMat.free (h : OwnMat B w g c n m G Q X) (i j : Nat) (hi : i < n) : w.frozen? ⟨G i, j, none⟩ = false := (h.row i hi).frozenAt j
theorem OwnMat.ge (h : OwnMat B w g c n m G Q X) (i : Nat) (hi : i < n) : B ≤ G i ∧ G i < w.heap.size := own_ge (h.row i hi)
theorem OwnMat.congr {Y : Nat → Nat → K} (h : OwnMat B w g c n m G Q X) (e : ∀ i, i < n → ∀ j, j < m → X i j = Y i j) : OwnMat B w g c n m G Q Y where
  top := h.top
  row := fun i hi => by
    have := h.row i hi
    rwa [vals_congr (W := fun j => kv (Y i j)) (fun j hj => by show kv (X i j) = kv (Y i j); rw [e i hi j hj])] at this
  inj := h.inj
theorem OwnMat.keep {w' : World} (h : OwnMat B w g c n m G Q X) (k : ∀ b, b < w.heap.size → w'.heap[b]? = w.heap[b]?) : OwnMat B w' g c n m G Q X where
  top := own_keep h.top (k g (own_ge h.top).2)
  row := fun i hi => own_keep (h.row i hi) (k _ (h.ge i hi).2)
  inj := h.inj
theorem OwnMat.base {B' : Nat} (h : OwnMat B w g c n m G Q X) (hb : B' ≤ B) : OwnMat B' w g c n m G Q X where
  top := own_base h.top hb
  row := fun i hi => own_base (h.row i hi) hb
  inj := h.inj
theorem OwnMat.set (h : OwnMat B w g c n m G Q X) (i j : Nat) (v : K) (hi : i < n) :
    OwnMat B (w.setCell ⟨G i, j, none⟩ (.int .u8 ((v.val : Nat) : Int))) g c n m G Q (up2 X i j v) where
  top := ownsRow_setCell_other h.top (by simp [Value.ownBlock]; exact h.apart i hi) _
  row := fun r hr => by
    by_cases e : r = i
    · subst e
      have := ((h.row r hr).stored j (kv v)).1
      rw [vals_set] at this
      rwa [vals_congr (W := fun j' => kv (up2 X r j v r j')) (fun j' _ => by unfold upd up2; by_cases q : j' = j <;> simp [q])] at this
    · have := ownsRow_setCell_other (h.row r hr) (a := ⟨G i, j, none⟩) (by simp [Value.ownBlock]; exact fun q => e (h.inj r i hr hi q)) (.int .u8 ((v.val : Nat) : Int))
      rwa [vals_congr (W := fun j' => kv (up2 X i j v r j')) (fun j' _ => by unfold up2; simp [e])] at this
  inj := h.inj
end

theorem own_made (w : World) (e : TypeId) (z : Value) (n B : Nat) (hn : n ≤ 70003) (hB : B ≤ w.heap.size) : (w.alloc (.cells (madeCells #[z] n) e)).ownsRow B e 1 (.slice (some ⟨w.heap.size, 0, none⟩) n n) n (vals n fun _ => z) := by
  have h := World.ownsRow_lit (base := B) (e := e) (size := 1) w (madeCells #[z] n) n hB (by unfold maxLen; omega) (by rw [Nat.mul_one, ← Array.length_toList, toList_madeCells_one, List.length_replicate])
  rw [toList_madeCells_one] at h
  have e2 : List.replicate n z = vals n fun _ => z := by
    apply List.ext_getElem?
    intro i
    by_cases hi : i < n
    · rw [vals_get _ _ _ hi]; simp [hi]
    · rw [List.getElem?_eq_none (by simp; omega), List.getElem?_eq_none (by rw [vals_len]; omega)]
  rwa [e2] at h

/-- k rows are laid, the others are still nil. -/
structure Half (B : Nat) (w : World) (g cp n m k : Nat) (G : Nat → Nat) (Q : Nat → Nat) (X : Nat → Nat → K) (V : Nat → Value) : Prop where
  top : w.ownsRow B 24 1 (.slice (some ⟨g, 0, none⟩) n cp) n (vals n fun i => if i < k then rv (G i) m (Q i) else V i)
  row : ∀ i, i < k → w.ownsRow B 5 1 (.slice (some ⟨G i, 0, none⟩) m (Q i)) m (vals m fun j => kv (X i j))
  inj : ∀ i j, i < k → j < k → G i = G j → i = j
end Go.Proofs.Ytfniojnklhjgbaa.U

/- Contracts of One and Check of package matrix: the answer by the number, or the lengths; what was there is as it was. -/
namespace Go.Proofs.Ytfniojnklhjgbaa.U
open Go.RowKit

end Go.Proofs.Ytfniojnklhjgbaa.U

/- Contracts of turned and Mul of package matrix: the product lies in new memory, or the error's number by the lengths; what was there is as it was. -/
namespace Go.Proofs.Ytfniojnklhjgbaa.U
open Go.RowKit

theorem MatAt.at {w : World} {p : Option Addr} {n m : Nat} {A : Nat → Option Addr} {C : Nat → Nat} {X : Nat → Nat → K} (h : MatAt w p n A (fun _ => m) C X) (hn : 0 < n) (hm : 0 < m) :
    ∃ b o, p = some ⟨b, o, none⟩ ∧ ∃ bs os : Nat → Nat, (∀ i, i < n → w.cell? ⟨b, o + i, none⟩ = some (.slice (some ⟨bs i, os i, none⟩) m (C i))) ∧ ∀ i, i < n → RowAt w (bs i) (os i) m (fun j => (X i j).val) := by
  obtain ⟨b, o, hp, hc⟩ := h.top.pos hn
  have hr : ∀ i, i < n → ∃ y : Nat × Nat, A i = some ⟨y.1, y.2, none⟩ ∧ RowAt w y.1 y.2 m (fun j => (X i j).val) := fun i hi => by
    rcases h.row i hi with q | ⟨b', o', q1, q2⟩
    · omega
    · exact ⟨(b', o'), q1, q2⟩
  have hf : ∃ f : Nat → Nat × Nat, ∀ i, i < n → A i = some ⟨(f i).1, (f i).2, none⟩ ∧ RowAt w (f i).1 (f i).2 m (fun j => (X i j).val) := by
    classical
    refine ⟨fun i => if hi : i < n then Classical.choose (hr i hi) else (0, 0), fun i hi => ?_⟩
    simp only [dif_pos hi]
    exact Classical.choose_spec (hr i hi)
  obtain ⟨f, hf⟩ := hf
  exact ⟨b, o, hp, fun i => (f i).1, fun i => (f i).2, fun i hi => by rw [hc i hi, (hf i hi).1], fun i hi => (hf i hi).2⟩
theorem RowAt.keep {w w' : World} {b o n : Nat} {x : Nat → Nat} (h : RowAt w b o n x) (k : Stays w w') : RowAt w' b o n x := fun i hi => k _ _ (h i hi)

end Go.Proofs.Ytfniojnklhjgbaa.U

/- Contract of Mul of package matrix: the product lies in new memory, or the error's number by the lengths; what was there is as it was. -/
namespace Go.Proofs.Ytfniojnklhjgbaa.U
open Go.RowKit

theorem OwnMat.stay {B : Nat} {w w' : World} {g c n m : Nat} {G Q : Nat → Nat} {X : Nat → Nat → K} (h : OwnMat B w g c n m G Q X) (hb : Below w.heap.size w w') : OwnMat B w' g c n m G Q X := h.keep hb.block
theorem OwnMat.drew {B : Nat} {w : World} {g c n m : Nat} {G Q : Nat → Nat} {X : Nat → Nat → K} (h : OwnMat B w g c n m G Q X) : OwnMat B w.drew g c n m G Q X := h.keep (fun _ _ => rfl)
end Go.Proofs.Ytfniojnklhjgbaa.U

/- Texts laid into one: the remark ahead of each part says what is proved there. -/
/- Contracts of slices.Clone of a row and of rows, and of clone of package matrix: the copy lies in new memory; what was there is as it was. And the sums, products and inverses of bytes once more, over the type of numbers. -/
namespace Go.Proofs.Ytfniojnklhjgbaa.U
open Go.RowKit

theorem add_plain' (b o j : Nat) : (⟨b, o, none⟩ : Addr).add j = ⟨b, o + j, none⟩ := by unfold Addr.add; split <;> simp_all
end Go.Proofs.Ytfniojnklhjgbaa.U

/- Contract of exchange of package matrix: the rows, each in a block of its own, are exchanged as the plain mathematics says; no other block is touched. -/
namespace Go.Proofs.Ytfniojnklhjgbaa.U
open Go.RowKit

/-- From w to w' nothing has turned but what the blocks of S hold. -/
structure OnlyIn (S : Nat → Prop) (w w' : World) : Prop where
  os : w'.os = w.os
  tape : w'.tape = w.tape
  output : w'.output = w.output
  size : w'.heap.size = w.heap.size
  block : ∀ k, ¬ S k → w'.heap[k]? = w.heap[k]?
theorem OnlyIn.refl (S : Nat → Prop) (w : World) : OnlyIn S w w := ⟨rfl, rfl, rfl, rfl, fun _ _ => rfl⟩
theorem OnlyIn.setCell {S : Nat → Prop} {w w' : World} (h : OnlyIn S w w') (g i : Nat) (hg : S g) (v : Value) : OnlyIn S w (w'.setCell ⟨g, i, none⟩ v) :=
  ⟨h.os, h.tape, h.output, by rw [World.size_setCell]; exact h.size, fun k hk => (Below.heap_setCell _ _ _ k (fun e => hk (by rw [e]; exact hg))).trans (h.block k hk)⟩
theorem OnlyIn.below {S : Nat → Prop} {B : Nat} {w0 w w' : World} (h : OnlyIn S w w') (hb : Below B w0 w) (hS : ∀ k, S k → B ≤ k) : Below B w0 w' :=
  ⟨h.os.trans hb.os, h.tape.trans hb.tape, h.output.trans hb.output, by rw [h.size]; exact hb.size, fun k hk => (h.block k (fun q => by have := hS k q; omega)).trans (hb.block k hk)⟩

section
variable (T : Nat → Nat → K) (i j : Nat)
end

end Go.Proofs.Ytfniojnklhjgbaa.U

/- Contract of sweep of package matrix: the rows are swept as the plain mathematics says, the pivots' columns are told in order; nothing else that was there is touched. -/
namespace Go.Proofs.Ytfniojnklhjgbaa.U
open Go.RowKit

theorem own_keepV {w w' : World} {B e n : Nat} {v : Value} {xs : List Value} (h : w.ownsRow B e 1 v n xs) (hb : ∀ b, v.ownBlock = some b → w'.heap[b]? = w.heap[b]?) : w'.ownsRow B e 1 v n xs := by
  refine ⟨h.1, ?_⟩
  rcases h.2 with h2 | ⟨g', cap, cur, hv, h1, h2, h3⟩
  · exact .inl h2
  · exact .inr ⟨g', cap, cur, hv, h1, (hb g' (by rw [hv]; rfl)).trans h2, h3⟩
end Go.Proofs.Ytfniojnklhjgbaa.U

/- Contracts of ordered, Invert and Rank of package matrix: the inverse is read out of the sweep, or the error's number is told; what was there is as it was. -/
namespace Go.Proofs.Ytfniojnklhjgbaa.U
open Go.RowKit

/-- The pivots of a list, by place. -/
def pl (l : List Nat) (i : Nat) : Nat := (l[i]?).getD 0
end Go.Proofs.Ytfniojnklhjgbaa.U

/- Contracts of Invert and Rank of package matrix: the inverse is read out of the sweep and lies in new memory, or the error's number is told; what was there is as it was. -/
namespace Go.Proofs.Ytfniojnklhjgbaa.U
open Go.RowKit

end Go.Proofs.Ytfniojnklhjgbaa.U

/- Texts laid into one: the remark ahead of each part says what is proved there. -/
/- Contract of Pick of package matrix: the rows that are picked lie in new memory, or the error's number is told; what was there is as it was. -/
namespace Go.Proofs.Ytfniojnklhjgbaa.U
open Go.RowKit

/-- n whole numbers, R, lie where the slice's value leads; one of no number may lead anywhere. -/
def IntsAt (w : World) (p : Option Addr) (n : Nat) (R : Nat → Int) : Prop := n = 0 ∨ ∃ b o, p = some ⟨b, o, none⟩ ∧ ∀ i, i < n → w.cell? ⟨b, o + i, none⟩ = some (.int .i64 (R i))
theorem IntsAt.keep {w w' : World} {p : Option Addr} {n : Nat} {R : Nat → Int} (h : IntsAt w p n R) (k : Stays w w') : IntsAt w' p n R := by
  rcases h with h | ⟨b, o, h, hc⟩
  · exact .inl h
  · exact .inr ⟨b, o, h, fun i hi => k _ _ (hc i hi)⟩
theorem IntsAt.pos {w : World} {p : Option Addr} {n : Nat} {R : Nat → Int} (h : IntsAt w p n R) (hn : 0 < n) : ∃ b o, p = some ⟨b, o, none⟩ ∧ ∀ i, i < n → w.cell? ⟨b, o + i, none⟩ = some (.int .i64 (R i)) := by
  rcases h with h | h
  · omega
  · exact h

def inR (n : Nat) (z : Int) : Prop := 0 ≤ z ∧ z < (n : Int)
instance (n : Nat) (z : Int) : Decidable (inR n z) := by unfold inR; exact inferInstance
end Go.Proofs.Ytfniojnklhjgbaa.U

/- Contracts of parity and Code of package matrix: the code of k and m lies in new memory, or the error's number is told; what was there is as it was. -/
namespace Go.Proofs.Ytfniojnklhjgbaa.U
open Go.RowKit

/-- The code of k, row by row. -/
def codeX (k : Nat) (r c : Nat) : K := if r < k then on r c else K.iv (kb r + kb c)

end Go.Proofs.Ytfniojnklhjgbaa.U

/- Contracts of SameLists and makes of the statements' kit: of two matrices that read alike they return true; and of the examples that awake asks: all are answered as the chapter says. What was there is as it was. -/
namespace Go.Proofs.Ytfniojnklhjgbaa.U
open Go.RowKit

theorem below_drewN {B n : Nat} {w w' : World} (h : Below B w w') : Below B w (w'.drewN n) := ⟨h.os, h.tape, h.output, h.size, h.block⟩

end Go.Proofs.Ytfniojnklhjgbaa.U

/- Contract of MatrixKnown: all of the chapter's examples are answered as it says; what was there is as it was. -/
namespace Go.RowKit
/-- One behind the other. -/
theorem Below.then {w w' w'' : World} (h : Below w.heap.size w w') (h' : Below w'.heap.size w' w'') : Below w.heap.size w w'' := h.trans (h'.mono h.size)
end Go.RowKit
namespace Go.Proofs.Ytfniojnklhjgbaa.U
open Go.RowKit

end Go.Proofs.Ytfniojnklhjgbaa.U

/- From what a row of the statement reads of its arguments (lists of lists of bytes; lists of whole numbers) to what the walks ask of the memory. No conditions. -/
namespace Go.Proofs.Ytfniojnklhjgbaa.U
open Go.ChangeShapes Go.WideShapes Go.ChangeAt Go.RowKit

end Go.Proofs.Ytfniojnklhjgbaa.U

/- Plain mathematics of shards: the first k that are there, in order; the code's upper rows are the one; what any k shards of bytes make are all shards; a turned byte parts the shards. No conditions but bounds. -/
namespace Go.Proofs.Ytfniojnklhjgbaa.U

/-- How long the shards of n bytes are. -/
def lgt (n k : Nat) : Nat := (n + k - 1) / k
/-- The first k that are there, of the first so many. -/
def tk (H : Nat → Bool) (k : Nat) : Nat → List Nat
  | 0 => []
  | i + 1 => if (tk H k i).length < k ∧ H i = true then tk H k i ++ [i] else tk H k i
end Go.Proofs.Ytfniojnklhjgbaa.U

/- Texts laid into one: the remark ahead of each part says what is proved there. -/
/- Contracts of scale and take of the document's own answer: a row is multiplied; a multiple of another row is added to it; no other block is touched. -/
namespace Go.Proofs.Ytfniojnklhjgbaa.U
open Go.RowKit

theorem OnlyIn.drew {S : Nat → Prop} {w w' : World} (h : OnlyIn S w w') : OnlyIn S w w'.drew := ⟨h.os, h.tape, h.output, h.size, h.block⟩
end Go.Proofs.Ytfniojnklhjgbaa.U

/- Rows that are appended one by one to a list that was nil; contracts of one, copied and Check of the document's own answer: as the program's; what was there is as it was. -/
namespace Go.Proofs.Ytfniojnklhjgbaa.U
open Go.RowKit

/-- n rows that the call has made: row i's value has length M i and capacity C i; of its block N i numbers are known. -/
structure OwnV (B : Nat) (w : World) (v : Value) (n : Nat) (G M C N Q : Nat → Nat) (Y : Nat → Nat → K) : Prop where
  top : w.ownsRow B 24 1 v n (vals n fun i => .slice (some ⟨G i, 0, none⟩) (M i) (C i))
  row : ∀ i, i < n → w.ownsRow B 5 1 (.slice (some ⟨G i, 0, none⟩) (N i) (Q i)) (N i) (vals (N i) fun j => kv (Y i j))
  inj : ∀ i j, i < n → j < n → G i = G j → i = j
theorem OwnV.start (B : Nat) (w : World) (G M C N Q : Nat → Nat) (Y : Nat → Nat → K) : OwnV B w (.slice none 0 0) 0 G M C N Q Y :=
  ⟨World.ownsRow_nil _ _ _ _, fun i hi => absurd hi (by omega), fun i j hi => absurd hi (by omega)⟩
end Go.Proofs.Ytfniojnklhjgbaa.U

/- Contracts of copied and Check of the document's own answer: as the program's; what was there is as it was. -/
namespace Go.Proofs.Ytfniojnklhjgbaa.U
open Go.RowKit

end Go.Proofs.Ytfniojnklhjgbaa.U

/- Contracts of LentBytes (once more, over whole blocks) and LentLists of the statements' kit: copies in new memory, each with three marked bytes behind it; what was there is as it was. -/
namespace Go.Proofs.Ytfniojnklhjgbaa.U
open Go.RowKit

/-- A row of N numbers in block g, which the call has made. -/
structure Mk (w wr : World) (g N : Nat) (x : Nat → K) : Prop where
  row : wr.ownsRow w.heap.size 5 1 (.slice (some ⟨g, 0, none⟩) N N) N (vals N fun c => kv (x c))
  bel : Below w.heap.size w wr
theorem Mk.congr {w wr : World} {g N : Nat} {x y : Nat → K} (h : Mk w wr g N x) (e : ∀ c, c < N → x c = y c) : Mk w wr g N y :=
  ⟨by have := h.row; rwa [vals_congr (W := fun c => kv (y c)) (fun c hc => by show kv (x c) = kv (y c); rw [e c hc])] at this, h.bel⟩
theorem Mk.set {w wr : World} {g N : Nat} {x : Nat → K} (h : Mk w wr g N x) (k : Nat) (v : K) : Mk w (wr.setCell ⟨g, k, none⟩ (.int .u8 ((v.val : Nat) : Int))) g N (fun c => if c = k then v else x c) := by
  refine ⟨?_, h.bel.setCell (p := ⟨g, k, none⟩) (own_ge h.row).1 _⟩
  have h1 := (h.row.stored k (kv v)).1
  rw [vals_set, vals_congr (W := fun c => kv (if c = k then v else x c)) (fun c _ => by unfold upd; by_cases e : c = k <;> simp [e])] at h1
  exact h1
theorem Mk.made (w : World) (N : Nat) (hN : N ≤ 70003) : Mk w (w.alloc (.cells (madeCells #[.int .u8 0] N) 5)) w.heap.size N (fun _ => 0) :=
  ⟨own_made w 5 (.int .u8 0) N w.heap.size hN (Nat.le_refl _), (Below.refl _ _).alloc (Nat.le_refl _) _⟩
theorem Mk.sets {w : World} {g N : Nat} : ∀ (ks : List K) (o : Nat) (wr : World) (x : Nat → K), Mk w wr g N x → Mk w (wr.setCells g o (ks.map kv)) g N (fun c => if o ≤ c ∧ c < o + ks.length then (ks[c - o]?).getD 0 else x c)
  | [], o, wr, x, h => h.congr (fun c _ => by rw [if_neg (by simp)])
  | k :: ks, o, wr, x, h => by
    have ih := Mk.sets ks (o + 1) _ _ (h.set o k)
    refine Mk.congr (x := _) ih (fun c _ => ?_)
    by_cases e1 : c = o
    · subst e1
      rw [if_neg (by omega), if_pos rfl, if_pos (by simp)]; simp
    · by_cases e2 : o + 1 ≤ c ∧ c < o + 1 + ks.length
      · rw [if_pos e2, if_pos (by simp; omega), show c - o = (c - (o + 1)) + 1 by omega]; rfl
      · rw [if_neg e2, if_neg e1, if_neg (by simp; omega)]
/-- The first n numbers, as a list. -/
def ksOf (n : Nat) (x : Nat → K) : List K := (List.range n).map x
theorem ksOf_vals (n : Nat) (x : Nat → K) : (ksOf n x).map kv = valN n fun j => (x j).val := by unfold ksOf valN kv; rw [List.map_map]; rfl
theorem ksOf_get (n : Nat) (x : Nat → K) (c : Nat) (h : c < n) : ((ksOf n x)[c]?).getD 0 = x c := by unfold ksOf; simp [h]
theorem Mk.copied {w wr : World} {g N : Nat} {y : Nat → K} (h : Mk w wr g N y) (n : Nat) (x : Nat → K) : Mk w (wr.setCells g 0 (valN n fun j => (x j).val)) g N (fun c => if c < n then x c else y c) := by
  rw [← ksOf_vals]
  refine (Mk.sets (ksOf n x) 0 wr y h).congr (fun c _ => ?_)
  have hl : (ksOf n x).length = n := by simp [ksOf]
  by_cases e : c < n
  · rw [if_pos (by omega), if_pos e, Nat.sub_zero, ksOf_get n x c e]
  · rw [if_neg (by omega), if_neg e]

end Go.Proofs.Ytfniojnklhjgbaa.U

/- Contracts of CopyBytes, OverBytes and ApartBytes of the statements' kit, over lists each of which lies in a block of its own: the last returns true, and touches no block that was there but those. -/
namespace Go.Proofs.Ytfniojnklhjgbaa.U
open Go.RowKit

/-- From w to w' nothing that was there has turned but what the blocks of S hold. -/
structure SpareIn (S : Nat → Prop) (w w' : World) : Prop where
  os : w'.os = w.os
  tape : w'.tape = w.tape
  output : w'.output = w.output
  size : w.heap.size ≤ w'.heap.size
  block : ∀ b, b < w.heap.size → ¬ S b → w'.heap[b]? = w.heap[b]?
theorem SpareIn.refl (S : Nat → Prop) (w : World) : SpareIn S w w := ⟨rfl, rfl, rfl, Nat.le_refl _, fun _ _ _ => rfl⟩
theorem SpareIn.only {S : Nat → Prop} {g : Nat} {w w1 w2 : World} (h : SpareIn S w w1) (h2 : OnlyIn (fun b => b = g) w1 w2) (hg : S g) : SpareIn S w w2 :=
  ⟨h2.os.trans h.os, h2.tape.trans h.tape, h2.output.trans h.output, by rw [h2.size]; exact h.size, fun b hb hs => (h2.block b (fun e => hs (by rw [e]; exact hg))).trans (h.block b hb hs)⟩
theorem SpareIn.below {S : Nat → Prop} {B : Nat} {w0 w w' : World} (h : SpareIn S w w') (hb : Below B w0 w) (hB : B ≤ w.heap.size) (hS : ∀ b, S b → B ≤ b) : Below B w0 w' :=
  ⟨h.os.trans hb.os, h.tape.trans hb.tape, h.output.trans hb.output, Nat.le_trans hb.size h.size, fun b hlt => (h.block b (by omega) (fun q => by have := hS b q; omega)).trans (hb.block b hlt)⟩

theorem OwnV.stay {B : Nat} {w w' : World} {v : Value} {n : Nat} {G M C N Q : Nat → Nat} {X : Nat → Nat → K} (h : OwnV B w v n G M C N Q X) (hb : Below w.heap.size w w') : OwnV B w' v n G M C N Q X where
  top := own_keepV h.top (fun b q => hb.block b (h.top.lt b q).2)
  row := fun i hi => own_keep (h.row i hi) (hb.block _ (own_ge (h.row i hi)).2)
  inj := h.inj
end Go.Proofs.Ytfniojnklhjgbaa.U

/- Contracts of Length and part of package stripe: how long shards are, or the error's number; the bytes laid into shards in new memory, with noughts behind them; what was there is as it was. -/
namespace Go.Proofs.Ytfniojnklhjgbaa.U
open Go.RowKit

theorem StrAt.congr {w : World} {p : Option Addr} {n : Nat} {x y : Nat → Nat} (h : StrAt w p n x) (e : ∀ j, j < n → x j = y j) : StrAt w p n y := by
  rcases h with h | ⟨b, o, rfl, hr⟩
  · exact .inl h
  · exact .inr ⟨b, o, rfl, fun i hi => by rw [← e i hi]; exact hr i hi⟩
end Go.Proofs.Ytfniojnklhjgbaa.U

/- Contract of part of package stripe: the bytes are laid into shards in new memory, with noughts behind them; what was there is as it was. -/
namespace Go.Proofs.Ytfniojnklhjgbaa.U
open Go.RowKit

theorem OnlyIn.setCells (g : Nat) : ∀ (vs : List Value) (o : Nat) (w w' : World), OnlyIn (fun b => b = g) w w' → OnlyIn (fun b => b = g) w (w'.setCells g o vs)
  | [], _, _, _, h => h
  | v :: vs, o, w, _, h => OnlyIn.setCells g vs (o + 1) w _ (h.setCell g o rfl v)
theorem Half.congr {B : Nat} {w : World} {g cp n m k : Nat} {G Q : Nat → Nat} {X Y : Nat → Nat → K} {V : Nat → Value} (h : Half B w g cp n m k G Q X V) (e : ∀ i, i < k → ∀ j, j < m → X i j = Y i j) : Half B w g cp n m k G Q Y V where
  top := h.top
  row := fun i hi => by
    have := h.row i hi
    rwa [vals_congr (W := fun j => kv (Y i j)) (fun j hj => by show kv (X i j) = kv (Y i j); rw [e i hi j hj])] at this
  inj := h.inj
end Go.Proofs.Ytfniojnklhjgbaa.U

/- Texts laid into one: the remark ahead of each part says what is proved there. -/
/- The walk of MatrixJoins: of any three matrices that are not large the products may be put together in any way. No conditions. -/
namespace Go.Proofs.Ytfniojnklhjgbaa.U
open Go.RowKit

end Go.Proofs.Ytfniojnklhjgbaa.U

/- For the walk of MatrixAny: append of any number of values at a step of a region that draws; Pick of the statements' kit; lists whose numbers are unlike. No conditions. -/
namespace Go.Proofs.Ytfniojnklhjgbaa.U
open Go.RowKit

/-- The rows that were taken and those that are left: unlike, and below t. -/
structure Parts (t i : Nat) (l r : List Nat) : Prop where
  len : l.length + i = t
  taken : r.length = i
  nodup : (r ++ l).Nodup
  lt : ∀ y ∈ r ++ l, y < t
theorem Parts.start (t : Nat) : Parts t 0 (List.range t) [] := ⟨by simp, rfl, by simpa using List.nodup_range, fun y hy => by simpa using hy⟩
theorem pl_get (l : List Nat) (i : Nat) (h : i < l.length) : pl l i = l[i] := by unfold pl; rw [List.getElem?_eq_getElem h]; rfl
theorem Parts.inj {t i : Nat} {l r : List Nat} (h : Parts t i l r) (a b : Nat) (ha : a < i) (hb : b < i) (e : pl r a = pl r b) : a = b := by
  have hr : r.Nodup := (List.nodup_append.1 h.nodup).1
  have ht := h.taken
  rw [pl_get r a (by omega), pl_get r b (by omega)] at e
  have hp := List.pairwise_iff_getElem.1 hr
  rcases Nat.lt_trichotomy a b with q | q | q
  · exact absurd e (hp a b (by omega) (by omega) q)
  · exact q
  · exact absurd e.symm (hp b a (by omega) (by omega) q)
theorem Parts.below {t i : Nat} {l r : List Nat} (h : Parts t i l r) (a : Nat) (ha : a < i) : pl r a < t := by
  have ht := h.taken
  rw [pl_get r a (by omega)]
  exact h.lt _ (by simp)
end Go.Proofs.Ytfniojnklhjgbaa.U

/- The walk of MatrixAny: any k unlike rows of the code of k and m have an inverse, for any k and m and any choice of rows. No conditions. -/
namespace Go.Proofs.Ytfniojnklhjgbaa.U
open Go.RowKit

end Go.Proofs.Ytfniojnklhjgbaa.U

/- Texts laid into one: the remark ahead of each part says what is proved there. -/
/- Contract of sweep of the document's own answer: it leaves the rank, and with full rank the inverse beside it; nothing below the call's own memory is touched. -/
namespace Go.Proofs.Ytfniojnklhjgbaa.U
open Go.RowKit

theorem OwnMat.swap {B : Nat} {w : World} {g c n m : Nat} {G Q : Nat → Nat} {X : Nat → Nat → K} (h : OwnMat B w g c n m G Q X) (p r : Nat) (hp : p < n) (hr : r < n) :
    OwnMat B ((w.setCell ⟨g, p, none⟩ (rv (G r) m (Q r))).setCell ⟨g, r, none⟩ (rv (G p) m (Q p))) g c n m (fun i => G (swI p r i)) (fun i => Q (swI p r i)) (fun i => X (swI p r i)) where
  top := by
    have h1 := ((h.top.stored p (rv (G r) m (Q r))).1.stored r (rv (G p) m (Q p))).1
    rw [vals_set, vals_set] at h1
    rwa [vals_congr (W := fun i => rv (G (swI p r i)) m (Q (swI p r i))) (fun i _ => by
      unfold upd swI
      by_cases e1 : i = r
      · by_cases e2 : i = p
        · subst e1; subst e2; simp
        · have e3 : ¬ r = p := fun q => e2 (e1.trans q)
          simp [e1, e3]
      · by_cases e2 : i = p
        · have e3 : ¬ p = r := fun q => e1 (e2.trans q)
          simp [e2, e3]
        · simp [e1, e2])] at h1
  row := fun i hi => by
    have hh := h.row (swI p r i) (swI_lt hp hr hi)
    have ha : g ≠ G (swI p r i) := h.apart _ (swI_lt hp hr hi)
    exact ownsRow_setCell_other (ownsRow_setCell_other hh (by simp [Value.ownBlock]; exact fun q => ha q.symm) _) (by simp [Value.ownBlock]; exact fun q => ha q.symm) _
  inj := fun i j hi hj q => by
    have := h.inj _ _ (swI_lt hp hr hi) (swI_lt hp hr hj) q
    have h2 := congrArg (swI p r) this
    rwa [swI_swI, swI_swI] at h2
/-- Two matrices that share nothing. -/
structure Two (B : Nat) (w : World) (ga ca gw cw n m : Nat) (Ga Qa Gw Qw : Nat → Nat) (T W : Nat → Nat → K) : Prop where
  a : OwnMat B w ga ca n m Ga Qa T
  b : OwnMat B w gw cw n n Gw Qw W
  tops : ga ≠ gw
  rows : ∀ i k, i < n → k < n → Ga i ≠ Gw k
section
variable {B : Nat} {w w' : World} {ga ca gw cw n m : Nat} {Ga Qa Gw Qw : Nat → Nat} {T W T' W' : Nat → Nat → K}
theorem Two.drew (h : Two B w ga ca gw cw n m Ga Qa Gw Qw T W) : Two B w.drew ga ca gw cw n m Ga Qa Gw Qw T W := ⟨h.a.drew, h.b.drew, h.tops, h.rows⟩
theorem Two.congr (h : Two B w ga ca gw cw n m Ga Qa Gw Qw T W) (e1 : ∀ i, i < n → ∀ j, j < m → T i j = T' i j) (e2 : ∀ i, i < n → ∀ j, j < n → W i j = W' i j) : Two B w ga ca gw cw n m Ga Qa Gw Qw T' W' := ⟨h.a.congr e1, h.b.congr e2, h.tops, h.rows⟩
end
end Go.Proofs.Ytfniojnklhjgbaa.U

/- Contract of Product of the document's own answer: the product lies in new memory; what was there is as it was. -/
namespace Go.Proofs.Ytfniojnklhjgbaa.U
open Go.RowKit

/-- What holds while the row in block g is made, beside rows that stand. -/
structure RowMade (B : Nat) (w wr : World) (g m : Nat) (x : Nat → K) : Prop where
  row : wr.ownsRow B 5 1 (.slice (some ⟨g, 0, none⟩) m m) m (vals m fun c => kv (x c))
  bel : Below B w wr
theorem RowMade.congr {B : Nat} {w wr : World} {g m : Nat} {x y : Nat → K} (h : RowMade B w wr g m x) (e : ∀ c, c < m → x c = y c) : RowMade B w wr g m y :=
  ⟨by have := h.row; rwa [vals_congr (W := fun c => kv (y c)) (fun c hc => by show kv (x c) = kv (y c); rw [e c hc])] at this, h.bel⟩
theorem RowMade.set {B : Nat} {w wr : World} {g m : Nat} {x y : Nat → K} (h : RowMade B w wr g m x) (k : Nat) (v : K) (e : ∀ c, upd (fun c => kv (x c)) k (kv v) c = kv (y c)) : RowMade B w (wr.setCell ⟨g, k, none⟩ (.int .u8 ((v.val : Nat) : Int))) g m y := by
  refine ⟨?_, h.bel.setCell (p := ⟨g, k, none⟩) (own_ge h.row).1 _⟩
  have h1 := (h.row.stored k (kv v)).1
  rw [vals_set, vals_congr (W := fun c => kv (y c)) (fun c _ => e c)] at h1
  exact h1
theorem RowMade.drew {B : Nat} {w wr : World} {g m : Nat} {x : Nat → K} (h : RowMade B w wr g m x) : RowMade B w wr.drew g m x := ⟨h.row.drew, h.bel.drew⟩

end Go.Proofs.Ytfniojnklhjgbaa.U

/- Contracts of Invert and Rank of the document's own answer: as the program's, for there is one rank and one inverse; what was there is as it was. -/
namespace Go.Proofs.Ytfniojnklhjgbaa.U
open Go.RowKit

theorem OwnMat.two {w w1 w2 : World} {ga ca gw cw n m : Nat} {Ga Qa Gw Qw : Nat → Nat} {T W : Nat → Nat → K} (ha : OwnMat w.heap.size w1 ga ca n m Ga Qa T) (hb : OwnMat w1.heap.size w2 gw cw n n Gw Qw W) (hbel : Below w1.heap.size w1 w2) (hsz : w.heap.size ≤ w1.heap.size) :
    Two w.heap.size w2 ga ca gw cw n m Ga Qa Gw Qw T W where
  a := ha.stay hbel
  b := hb.base hsz
  tops := by have := (own_ge ha.top).2; have := (own_ge hb.top).1; omega
  rows := fun i k hi hk => by have := (ha.ge i hi).2; have := (hb.ge k hk).1; omega
end Go.Proofs.Ytfniojnklhjgbaa.U

/- Contract of ApartBytes of the statements' kit, over lists each of which lies whole in a block of its own: it returns true, and touches no block that was there but those. -/
namespace Go.Proofs.Ytfniojnklhjgbaa.U
open Go.RowKit

end Go.Proofs.Ytfniojnklhjgbaa.U

/- Contracts of Mul, Invert and Rank once more, the program's and the document's own, in one form for all inputs: a list of rows, of none where there is an error, and the error's number. -/
namespace Go.Proofs.Ytfniojnklhjgbaa.U
open Go.RowKit

theorem OwnV.nil {B : Nat} {w : World} {G M C N Q : Nat → Nat} {Y : Nat → Nat → K} : OwnV B w (.slice none 0 0) 0 G M C N Q Y := OwnV.start _ _ _ _ _ _ _ _
theorem OwnV.base {B B' : Nat} {w : World} {v : Value} {n : Nat} {G M C N Q : Nat → Nat} {X : Nat → Nat → K} (h : OwnV B w v n G M C N Q X) (hb : B' ≤ B) : OwnV B' w v n G M C N Q X where
  top := by
    refine ⟨h.top.1, ?_⟩
    rcases h.top.2 with q | ⟨g', cap, cur, hv, h1, h2, h3⟩
    · exact .inl q
    · exact .inr ⟨g', cap, cur, hv, Nat.le_trans hb h1, h2, h3⟩
  row := fun i hi => own_base (h.row i hi) hb
  inj := h.inj
/-- How many rows an answer has. -/
def cnt (e : Int) (n : Nat) : Nat := if e = 0 then n else 0
end Go.Proofs.Ytfniojnklhjgbaa.U

/- The walk of MatrixTells: of any two matrices that are not large the product, the inverse, the rank and the errors are the document's own; what is handed in stays, and the answers lie in memory of their own. No conditions. -/
namespace Go.Proofs.Ytfniojnklhjgbaa.U
open Go.RowKit

/-- append at its place, guarded or not, by what it is known to do. -/
theorem wpList_append_run {P : Program} {w w' : World} {ops : Array Oper} {rest : List Oper} {o : Oper} {a : Act} {Q : Exit → Act → World → Prop} (s x : Operand) (t : TypeId)
    (ho : o.op = .call { callee := .builtin .append, args := #[s, x], argTypes := #[t, t] }) (hw : Region.wanted o (yielded ops a.tmps) = true)
    (v xv v' : Value) (hs : a.eval s = v) (hx : a.eval x = xv) (hr : (Builtin.append_ #[t, t] o.type #[v, xv]).run P w = .ok v' w') (h : wpList P ops Q rest (a.put o.dst v') w') : wpList P ops Q (o :: rest) a w := by
  refine BigFrame.wpList_want hw fun K hK => ?_
  unfold Oper.wp execOp
  simp only [ho, resolve, invoke, builtin, Sem.run_bind, Sem.run_pure, Result.andThen_ok, List.map_toArray, List.map_cons, List.map_nil, hs, hx, hr]
  exact hK _ _ h
/-- One of two, by place. -/
def two {α : Type} (n : Nat) (f g : Nat → α) (i : Nat) : α := if i < n then f i else g (i - n)
theorem OwnV.spare {B : Nat} {S : Nat → Prop} {w w' : World} {v : Value} {n : Nat} {G M C N Q : Nat → Nat} {X : Nat → Nat → K} (h : OwnV B w v n G M C N Q X) (hs : SpareIn S w w') (h1 : ∀ i, i < n → ¬ S (G i)) (h2 : ∀ b, v.ownBlock = some b → ¬ S b) : OwnV B w' v n G M C N Q X where
  top := own_keepV h.top (fun b q => hs.block b (h.top.lt b q).2 (h2 b q))
  row := fun i hi => own_keep (h.row i hi) (hs.block _ (own_ge (h.row i hi)).2 (h1 i hi))
  inj := h.inj
end Go.Proofs.Ytfniojnklhjgbaa.U

/- Contract of Split of package stripe: all shards of the bytes lie in new memory, or the error's number is told; what was there is as it was. -/
namespace Go.Proofs.Ytfniojnklhjgbaa.U
open Go.RowKit

theorem MatAt.first {w : World} {p : Option Addr} {n : Nat} {A : Nat → Option Addr} {L C : Nat → Nat} {X : Nat → Nat → K} (h : MatAt w p n A L C X) (m : Nat) (hr : m ≤ n) : MatAt w p m A L C X where
  top := by
    rcases h.top with h0 | ⟨b, o, hp, hc⟩
    · exact .inl (by omega)
    · exact .inr ⟨b, o, hp, fun i hi => hc i (by omega)⟩
  row := fun i hi => h.row i (by omega)
  le := fun i hi => h.le i (by omega)
end Go.Proofs.Ytfniojnklhjgbaa.U

/- Contracts of match, take and all of package stripe: what is wrong with shards; which are the first k that are there; what was there is as it was. -/
namespace Go.Proofs.Ytfniojnklhjgbaa.U
open Go.RowKit

/-- A list of bools as it lies in memory. -/
def BoolsAt (w : World) (p : Option Addr) (n : Nat) (H : Nat → Bool) : Prop := n = 0 ∨ ∃ b o, p = some ⟨b, o, none⟩ ∧ ∀ i, i < n → w.cell? ⟨b, o + i, none⟩ = some (.bool (H i))
theorem BoolsAt.keep {w w' : World} {p : Option Addr} {n : Nat} {H : Nat → Bool} (h : BoolsAt w p n H) (k : Stays w w') : BoolsAt w' p n H := by
  rcases h with h | ⟨b, o, h, hc⟩
  · exact .inl h
  · exact .inr ⟨b, o, h, fun i hi => k _ _ (hc i hi)⟩
theorem BoolsAt.pos {w : World} {p : Option Addr} {n : Nat} {H : Nat → Bool} (h : BoolsAt w p n H) (hn : 0 < n) : ∃ b o, p = some ⟨b, o, none⟩ ∧ ∀ i, i < n → w.cell? ⟨b, o + i, none⟩ = some (.bool (H i)) := by
  rcases h with h | h
  · omega
  · exact h

end Go.Proofs.Ytfniojnklhjgbaa.U

/- Contracts of bytes.Equal and slices.EqualFunc over rows of one length, and of all and joined of package stripe: whether rows read alike; shards laid one behind the other in new memory; what was there is as it was. -/
namespace Go.Proofs.Ytfniojnklhjgbaa.U
open Go.RowKit

/-- A list of bools that the call has made. -/
def OwnB (B : Nat) (w : World) (g n : Nat) (H : Nat → Bool) : Prop := w.ownsRow B 4 1 (.slice (some ⟨g, 0, none⟩) n n) n (vals n fun j => .bool (H j))
theorem OwnB.at {B : Nat} {w : World} {g n : Nat} {H : Nat → Bool} (h : OwnB B w g n H) : BoolsAt w (some ⟨g, 0, none⟩) n H := .inr ⟨g, 0, rfl, fun i hi => by rw [Nat.zero_add]; exact own_cell (V := fun j => .bool (H j)) h i hi⟩
theorem OwnB.set {B : Nat} {w : World} {g n : Nat} {H : Nat → Bool} (h : OwnB B w g n H) (j : Nat) (b : Bool) : OwnB B (w.setCell ⟨g, j, none⟩ (.bool b)) g n (upd H j b) := by
  have h1 := (h.stored j (.bool b)).1
  rw [vals_set, vals_congr (W := fun c => .bool (upd H j b c)) (fun c _ => by unfold upd; by_cases e : c = j <;> simp [e])] at h1
  exact h1
theorem OwnB.congr {B : Nat} {w : World} {g n : Nat} {H H' : Nat → Bool} (h : OwnB B w g n H) (e : ∀ i, i < n → H i = H' i) : OwnB B w g n H' := by
  unfold OwnB at h
  rwa [vals_congr (W := fun j => .bool (H' j)) (fun j hj => by rw [e j hj])] at h

/-- Shards one behind the other. -/
def jnd (l : Nat) (X : Nat → Nat → K) (j : Nat) : K := X (j / l) (j % l)
end Go.Proofs.Ytfniojnklhjgbaa.U

/- Contract of remake of package stripe: out of the first k shards that are there those of some rows of the code are made, in new memory; if fewer are there the error's number is told; what was there is as it was. -/
namespace Go.Proofs.Ytfniojnklhjgbaa.U
open Go.RowKit

/-- The inverse, as the sweep tells it. -/
def ivm (n : Nat) (A : Nat → Nat → K) : Nat → Nat → K := fun a b => match (List.range n).find? (fun i => piv (sw A n n) i == a) with
  | some i => (sw A n n).T i (piv (sw A n n) b)
  | none => 0
/-- All shards, made of the first k that are there. -/
def mdd (k N : Nat) (H : Nat → Bool) (S : Nat → Nat → K) : Nat → Nat → K := pr k (pr k (codeX k) (ivm k fun i c => codeX k (pl (tk H k N) i) c)) (fun i j => S (pl (tk H k N) i) j)
end Go.Proofs.Ytfniojnklhjgbaa.U

/- Contracts of three, awake and StripeKnown: all of the chapter's examples are answered as it says; what was there is as it was. -/
namespace Go.Proofs.Ytfniojnklhjgbaa.U
open Go.RowKit

def b3 (a b c : Nat) (i : Nat) : K := kb (if i = 0 then a else if i = 1 then b else c)
end Go.Proofs.Ytfniojnklhjgbaa.U

/- Shard files as mathematics: the shards and files of bytes; what a file is read as; which drives' files are sound and taken; what they make; any k of them make the bytes. No conditions but bounds. -/
namespace Go.Proofs.Ytfniojnklhjgbaa
open Go Go.RowKit

/-- Bytes as the stripe's mathematics has them. -/
def kx (b : List Nat) (j : Nat) : U.K := U.kb (b.getD j 0)
/-- What a file is read as, of so many bytes; the error's number. -/
def rdE (f : List Nat) (n : Nat) : Int := H.partE (fun j => f.getD j 0) f.length n 0 n
def rdB (f : List Nat) (n : Nat) : List Nat := H.partL (fun j => f.getD j 0) f.length n 0 n
/-- Is a drive's file sound? How many are, of the first i? Is the one at i taken? -/
def sdB (n : Nat) (c : Cp) : Bool := decide (c.err = 0) && decide (rdE c.b n = 0)
def csN (n : Nat) (l : List Cp) : Nat → Nat
  | 0 => 0
  | i + 1 => csN n l i + (match l[i]? with | some c => if sdB n c = true then 1 else 0 | none => 0)
def hvB (n k : Nat) (l : List Cp) (i : Nat) : Bool := (match l[i]? with | some c => sdB n c | none => false) && decide (csN n l i < k)
def rdS (n : Nat) (l : List Cp) (i : Nat) : List Nat := match l[i]? with | some c => rdB c.b n | none => []
/-- What those make that are taken. -/
def jnB (k m s : Nat) (l : List Cp) : List Nat := (List.range s).map fun j => (U.jnd (U.lgt s k) (U.mdd k (k + m) (hvB (U.lgt s k) k l) (fun i => kx (rdS (U.lgt s k) l i))) j).val
end Go.Proofs.Ytfniojnklhjgbaa
