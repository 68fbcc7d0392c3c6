/- Texts laid into one, cut to what is needed: the remark ahead of each part says what is proved there. -/
import Derived.Test.YtdohmokhfajjpaaGreatDoorPah
import Derived.Test.YtdohmokhfajjpaaGreatDoorPai
import Derived.Laws.OwnMore
import Derived.Deep.AppendLies
/- Texts laid into one: the remark ahead of each part says what is proved there. -/
/- Matrices as they lie in memory, and contracts of the functions that look at their lengths alone (Large; Check of package matrix and what it calls): the answer by the lengths; the world is as it was. -/
namespace Go.Proofs.YtdohmokhfajjpaaGreatDoor.U
open Go.RowKit

/-- The slice's value leads to n rows, each a slice's value; one of no row may lead anywhere. -/
def TopAt (w : World) (p : Option Addr) (n : Nat) (A : Nat → Option Addr) (L C : Nat → Nat) : Prop :=
 n = 0 ∨ ∃ b o, p = some ⟨b, o, none⟩ ∧ ∀ i, i < n → w.cell? ⟨b, o + i, none⟩ = some (.slice (A i) (L i) (C i))
theorem TopAt.pos {w : World} {p : Option Addr} {n : Nat} {A : Nat → Option Addr} {L C : Nat → Nat} (h : TopAt w p n A L C) (hn : 0 < n) :
  ∃ b o, p = some ⟨b, o, none⟩ ∧ ∀ i, i < n → w.cell? ⟨b, o + i, none⟩ = some (.slice (A i) (L i) (C i)) := by
 rcases h with h | h
 ·omega
 ·exact h
/-- n rows, row i of L i bytes, X i. -/
structure MatAt (w : World) (p : Option Addr) (n : Nat) (A : Nat → Option Addr) (L C : Nat → Nat) (X : Nat → Nat → K) : Prop where
 top : TopAt w p n A L C
 row : ∀ i, i < n → StrAt w (A i) (L i) (fun j => (X i j).val)
 le : ∀ i, i < n → L i ≤ C i
/-- What was there is as it was. -/
def Stays (w w' : World) : Prop := ∀ p v, w.cell? p = some v → w'.cell? p = some v
theorem Stays.of_below {w w' : World} (h : Below w.heap.size w w') : Stays w w' := fun _ _ hp =>
 (h.cell (World.block_lt_of_cell? w _ hp)).trans hp
theorem TopAt.keep {w w' : World} {p : Option Addr} {n : Nat} {A : Nat → Option Addr} {L C : Nat → Nat} (h : TopAt w p n A L C) (k : Stays w w') : TopAt w' p n A L C := by
 rcases h with h | ⟨b, o, h, hc⟩
 ·exact .inl h
 ·exact .inr ⟨b, o, h, fun i hi => k _ _ (hc i hi)⟩
theorem StrAt.keep {w w' : World} {p : Option Addr} {n : Nat} {x : Nat → Nat} (h : StrAt w p n x) (k : Stays w w') : StrAt w' p n x := by
 rcases h with h | ⟨b, o, h, hc⟩
 ·exact .inl h
 ·exact .inr ⟨b, o, h, fun i hi => k _ _ (hc i hi)⟩
theorem MatAt.keep {w w' : World} {p : Option Addr} {n : Nat} {A : Nat → Option Addr} {L C : Nat → Nat} {X : Nat → Nat → K} (h : MatAt w p n A L C X) (k : Stays w w') : MatAt w' p n A L C X :=
 ⟨h.top.keep k, fun i hi => (h.row i hi).keep k, h.le⟩

theorem ret_bool {a b : Bool} (h : a = b) : Ending.returned (.bool a) = .returned (.bool b) := by rw [h]

set_option maxHeartbeats 400000 in
theorem long1_any (p : Option Addr) (n c : Nat) (w : World) :
  Calls Tryz.prog 128 #[.slice p n c] w fun e w' => e = .returned (.bool (decide (32 < n))) ∧ w' = w := by
 by_cases hn : 32 < n
 ·go_enter Tryz.func128, Tryz.ntmps128
  go_wp2
  go_ret
  exact ⟨ret_bool (by simp; omega), rfl⟩
 ·go_enter Tryz.func128, Tryz.ntmps128
  go_wp2
  go_ret
  exact ⟨ret_bool (by simp; omega), rfl⟩

/-- The first row that is too long. -/
def tooLong (n : Nat) (L : Nat → Nat) : Bool := (List.range n).any fun i => decide (32 < L i)
theorem tooLong_true {n : Nat} {L : Nat → Nat} (i : Nat) (hi : i < n) (h : 32 < L i) : tooLong n L = true := by
 unfold tooLong; rw [List.any_eq_true]; exact ⟨i, by simpa using hi, by simpa using h⟩
theorem tooLong_false {n : Nat} {L : Nat → Nat} (h : ∀ i, i < n → L i ≤ 32) : tooLong n L = false := by
 unfold tooLong; rw [List.any_eq_false]; intro i hi; have := h i (by simpa using hi); simpa using this
set_option maxRecDepth 100000 in
set_option maxHeartbeats 400000 in
theorem indexFunc_any (p : Option Addr) (n c : Nat) (A : Nat → Option Addr) (L C : Nat → Nat) (w : World) (hn : n ≤ 100) (h : TopAt w p n A L C) :
  Calls Tryz.prog 130 #[.slice p n c, .func (.func 128) #[] #[]] w fun e w' => (∃ z : Int, -1 ≤ z ∧ z ≤ 100 ∧ e = .returned (.int .i64 z) ∧ decide (0 ≤ z) = tooLong n L) ∧ w' = w := by
 go_enter Tryz.func130, Tryz.ntmps130
 go_wp2
 go_loop [8] (fun i => ∃ k : Nat, k ≤ n ∧ i = .int .i64 k ∧ ∀ j, j < k → L j ≤ 32) (fun i => (n - intOf i).toNat)
 case atStart => exact ⟨0, by omega, rfl, fun j hj => absurd hj (by omega)⟩
 case round =>
  obtain ⟨k, hk, rfl, hs⟩ := hrel
  by_cases hlt : k < n
  ·obtain ⟨b, o, rfl, hc⟩ := h.pos (by omega)
   have c1 := hc k hlt
   clear h hc
   by_cases hb : 32 < L k
   ·have HB := hid (tooLong_true k hlt hb)
    have hd : decide (32 < L k) = true := by simpa using hb
    clear hs
    go_wp2_with (go_at_call 128; refine (long1_any _ _ _ _).mono ?_; rintro e w' ⟨rfl, rfl⟩; rw [hd])
    go_ret
    exact ⟨⟨_, by omega, by omega, rfl, by rw [HB.out]; simp⟩, rfl⟩
   ·have HS : Hid (∀ j, j < k + 1 → L j ≤ 32) := fun j hj => by
      by_cases e : j = k
      ·subst e; omega
      ·exact hs j (by omega)
    have hd : decide (32 < L k) = false := by simpa using hb
    clear hs
    go_wp2_with (go_at_call 128; refine (long1_any _ _ _ _).mono ?_; rintro e w' ⟨rfl, rfl⟩; rw [hd])
    go_round
    case rel => exact ⟨k + 1, by omega, by go_num, HS.out⟩
    case measure => simp [intOf]; omega
  ·have HB := hid (tooLong_false (L := L) (n := n) (fun i hi => hs i (by omega)))
   clear h hs
   go_wp2
   go_ret
   exact ⟨⟨_, by omega, by omega, rfl, by rw [HB.out]; rfl⟩, rfl⟩

set_option maxHeartbeats 400000 in
theorem contains_any (p : Option Addr) (n c : Nat) (A : Nat → Option Addr) (L C : Nat → Nat) (w : World) (hn : n ≤ 100) (h : TopAt w p n A L C) :
  Calls Tryz.prog 127 #[.slice p n c, .func (.func 128) #[] #[]] w fun e w' => e = .returned (.bool (tooLong n L)) ∧ w' = w := by
 go_enter Tryz.func127, Tryz.ntmps127
 go_wp2_with fail
 refine (indexFunc_any _ _ _ _ _ _ _ hn h).mono ?_
 rintro e w' ⟨⟨z, h1, h2, rfl, h3⟩, hw⟩
 have hw2 := hw.symm
 subst hw2
 clear hw
 have H3 := hid h3
 clear h3
 by_cases hz : 0 ≤ z
 ·go_wp2
  go_ret
  exact ⟨ret_bool (by rw [← H3.out]; first | done | simp [hz]), rfl⟩
 ·go_wp2
  go_ret
  exact ⟨ret_bool (by rw [← H3.out]; first | done | simp [hz]), rfl⟩

set_option maxHeartbeats 400000 in
theorem long_any (p : Option Addr) (n c : Nat) (A : Nat → Option Addr) (L C : Nat → Nat) (w : World) (hn : n ≤ 100) (h : TopAt w p n A L C) :
  Calls Tryz.prog 121 #[.slice p n c] w fun e w' => e = .returned (.bool (decide (32 < n) || tooLong n L)) ∧ w' = w := by
 by_cases h1 : 32 < n
 ·go_enter Tryz.func121, Tryz.ntmps121
  go_wp2
  go_ret
  exact ⟨ret_bool (by simp [h1]), rfl⟩
 ·go_enter Tryz.func121, Tryz.ntmps121
  go_wp2_with fail
  refine (contains_any _ _ _ _ _ _ _ hn h).mono ?_
  rintro e w' ⟨rfl, hw⟩
  have hw2 := hw.symm
  subst hw2
  clear hw
  go_wp2
  go_ret
  exact ⟨ret_bool (by simp [h1]), rfl⟩
end Go.Proofs.YtdohmokhfajjpaaGreatDoor.U

/- Matrices in memory of the call's own, and what a store into them makes; contracts of zeros and One of package matrix: the rows lie in new memory, each by itself; what was there is as it was. -/
namespace Go.Proofs.YtdohmokhfajjpaaGreatDoor.U
open Go.RowKit

theorem Tryz.info22 : (Tryz.prog.info? 22).map (fun i => (i.zero, i.size, i.bytes)) = some (some (.slice none 0 0), 1, 24) := by kernel_rfl
theorem Tryz.info3 : (Tryz.prog.info? 3).map (fun i => (i.zero, i.size, i.bytes)) = some (some (.int .i64 0), 1, 8) := by kernel_rfl

/-- One place turned. -/
def upd {α : Type} (f : Nat → α) (k : Nat) (v : α) : Nat → α := fun i => if i = k then v else f i
/-- One place of a matrix turned. -/
def up2 (X : Nat → Nat → K) (i j : Nat) (v : K) : Nat → Nat → K := fun r c => if r = i ∧ c = j then v else X r c
/-- The first n values. -/
def vals (n : Nat) (V : Nat → Value) : List Value := (List.range n).map V
theorem vals_len (n : Nat) (V : Nat → Value) : (vals n V).length = n := by simp [vals]
theorem vals_get (n : Nat) (V : Nat → Value) (i : Nat) (h : i < n) : (vals n V)[i]? = some (V i) := by simp [vals, h]
theorem vals_set (n : Nat) (V : Nat → Value) (k : Nat) (v : Value) : (vals n V).set k v = vals n (upd V k v) := by
 apply List.ext_getElem?
 intro i
 by_cases hi : i < n
 ·by_cases e : i = k
  ·subst e
   rw [List.getElem?_set_self (by rw [vals_len]; exact hi), vals_get _ _ _ hi]; simp [upd]
  ·rw [List.getElem?_set_ne (fun h => e h.symm), vals_get _ _ _ hi, vals_get _ _ _ hi]; simp [upd, e]
 ·rw [List.getElem?_eq_none (by rw [List.length_set, vals_len]; omega), List.getElem?_eq_none (by rw [vals_len]; omega)]
theorem vals_congr {n : Nat} {V W : Nat → Value} (h : ∀ i, i < n → V i = W i) : vals n V = vals n W := by
 unfold vals; exact List.map_congr_left (fun i hi => h i (by simpa using hi))
theorem vals_succ (n : Nat) (V : Nat → Value) : vals (n + 1) V = vals n V ++ [V n] := by simp [vals, List.range_succ]
/-- A byte's value. -/
def kv (a : K) : Value := .int .u8 ((a.val : Nat) : Int)
/-- A row's value. -/
def rv (g m c : Nat) : Value := .slice (some ⟨g, 0, none⟩) m c

/-- n rows of m numbers, X, in memory of the call's own (from block B on): each row in a block of its own. -/
structure OwnMat (B : Nat) (w : World) (g c n m : Nat) (G Q : Nat → Nat) (X : Nat → Nat → K) : Prop where
 top : w.ownsRow B 22 1 (.slice (some ⟨g, 0, none⟩) n c) n (vals n fun i => rv (G i) m (Q i))
 row : ∀ i, i < n → w.ownsRow B 5 1 (.slice (some ⟨G i, 0, none⟩) m (Q i)) m (vals m fun j => kv (X i j))
 inj : ∀ i j, i < n → j < n → G i = G j → i = j

theorem own_block {w : World} {B e g n c : Nat} {xs : List Value} (h : w.ownsRow B e 1 (.slice (some ⟨g, 0, none⟩) n c) n xs) : ∃ cur, w.heap[g]? = some (.cells cur e (0, 0)) := by
 rcases h.2 with ⟨h, _⟩ | ⟨g', cap, cur, hv, _, hg, _⟩
 ·cases h
 ·cases hv; exact ⟨cur, hg⟩
theorem own_ge {w : World} {B e g n c : Nat} {xs : List Value} (h : w.ownsRow B e 1 (.slice (some ⟨g, 0, none⟩) n c) n xs) : B ≤ g ∧ g < w.heap.size := h.lt g rfl
theorem own_le {w : World} {B e g n c : Nat} {xs : List Value} (h : w.ownsRow B e 1 (.slice (some ⟨g, 0, none⟩) n c) n xs) : n ≤ c := by
 rcases h.2 with ⟨h, _⟩ | ⟨g', cap, cur, hv, _, _, hc, _⟩
 ·cases h
 ·cases hv; exact hc
theorem own_keep {w w' : World} {B e g n c : Nat} {xs : List Value} (h : w.ownsRow B e 1 (.slice (some ⟨g, 0, none⟩) n c) n xs) (hb : w'.heap[g]? = w.heap[g]?) : w'.ownsRow B e 1 (.slice (some ⟨g, 0, none⟩) n c) n xs := by
 refine ⟨h.1, ?_⟩
 rcases h.2 with ⟨h, _⟩ | ⟨g', cap, cur, hv, h1, h2, h3⟩
 ·cases h
 ·cases hv; exact .inr ⟨g, c, cur, rfl, h1, hb.trans h2, h3⟩
theorem own_base {w : World} {B B' e g n c : Nat} {xs : List Value} (h : w.ownsRow B e 1 (.slice (some ⟨g, 0, none⟩) n c) n xs) (hb : B' ≤ B) : w.ownsRow B' e 1 (.slice (some ⟨g, 0, none⟩) n c) n xs := by
 refine ⟨h.1, ?_⟩
 rcases h.2 with ⟨h, _⟩ | ⟨g', cap, cur, hv, h1, h2, h3⟩
 ·cases h
 ·cases hv; exact .inr ⟨g, c, cur, rfl, Nat.le_trans hb h1, h2, h3⟩
theorem own_cell {w : World} {B e g n c : Nat} {V : Nat → Value} (h : w.ownsRow B e 1 (.slice (some ⟨g, 0, none⟩) n c) n (vals n V)) (i : Nat) (hi : i < n) : w.cell? ⟨g, i, none⟩ = some (V i) := by
 rw [h.cellAt i (by omega), vals_get n V i hi]
theorem own_apart {w : World} {B B' e e' g g' n n' c c' : Nat} {xs ys : List Value} (h : w.ownsRow B e 1 (.slice (some ⟨g, 0, none⟩) n c) n xs) (h' : w.ownsRow B' e' 1 (.slice (some ⟨g', 0, none⟩) n' c') n' ys) (he : e ≠ e') : g ≠ g' := by
 intro q
 obtain ⟨cur, h1⟩ := own_block h
 obtain ⟨cur', h2⟩ := own_block h'
 rw [← q, h1] at h2
 simp at h2
 exact he h2.2

section
variable {B : Nat} {w : World} {g c n m : Nat} {G Q : Nat → Nat} {X : Nat → Nat → K}
theorem OwnMat.apart (h : OwnMat B w g c n m G Q X) (i : Nat) (hi : i < n) : g ≠ G i := own_apart h.top (h.row i hi) (by decide)
theorem OwnMat.topCell (h : OwnMat B w g c n m G Q X) (i : Nat) (hi : i < n) : w.cell? ⟨g, i, none⟩ = some (.slice (some ⟨G i, 0, none⟩) m (Q i)) := own_cell h.top i hi
theorem OwnMat.cell (h : OwnMat B w g c n m G Q X) (i j : Nat) (hi : i < n) (hj : j < m) : w.cell? ⟨G i, j, none⟩ = some (.int .u8 ((X i j).val : Nat)) := own_cell (V := fun j => kv (X i j)) (h.row i hi) j hj
theorem OwnMat.free (h : OwnMat B w g c n m G Q X) (i j : Nat) (hi : i < n) : w.frozen? ⟨G i, j, none⟩ = false := (h.row i hi).frozenAt j
theorem OwnMat.ge (h : OwnMat B w g c n m G Q X) (i : Nat) (hi : i < n) : B ≤ G i ∧ G i < w.heap.size := own_ge (h.row i hi)
theorem OwnMat.rowLe (h : OwnMat B w g c n m G Q X) (i : Nat) (hi : i < n) : m ≤ Q i := own_le (h.row i hi)
theorem OwnMat.toMat (h : OwnMat B w g c n m G Q X) : MatAt w (some ⟨g, 0, none⟩) n (fun i => some ⟨G i, 0, none⟩) (fun _ => m) Q X where
 top := .inr ⟨g, 0, rfl, fun i hi => by rw [Nat.zero_add]; exact h.topCell i hi⟩
 row := fun i hi => .inr ⟨G i, 0, rfl, fun j hj => by rw [Nat.zero_add]; exact h.cell i j hi hj⟩
 le := fun i hi => h.rowLe i hi
theorem OwnMat.congr {Y : Nat → Nat → K} (h : OwnMat B w g c n m G Q X) (e : ∀ i, i < n → ∀ j, j < m → X i j = Y i j) : OwnMat B w g c n m G Q Y where
 top := h.top
 row := fun i hi => by
  have := h.row i hi
  rwa [vals_congr (W := fun j => kv (Y i j)) (fun j hj => by show kv (X i j) = kv (Y i j); rw [e i hi j hj])] at this
 inj := h.inj
theorem OwnMat.keep {w' : World} (h : OwnMat B w g c n m G Q X) (k : ∀ b, b < w.heap.size → w'.heap[b]? = w.heap[b]?) : OwnMat B w' g c n m G Q X where
 top := own_keep h.top (k g (own_ge h.top).2)
 row := fun i hi => own_keep (h.row i hi) (k _ (h.ge i hi).2)
 inj := h.inj
theorem OwnMat.base {B' : Nat} (h : OwnMat B w g c n m G Q X) (hb : B' ≤ B) : OwnMat B' w g c n m G Q X where
 top := own_base h.top hb
 row := fun i hi => own_base (h.row i hi) hb
 inj := h.inj
theorem OwnMat.set (h : OwnMat B w g c n m G Q X) (i j : Nat) (v : K) (hi : i < n) :
  OwnMat B (w.setCell ⟨G i, j, none⟩ (.int .u8 ((v.val : Nat) : Int))) g c n m G Q (up2 X i j v) where
 top := ownsRow_setCell_other h.top (by simp [Value.ownBlock]; exact h.apart i hi) _
 row := fun r hr => by
  by_cases e : r = i
  ·subst e
   have := ((h.row r hr).stored j (kv v)).1
   rw [vals_set] at this
   rwa [vals_congr (W := fun j' => kv (up2 X r j v r j')) (fun j' _ => by unfold upd up2; by_cases q : j' = j <;> simp [q])] at this
  ·have := ownsRow_setCell_other (h.row r hr) (a := ⟨G i, j, none⟩) (by simp [Value.ownBlock]; exact fun q => e (h.inj r i hr hi q)) (.int .u8 ((v.val : Nat) : Int))
   rwa [vals_congr (W := fun j' => kv (up2 X i j v r j')) (fun j' _ => by unfold up2; simp [e])] at this
 inj := h.inj
end

theorem run_make_top (n : Nat) (hn : n ≤ 70003) (w : World) :
  (Instr.makeSlice 25 (.int .i64 (n : Int)) (.int .i64 (n : Int))).run Tryz.prog w = .ok (.slice (some ⟨w.heap.size, 0, none⟩) n n) (w.alloc (.cells (madeCells #[.slice none 0 0] n) 22)) := by
 obtain ⟨i0, hi, hz0, hz1, hz2⟩ := info_parts Tryz.info22
 have h := run_make (P := Tryz.prog) w 25 22 i0 (.slice none 0 0) Tryz.underlying25 hi hz0 .i64 .i64 n n (by omega) (Int.le_refl _) (by rw [hz2]; omega) (by omega)
 rw [hz1] at h
 simpa [Value.cells] using h
theorem own_made (w : World) (e : TypeId) (z : Value) (n B : Nat) (hn : n ≤ 70003) (hB : B ≤ w.heap.size) : (w.alloc (.cells (madeCells #[z] n) e)).ownsRow B e 1 (.slice (some ⟨w.heap.size, 0, none⟩) n n) n (vals n fun _ => z) := by
 have h := World.ownsRow_lit (base := B) (e := e) (size := 1) w (madeCells #[z] n) n hB (by unfold maxLen; omega) (by rw [Nat.mul_one, ← Array.length_toList, toList_madeCells_one, List.length_replicate])
 rw [toList_madeCells_one] at h
 have e2 : List.replicate n z = vals n fun _ => z := by
  apply List.ext_getElem?
  intro i
  by_cases hi : i < n
  ·rw [vals_get _ _ _ hi]; simp [hi]
  ·rw [List.getElem?_eq_none (by simp; omega), List.getElem?_eq_none (by rw [vals_len]; omega)]
 rwa [e2] at h

/-- k rows are laid, the others are still nil. -/
structure Half (B : Nat) (w : World) (g cp n m k : Nat) (G : Nat → Nat) (Q : Nat → Nat) (X : Nat → Nat → K) (V : Nat → Value) : Prop where
 top : w.ownsRow B 22 1 (.slice (some ⟨g, 0, none⟩) n cp) n (vals n fun i => if i < k then rv (G i) m (Q i) else V i)
 row : ∀ i, i < k → w.ownsRow B 5 1 (.slice (some ⟨G i, 0, none⟩) m (Q i)) m (vals m fun j => kv (X i j))
 inj : ∀ i j, i < k → j < k → G i = G j → i = j
theorem Half.done {B : Nat} {w : World} {g cp n m : Nat} {G Q : Nat → Nat} {X : Nat → Nat → K} {V : Nat → Value} (h : Half B w g cp n m n G Q X V) : OwnMat B w g cp n m G Q X where
 top := by
  have := h.top
  rwa [vals_congr (W := fun i => rv (G i) m (Q i)) (fun i hi => by simp [hi])] at this
 row := h.row
 inj := h.inj
/-- A row more: it lies in a block that was not there. -/
theorem Half.push {B : Nat} {w w1 : World} {g cp n m k : Nat} {G Q : Nat → Nat} {X : Nat → Nat → K} {V : Nat → Value} (h : Half B w g cp n m k G Q X V) (hb : ∀ b, b < w.heap.size → w1.heap[b]? = w.heap[b]?)
  (g1 c1 : Nat) (hg : w.heap.size ≤ g1) (h1 : w1.ownsRow B 5 1 (.slice (some ⟨g1, 0, none⟩) m c1) m (vals m fun j => kv (X k j))) :
  Half B (w1.setCell ⟨g, k, none⟩ (rv g1 m c1)) g cp n m (k + 1) (upd G k g1) (upd Q k c1) X V where
 top := by
  have ht := own_keep h.top (hb g (own_ge h.top).2)
  have := (ht.stored k (rv g1 m c1)).1
  rw [vals_set] at this
  rwa [vals_congr (W := fun i => if i < k + 1 then rv (upd G k g1 i) m (upd Q k c1 i) else V i) (fun i _ => by
   unfold upd
   by_cases e : i = k
   ·subst e; simp
   ·by_cases q : i < k
    ·simp [e, q, show i < k + 1 by omega]
    ·simp [e, q, show ¬ i < k + 1 by omega])] at this
 row := fun i hi => by
  have hgt : g < w.heap.size := (own_ge h.top).2
  by_cases e : i = k
  ·subst e
   simp only [upd, if_true]
   exact ownsRow_setCell_other h1 (by simp [Value.ownBlock]; omega) _
  ·have hr := own_keep (h.row i (by omega)) (hb _ (own_ge (h.row i (by omega))).2)
   have ha := own_apart h.top (h.row i (by omega)) (by decide)
   simp only [upd, if_neg e]
   exact ownsRow_setCell_other hr (by simp [Value.ownBlock]; exact fun q => ha q.symm) _
 inj := fun i j hi hj q => by
  have hlt : ∀ i, i < k → G i < w.heap.size := fun i hi => (own_ge (h.row i hi)).2
  unfold upd at q
  by_cases e1 : i = k
  ·by_cases e2 : j = k
   ·omega
   ·rw [if_pos e1, if_neg e2] at q; have := hlt j (by omega); omega
  ·by_cases e2 : j = k
   ·rw [if_neg e1, if_pos e2] at q; have := hlt i (by omega); omega
   ·rw [if_neg e1, if_neg e2] at q; exact h.inj i j (by omega) (by omega) q

set_option maxRecDepth 100000 in
set_option maxHeartbeats 1000000 in
theorem zeros_any (n m : Nat) (w : World) (hn : n ≤ 100) (hm : m ≤ 100) :
  Calls Tryz.prog 58 #[.int .i64 n, .int .i64 m] w fun e w' => ∃ g G, e = .returned (.slice (some ⟨g, 0, none⟩) n n) ∧ OwnMat w.heap.size w' g n n m G (fun _ => m) (fun _ _ => 0) ∧ Below w.heap.size w w' := by
 have hmk := run_make_top n (by omega) w
 have h0 := own_made w 22 (.slice none 0 0) n w.heap.size (by omega) (Nat.le_refl _)
 have H0 := hid h0
 clear h0
 go_enter Tryz.func58, Tryz.ntmps58
 go_wp2
 clear hmk
 go_loopw [11] (fun i wr => ∃ k : Nat, ∃ G : Nat → Nat, k ≤ n ∧ i = .int .i64 k ∧ Half w.heap.size wr w.heap.size n n m k G (fun _ => m) (fun _ _ => 0) (fun _ => .slice none 0 0) ∧ Below w.heap.size w wr) (fun i _ => (n - intOf i).toNat)
 case atStart => exact ⟨0, fun _ => 0, by omega, rfl, ⟨by simpa using H0.out, fun i hi => absurd hi (by omega), fun i j hi => absurd hi (by omega)⟩, (Below.refl _ _).alloc (Nat.le_refl _) _⟩
 case round =>
  obtain ⟨k, G, hk, rfl, hh, hb⟩ := hrel
  clear H0
  by_cases hlt : k < n
  ·have hmk := run_make_u8 m (by omega) wr
   have hsz : w.heap.size < wr.heap.size := (own_ge hh.top).2
   have c1 : (wr.alloc (.cells (madeCells #[.int .u8 0] m) 5)).cell? ⟨w.heap.size, k, none⟩ = some (.slice none 0 0) := by
    rw [World.cell?_alloc_lt _ _ _ hsz, own_cell hh.top k hlt]; simp
   have c2 : (wr.alloc (.cells (madeCells #[.int .u8 0] m) 5)).frozen? ⟨w.heap.size, k, none⟩ = false := by
    rw [World.frozen?_alloc_old _ _ _ (Nat.ne_of_lt hsz)]; exact hh.top.frozenAt k
   have HP := hid (hh.push (w1 := wr.alloc (.cells (madeCells #[.int .u8 0] m) 5)) (fun b hb => Below.heap_alloc _ _ _ hb) wr.heap.size m (Nat.le_refl _) (own_made wr 5 (.int .u8 0) m w.heap.size (by omega) (by omega)))
   have HB := hid ((hb.alloc (by omega) (.cells (madeCells #[.int .u8 0] m) 5)).setCell (p := ⟨w.heap.size, k, none⟩) (Nat.le_refl _) (rv wr.heap.size m m))
   rw [World.setCell_alloc_past _ _ _ _ hsz] at HP HB
   clear hh hb
   go_wp2
   go_roundw
   case rel => exact ⟨k + 1, upd G k wr.heap.size, by omega, by go_num, by
    have := HP.out
    have e : upd (fun _ => m) k m = fun _ => m := by funext i; unfold upd; split <;> rfl
    rw [e] at this; exact this, HB.out⟩
   case measure => simp [intOf]; omega
  ·have e : k = n := by omega
   subst e
   have HO := hid hh.done
   have HB := hid hb
   clear hh hb
   go_wp2
   go_ret
   exact ⟨_, G, rfl, HO.out, HB.out⟩
end Go.Proofs.YtdohmokhfajjpaaGreatDoor.U

/- Contracts of One and Check of package matrix: the answer by the number, or the lengths; what was there is as it was. -/
namespace Go.Proofs.YtdohmokhfajjpaaGreatDoor.U
open Go.RowKit

theorem ret_se {v v' : Value} {c d : Int} (h : v = v') (h2 : c = d) : Ending.returned (.tuple #[v, .int .i64 c]) = .returned (.tuple #[v', .int .i64 d]) := by rw [h, h2]

theorem on_step (k : Nat) (i j : Nat) : up2 (fun i j => if i < k then on i j else 0) k k 1 i j = if i < k + 1 then on i j else 0 := by
 unfold up2 on
 by_cases e : i = k
 ·subst e
  by_cases q : j = i
  ·subst q; simp
  ·simp [q, show ¬ i = j from fun h => q h.symm]
 ·by_cases q : i < k
  ·simp [e, q, show i < k + 1 by omega]
  ·simp [e, q, show ¬ i < k + 1 by omega]

set_option maxRecDepth 100000 in
set_option maxHeartbeats 1000000 in
theorem one_any (n : Nat) (w : World) (h0 : 1 ≤ n) (hn : n ≤ 32) :
  Calls Tryz.prog 40 #[.int .i64 n] w fun e w' => ∃ g G, e = .returned (.tuple #[.slice (some ⟨g, 0, none⟩) n n, .int .i64 0]) ∧ OwnMat w.heap.size w' g n n n G (fun _ => n) on ∧ Below w.heap.size w w' := by
 go_enter Tryz.func40, Tryz.ntmps40
 go_wp2_with fail
 refine (zeros_any n n w (by omega) (by omega)).mono ?_
 rintro e w1 ⟨g, G, rfl, hm, hb⟩
 have HM := hid hm
 have HB := hid hb
 clear hm hb
 go_wp2_with fail
 go_loopw [18] (fun i wr => ∃ k : Nat, k ≤ n ∧ i = .int .i64 k ∧ OwnMat w.heap.size wr g n n n G (fun _ => n) (fun i j => if i < k then on i j else 0) ∧ Below w.heap.size w wr) (fun i _ => (n - intOf i).toNat)
 case atStart => exact ⟨0, by omega, rfl, HM.out.congr (fun i _ j _ => by simp), HB.out⟩
 case round =>
  obtain ⟨k, hk, rfl, hm, hb⟩ := hrel
  clear HM HB
  by_cases hlt : k < n
  ·have c1 := hm.topCell k hlt
   have c2 := hm.cell k k hlt hlt
   have c3 := hm.free k k hlt
   have hge := (hm.ge k hlt).1
   have HM := hid ((hm.set k k 1 hlt).congr (fun i _ j _ => on_step k i j))
   have HB := hid (hb.setCell (p := ⟨G k, k, none⟩) hge (.int .u8 (((1 : K).val : Nat) : Int)))
   clear hm hb
   go_wp2
   go_roundw
   case rel => exact ⟨k + 1, by omega, by go_num, HM.out, HB.out⟩
   case measure => simp [intOf]; omega
  ·have HM := hid (hm.congr (Y := on) (fun i hi j _ => by simp [show i < k by omega]))
   have HB := hid hb
   clear hm hb
   go_wp2
   go_ret2
   exact ⟨g, G, rfl, HM.out, HB.out⟩

/-- Check's answer. -/
def evenL (n : Nat) (L : Nat → Nat) : Bool := (List.range n).all fun i => L i == L 0
theorem evenL_true {n : Nat} {L : Nat → Nat} (h : ∀ i, i < n → L i = L 0) : evenL n L = true := by
 unfold evenL; rw [List.all_eq_true]; intro i hi; have := h i (by simpa using hi); simpa using this
theorem evenL_false {n : Nat} {L : Nat → Nat} (i : Nat) (hi : i < n) (h : L i ≠ L 0) : evenL n L = false := by
 unfold evenL; rw [List.all_eq_false]; exact ⟨i, by simpa using hi, by simpa using h⟩
def errC (n : Nat) (L : Nat → Nat) : Int := if (decide (32 < n) || tooLong n L) = true then 3 else if n = 0 ∨ L 0 = 0 then 2 else if evenL n L = true then 0 else 2
theorem errC_ok {n m : Nat} {L : Nat → Nat} (h1 : 1 ≤ n) (h2 : n ≤ 32) (h3 : 1 ≤ m) (h4 : m ≤ 32) (h : ∀ i, i < n → L i = m) : errC n L = 0 := by
 unfold errC
 have e1 : (decide (32 < n) || tooLong n L) = false := by
  rw [Bool.or_eq_false_iff]
  exact ⟨by simpa using h2, tooLong_false (fun i hi => by rw [h i hi]; exact h4)⟩
 have e0 := h 0 (by omega)
 rw [e1, if_neg (by decide), if_neg (by omega), evenL_true (fun i hi => by rw [h i hi, e0]), if_pos rfl]

set_option maxRecDepth 100000 in
set_option maxHeartbeats 1000000 in
theorem check_any (p : Option Addr) (n c : Nat) (A : Nat → Option Addr) (L C : Nat → Nat) (w : World) (hn : n ≤ 100) (h : TopAt w p n A L C) :
  Calls Tryz.prog 105 #[.slice p n c] w fun e w' => e = .returned (.int .i64 (errC n L)) ∧ w' = w := by
 cases h1 : (decide (32 < n) || tooLong n L) with
 | true =>
  have HE : Hid (errC n L = 3) := by unfold errC; rw [h1]; rfl
  go_enter Tryz.func105, Tryz.ntmps105
  go_wp2_with fail
  refine (long_any _ _ _ _ _ _ _ hn h).mono ?_
  rintro e w' ⟨rfl, hw⟩
  have hw2 := hw.symm
  subst hw2
  clear hw
  rw [h1]
  go_wp2
  go_ret
  exact ⟨ret_int HE.out.symm, rfl⟩
 | false =>
  by_cases h0 : n = 0
  ·have HE : Hid (errC n L = 2) := by unfold errC; rw [h1]; simp [h0]; trivial
   subst h0
   go_enter Tryz.func105, Tryz.ntmps105
   go_wp2_with fail
   refine (long_any _ _ _ _ _ _ _ hn h).mono ?_
   rintro e w' ⟨rfl, hw⟩
   have hw2 := hw.symm
   subst hw2
   clear hw
   rw [h1]
   go_wp2
   go_ret
   exact ⟨ret_int HE.out.symm, rfl⟩
  ·obtain ⟨b, o, rfl, hc⟩ := h.pos (by omega)
   have c0 := hc 0 (by omega)
   rw [Nat.add_zero] at c0
   have hnz : ((n : Int) == 0) = false := by simpa using h0
   by_cases h2 : L 0 = 0
   ·have HE : Hid (errC n L = 2) := by unfold errC; rw [h1]; simp [h2]; trivial
    have h2' : ((L 0 : Nat) : Int) == 0 := by simpa using h2
    go_enter Tryz.func105, Tryz.ntmps105
    go_wp2_with fail
    refine (long_any _ _ _ _ _ _ _ hn h).mono ?_
    rintro e w' ⟨rfl, hw⟩
    have hw2 := hw.symm
    subst hw2
    clear hw hc
    rw [h1]
    go_wp2
    go_ret
    exact ⟨ret_int HE.out.symm, rfl⟩
   ·have h2' : (((L 0 : Nat) : Int) == 0) = false := by simpa using h2
    go_enter Tryz.func105, Tryz.ntmps105
    go_wp2_with fail
    refine (long_any _ _ _ _ _ _ _ hn h).mono ?_
    rintro e w' ⟨rfl, hw⟩
    have hw2 := hw.symm
    subst hw2
    clear hw
    rw [h1]
    have HC := hid hc
    clear hc h
    go_wp2_with fail
    go_loop [19] (fun i => ∃ k : Nat, k ≤ n ∧ i = .int .i64 k ∧ ∀ j, j < k → L j = L 0) (fun i => (n - intOf i).toNat)
    case atStart => exact ⟨0, by omega, rfl, fun j hj => absurd hj (by omega)⟩
    case round =>
     obtain ⟨k, hk, rfl, hs⟩ := hrel
     by_cases hlt : k < n
     ·have c1 := HC.out k hlt
      by_cases e : L k = L 0
      ·have HS : Hid (∀ j, j < k + 1 → L j = L 0) := fun j hj => by
         by_cases q : j = k
         ·rw [q]; exact e
         ·exact hs j (by omega)
       have e' : (((L k : Nat) : Int) != ((L 0 : Nat) : Int)) = false := by rw [e]; simp
       clear hs e HC
       go_wp2
       go_round
       case rel => exact ⟨k + 1, by omega, by go_num, HS.out⟩
       case measure => simp [intOf]; omega
      ·have e' : (((L k : Nat) : Int) != ((L 0 : Nat) : Int)) = true := by simp; omega
       have HE : Hid (errC n L = 2) := by unfold errC; rw [h1, evenL_false k hlt e]; simp; trivial
       clear hs HC e
       go_wp2
       go_ret
       exact ⟨ret_int HE.out.symm, rfl⟩
     ·have e : evenL n L = true := evenL_true (fun i hi => hs i (by omega))
      have HE : Hid (errC n L = 0) := by unfold errC; rw [h1, e]; simp [h0, h2]; trivial
      clear hs HC e
      go_wp2
      go_ret
      exact ⟨ret_int HE.out.symm, rfl⟩
end Go.Proofs.YtdohmokhfajjpaaGreatDoor.U

/- Contracts of turned and Mul of package matrix: the product lies in new memory, or the error's number by the lengths; what was there is as it was. -/
namespace Go.Proofs.YtdohmokhfajjpaaGreatDoor.U
open Go.RowKit

theorem MatAt.at {w : World} {p : Option Addr} {n m : Nat} {A : Nat → Option Addr} {C : Nat → Nat} {X : Nat → Nat → K} (h : MatAt w p n A (fun _ => m) C X) (hn : 0 < n) (hm : 0 < m) :
  ∃ b o, p = some ⟨b, o, none⟩ ∧ ∃ bs os : Nat → Nat, (∀ i, i < n → w.cell? ⟨b, o + i, none⟩ = some (.slice (some ⟨bs i, os i, none⟩) m (C i))) ∧ ∀ i, i < n → RowAt w (bs i) (os i) m (fun j => (X i j).val) := by
 obtain ⟨b, o, hp, hc⟩ := h.top.pos hn
 have hr : ∀ i, i < n → ∃ y : Nat × Nat, A i = some ⟨y.1, y.2, none⟩ ∧ RowAt w y.1 y.2 m (fun j => (X i j).val) := fun i hi => by
  rcases h.row i hi with q | ⟨b', o', q1, q2⟩
  ·omega
  ·exact ⟨(b', o'), q1, q2⟩
 have hf : ∃ f : Nat → Nat × Nat, ∀ i, i < n → A i = some ⟨(f i).1, (f i).2, none⟩ ∧ RowAt w (f i).1 (f i).2 m (fun j => (X i j).val) := by
  classical
  refine ⟨fun i => if hi : i < n then Classical.choose (hr i hi) else (0, 0), fun i hi => ?_⟩
  simp only [dif_pos hi]
  exact Classical.choose_spec (hr i hi)
 obtain ⟨f, hf⟩ := hf
 exact ⟨b, o, hp, fun i => (f i).1, fun i => (f i).2, fun i hi => by rw [hc i hi, (hf i hi).1], fun i hi => (hf i hi).2⟩
theorem RowAt.keep {w w' : World} {b o n : Nat} {x : Nat → Nat} (h : RowAt w b o n x) (k : Stays w w') : RowAt w' b o n x := fun i hi => k _ _ (h i hi)

/-- The columns as far as they were gone through. -/
def turnTo (X : Nat → Nat → K) (i j : Nat) : Nat → Nat → K := fun r c => if c < i ∨ (c = i ∧ r < j) then X c r else 0
theorem turnTo_step (X : Nat → Nat → K) (i j r c : Nat) : up2 (turnTo X i j) j i (X i j) r c = turnTo X i (j + 1) r c := by
 unfold up2 turnTo
 by_cases e : r = j ∧ c = i
 ·obtain ⟨rfl, rfl⟩ := e; simp
 ·rw [if_neg e]
  by_cases q : c < i ∨ (c = i ∧ r < j)
  ·rw [if_pos q, if_pos (by omega)]
  ·rw [if_neg q, if_neg (by omega)]
theorem turnTo_next (X : Nat → Nat → K) (i m r c : Nat) (hr : r < m) : turnTo X i m r c = turnTo X (i + 1) 0 r c := by
 unfold turnTo
 by_cases q : c < i ∨ (c = i ∧ r < m)
 ·rw [if_pos q, if_pos (by omega)]
 ·rw [if_neg q, if_neg (by omega)]

set_option maxRecDepth 100000 in
set_option maxHeartbeats 2000000 in
theorem turned_any (p : Option Addr) (n m c : Nat) (A : Nat → Option Addr) (C : Nat → Nat) (X : Nat → Nat → K) (w : World) (h : MatAt w p n A (fun _ => m) C X) (h0 : 1 ≤ n) (hn : n ≤ 32) (h1 : 1 ≤ m) (hm : m ≤ 32) :
  Calls Tryz.prog 110 #[.slice p n c] w fun e w' => ∃ g G, e = .returned (.slice (some ⟨g, 0, none⟩) m m) ∧ OwnMat w.heap.size w' g m m n G (fun _ => n) (fun j i => X i j) ∧ Below w.heap.size w w' := by
 obtain ⟨b, o, rfl, bs, os, hc, hr⟩ := h.at (by omega) (by omega)
 clear h
 have c0 := hc 0 (by omega)
 rw [Nat.add_zero] at c0
 have HC := hid hc
 have HR := hid hr
 clear hc hr
 go_enter Tryz.func110, Tryz.ntmps110
 go_wp2_with fail
 refine (zeros_any m n w (by omega) (by omega)).mono ?_
 rintro e w1 ⟨g, G, rfl, hmat, hb⟩
 have HM := hid hmat
 have HB := hid hb
 clear hmat hb
 go_wp2_with fail
 go_loopw [17] (fun i wr => ∃ k : Nat, k ≤ n ∧ i = .int .i64 k ∧ OwnMat w.heap.size wr g m m n G (fun _ => n) (turnTo X k 0) ∧ Below w.heap.size w wr) (fun i _ => (n - intOf i).toNat)
 case atStart => exact ⟨0, by omega, rfl, HM.out.congr (fun i _ j _ => by simp [turnTo]), HB.out⟩
 case round =>
  obtain ⟨k, hk, rfl, hmat, hb⟩ := hrel
  clear HM HB
  by_cases hlt : k < n
  ·have c1 : wr.cell? ⟨b, o + k, none⟩ = some (.slice (some ⟨bs k, os k, none⟩) m (C k)) := Stays.of_below hb _ _ (HC.out k hlt)
   have HM := hid hmat
   have HB := hid hb
   clear hmat hb
   go_wp2_with fail
   go_loopw [24] (fun i wr => ∃ l : Nat, l ≤ m ∧ i = .int .i64 l ∧ OwnMat w.heap.size wr g m m n G (fun _ => n) (turnTo X k l) ∧ Below w.heap.size w wr) (fun i _ => (m - intOf i).toNat)
   case atStart => exact ⟨0, by omega, rfl, HM.out, HB.out⟩
   case round =>
    clear HM HB c1 c0
    obtain ⟨l, hl, rfl, hmat, hb⟩ := hrel
    by_cases hlt2 : l < m
    ·have c1 : wr.cell? ⟨bs k, os k + l, none⟩ = some (.int .u8 ((X k l).val : Nat)) := Stays.of_below hb _ _ (HR.out k hlt l hlt2)
     have c2 := hmat.topCell l hlt2
     have c3 := hmat.cell l k hlt2 hlt
     have c4 := hmat.free l k hlt2
     have hge := (hmat.ge l hlt2).1
     have HM := hid ((hmat.set l k (X k l) hlt2).congr (fun r _ c _ => turnTo_step X k l r c))
     have HB := hid (hb.setCell (p := ⟨G l, k, none⟩) hge (.int .u8 (((X k l).val : Nat) : Int)))
     clear hmat hb HR HC
     go_wp2
     go_roundw
     case rel => exact ⟨l + 1, by omega, by go_num, HM.out, HB.out⟩
     case measure => simp [intOf]; omega
    ·have HM := hid (hmat.congr (fun r hr c _ => turnTo_next X k l r c (by omega)))
     have HB := hid hb
     clear hmat hb HR HC
     go_wp2
     go_roundw
     case rel => exact ⟨k + 1, by omega, by go_num, HM.out, HB.out⟩
     case measure => simp [intOf]; omega
  ·have HM := hid (hmat.congr (Y := fun j i => X i j) (fun i hi j hj => by simp [turnTo, show j < k by omega]))
   have HB := hid hb
   clear hmat hb HR HC
   go_wp2
   go_ret
   exact ⟨g, G, rfl, HM.out, HB.out⟩

theorem dotN_sm (x y : Nat → K) : ∀ n, dotN (fun i => (x i).val) (fun i => (y i).val) n = (sm (fun i => x i * y i) n).val
 | 0 => rfl
 | n + 1 => by show _ ^^^ _ = (sm (fun i => x i * y i) n + x n * y n).val; rw [dotN_sm x y n]; rfl

theorem dot_k (bx ox nx cx bY oy cy : Nat) (x y : Nat → K) (w : World) (hn : nx ≤ 100) (hcx : nx ≤ cx) (hcy : nx ≤ cy)
  (cellx : RowAt w bx ox nx fun j => (x j).val) (celly : RowAt w bY oy nx fun j => (y j).val) :
  Calls Tryz.prog 42 #[.slice (some ⟨bx, ox, none⟩) nx cx, .slice (some ⟨bY, oy, none⟩) nx cy] w fun e w' => e = .returned (.tuple #[.int .u8 ((sm (fun i => x i * y i) nx).val : Nat), .int .i64 0]) ∧ w' = w := by
 rw [← dotN_sm]
 exact dot_some bx ox nx cx bY oy cy _ _ w (by omega) hcx hcy (fun i _ => (x i).lt) (fun i _ => (y i).lt) cellx celly
end Go.Proofs.YtdohmokhfajjpaaGreatDoor.U

/- Contract of Mul of package matrix: the product lies in new memory, or the error's number by the lengths; what was there is as it was. -/
namespace Go.Proofs.YtdohmokhfajjpaaGreatDoor.U
open Go.RowKit

/-- The product as far as it was gone through. -/
def prodTo (P : Nat → Nat → K) (i j : Nat) : Nat → Nat → K := fun r c => if r < i ∨ (r = i ∧ c < j) then P r c else 0
theorem prodTo_step (P : Nat → Nat → K) (i j r c : Nat) : up2 (prodTo P i j) i j (P i j) r c = prodTo P i (j + 1) r c := by
 unfold up2 prodTo
 by_cases e : r = i ∧ c = j
 ·obtain ⟨rfl, rfl⟩ := e; simp
 ·rw [if_neg e]
  by_cases q : r < i ∨ (r = i ∧ c < j)
  ·rw [if_pos q, if_pos (by omega)]
  ·rw [if_neg q, if_neg (by omega)]
theorem prodTo_next (P : Nat → Nat → K) (i m r c : Nat) (hc : c < m) : prodTo P i m r c = prodTo P (i + 1) 0 r c := by
 unfold prodTo
 by_cases q : r < i ∨ (r = i ∧ c < m)
 ·rw [if_pos q, if_pos (by omega)]
 ·rw [if_neg q, if_neg (by omega)]
theorem OwnMat.rowAt {B : Nat} {w : World} {g c n m : Nat} {G Q : Nat → Nat} {X : Nat → Nat → K} (h : OwnMat B w g c n m G Q X) (i : Nat) (hi : i < n) : RowAt w (G i) 0 m (fun j => (X i j).val) :=
 fun j hj => by rw [Nat.zero_add]; exact h.cell i j hi hj
theorem OwnMat.stay {B : Nat} {w w' : World} {g c n m : Nat} {G Q : Nat → Nat} {X : Nat → Nat → K} (h : OwnMat B w g c n m G Q X) (hb : Below w.heap.size w w') : OwnMat B w' g c n m G Q X := h.keep hb.block
theorem OwnMat.drew {B : Nat} {w : World} {g c n m : Nat} {G Q : Nat → Nat} {X : Nat → Nat → K} (h : OwnMat B w g c n m G Q X) : OwnMat B w.drew g c n m G Q X := h.keep (fun _ _ => rfl)
theorem OwnMat.setBelow {B B' : Nat} {w : World} {g c n m : Nat} {G Q : Nat → Nat} {X : Nat → Nat → K} (h : OwnMat B w g c n m G Q X) (hlt : ∀ i, i < n → G i < B') (hg : g < B') (a : Addr) (ha : B' ≤ a.block) (v : Value) : OwnMat B (w.setCell a v) g c n m G Q X where
 top := ownsRow_setCell_other h.top (by simp [Value.ownBlock]; omega) _
 row := fun i hi => ownsRow_setCell_other (h.row i hi) (by simp [Value.ownBlock]; have := hlt i hi; omega) _
 inj := h.inj

set_option maxRecDepth 100000 in
set_option maxHeartbeats 4000000 in
theorem mul_ok (p q : Option Addr) (n m l c d : Nat) (A A' : Nat → Option Addr) (C C' : Nat → Nat) (X Y : Nat → Nat → K) (w : World) (h : MatAt w p n A (fun _ => m) C X) (h' : MatAt w q m A' (fun _ => l) C' Y)
  (h0 : 1 ≤ n) (hn : n ≤ 32) (h1 : 1 ≤ m) (hm : m ≤ 32) (h2 : 1 ≤ l) (hl : l ≤ 32) :
  Calls Tryz.prog 95 #[.slice p n c, .slice q m d] w fun e w' => ∃ g G, e = .returned (.tuple #[.slice (some ⟨g, 0, none⟩) n n, .int .i64 0]) ∧ OwnMat w.heap.size w' g n n l G (fun _ => l) (pr m X Y) ∧ Below w.heap.size w w' := by
 have HE1 : Hid (errC n (fun _ => m) = 0) := errC_ok h0 hn h1 hm (fun _ _ => rfl)
 have HE2 : Hid (errC m (fun _ => l) = 0) := errC_ok h1 hm h2 hl (fun _ _ => rfl)
 have H' := hid h'
 have T := hid h.top
 have T' := hid h'.top
 have HLE := hid h.le
 obtain ⟨b, o, rfl, bs, os, hc, hr⟩ := h.at (by omega) (by omega)
 clear h h'
 have c0 := hc 0 (by omega)
 rw [Nat.add_zero] at c0
 have HC := hid hc
 have HR := hid hr
 clear hc hr
 go_enter Tryz.func95, Tryz.ntmps95
 go_wp2_with fail
 refine (check_any _ _ _ _ _ _ _ (by omega) T.out).mono ?_
 rintro e w' ⟨rfl, hw⟩
 have hw2 := hw.symm
 subst hw2
 clear hw T
 rw [HE1.out]
 clear HE1
 go_wp2_with fail
 refine (check_any _ _ _ _ _ _ _ (by omega) T'.out).mono ?_
 rintro e w' ⟨rfl, hw⟩
 have hw2 := hw.symm
 subst hw2
 clear hw T'
 rw [HE2.out]
 clear HE2
 go_wp2_with fail
 refine (turned_any q m l d A' C' Y w H'.out h1 hm h2 hl).mono ?_
 rintro e w1 ⟨gc, Gc, rfl, hcol, hb1⟩
 have HCOL := hid hcol
 have HB1 := hid hb1
 clear hcol hb1 H'
 go_wp2_with fail
 refine (zeros_any n l w1 (by omega) (by omega)).mono ?_
 rintro e w2 ⟨g, G, rfl, hmat, hb⟩
 have HM := hid hmat
 have HCOL2 := hid (HCOL.out.stay hb)
 have HLT : Hid ((∀ i, i < l → Gc i < w1.heap.size) ∧ gc < w1.heap.size) := ⟨fun i hi => (HCOL.out.ge i hi).2, (own_ge HCOL.out.top).2⟩
 have HSZ := hid HB1.out.size
 have HB := hid (HB1.out.trans (hb.mono HSZ.out))
 clear hmat hb HCOL HB1
 go_wp2_with fail
 go_loopw [40] (fun i wr => ∃ k : Nat, k ≤ n ∧ i = .int .i64 k ∧ OwnMat w1.heap.size wr g n n l G (fun _ => l) (prodTo (pr m X Y) k 0) ∧ Below w.heap.size w wr ∧ OwnMat w.heap.size wr gc l l m Gc (fun _ => m) (fun j i => Y i j)) (fun i _ => (n - intOf i).toNat)
 case atStart => exact ⟨0, by omega, rfl, HM.out.congr (fun i _ j _ => by simp [prodTo]), HB.out, HCOL2.out⟩
 case round =>
  obtain ⟨k, hk, rfl, hmat, hb, hcol⟩ := hrel
  clear HM HB HCOL2 c0
  by_cases hlt : k < n
  ·have c1 : wr.cell? ⟨b, o + k, none⟩ = some (.slice (some ⟨bs k, os k, none⟩) m (C k)) := Stays.of_below hb _ _ (HC.out k hlt)
   have HM := hid hmat
   have HB := hid hb
   have HCOL := hid hcol
   clear hmat hb hcol
   go_wp2_with fail
   go_loopw [47] (fun i wr => ∃ j : Nat, j ≤ l ∧ i = .int .i64 j ∧ OwnMat w1.heap.size wr g n n l G (fun _ => l) (prodTo (pr m X Y) k j) ∧ Below w.heap.size w wr ∧ OwnMat w.heap.size wr gc l l m Gc (fun _ => m) (fun j i => Y i j)) (fun i _ => (l - intOf i).toNat)
   case atStart => exact ⟨0, by omega, rfl, HM.out, HB.out, HCOL.out⟩
   case round =>
    clear HM HB HCOL c1
    obtain ⟨j, hj, rfl, hmat, hb, hcol⟩ := hrel
    by_cases hlt2 : j < l
    ·have r1 : RowAt wr.drew (bs k) (os k) m (fun i => (X k i).val) := (HR.out k hlt).keep (Stays.of_below hb.drew)
     have r2 : RowAt wr.drew (Gc j) 0 m (fun i => (Y i j).val) := hcol.rowAt j hlt2
     have c2 := hcol.topCell j hlt2
     have c3 := hmat.topCell k hlt
     have c4 := hmat.cell k j hlt hlt2
     have c5 := hmat.free k j hlt
     have C6 : Hid (∀ v, (wr.setCell ⟨G k, j, none⟩ v).drew.cell? ⟨g, k, none⟩ = some (.slice (some ⟨G k, 0, none⟩) l l)) := fun v => by
      show (wr.setCell ⟨G k, j, none⟩ v).cell? ⟨g, k, none⟩ = _
      rw [World.cell?_setCell_other _ _ _ _ (by intro q; have := hmat.apart k hlt; cases q; omega)]; exact c3
     have hge := (hmat.ge k hlt).1
     have hle := HLE.out k hlt
     have hw1 := HSZ.out
     have HM := hid ((hmat.set k j (pr m X Y k j) hlt).congr (fun r _ c _ => prodTo_step (pr m X Y) k j r c))
     have HB := hid ((hb.setCell (p := ⟨G k, j, none⟩) (by show w.heap.size ≤ G k; omega) (.int .u8 (((pr m X Y k j).val : Nat) : Int))).drew)
     have HCOL := hid (hcol.setBelow HLT.out.1 HLT.out.2 ⟨G k, j, none⟩ hge (.int .u8 (((pr m X Y k j).val : Nat) : Int)))
     clear hmat hb hcol HR HC HLT HLE HSZ
     go_wp2_with fail
     go_region_held3 (fun w' => w'.cell? ⟨g, k, none⟩ = some (.slice (some ⟨G k, 0, none⟩) l l)) (first | exact C6.out _ | go_keep) (first | (go_at_call 42; refine (dot_k _ _ m _ _ _ _ (X k) (fun i => Y i j) _ (by omega) hle (by omega) (by exact r1) (by exact r2)).mono ?_; rintro e w3 ⟨rfl, rfl⟩))
     go_wp2
     go_roundw
     case rel => exact ⟨j + 1, by omega, by go_num, HM.out.drew, HB.out, HCOL.out.drew⟩
     case measure => simp [intOf]; omega
    ·have HM := hid (hmat.congr (fun r _ c hr => prodTo_next (pr m X Y) k j r c (by omega)))
     have HB := hid hb
     have HCOL := hid hcol
     clear hmat hb HR HC hcol HLT HLE HSZ
     go_wp2
     go_roundw
     case rel => exact ⟨k + 1, by omega, by go_num, HM.out, HB.out, HCOL.out⟩
     case measure => simp [intOf]; omega
  ·have HM := hid ((hmat.congr (Y := pr m X Y) (fun i hi j hj => by simp [prodTo, show i < k by omega])).base HSZ.out)
   have HB := hid hb
   clear hmat hb HR HC hcol HLT HLE HSZ
   go_wp2
   go_ret2
   exact ⟨g, G, rfl, HM.out, HB.out⟩

end Go.Proofs.YtdohmokhfajjpaaGreatDoor.U
