/- Matrices in memory of the call's own, and what a store into them makes; contracts of zeros and One of package matrix: the rows lie in new memory, each by itself; what was there is as it was. -/
import Derived.Test.YtapgdenodhcliaaMa
import Derived.Laws.OwnMore
import Derived.Deep.AppendLies
namespace Go.Proofs.Ytapgdenodhcliaa
open Go.RowKit

theorem Try.info22 : (Try.prog.info? 22).map (fun i => (i.zero, i.size, i.bytes)) = some (some (.slice none 0 0), 1, 24) := by kernel_rfl
theorem Try.info3 : (Try.prog.info? 3).map (fun i => (i.zero, i.size, i.bytes)) = some (some (.int .i64 0), 1, 8) := by kernel_rfl

/-- One place turned. -/
def upd {α : Type} (f : Nat → α) (k : Nat) (v : α) : Nat → α := fun i => if i = k then v else f i
/-- One place of a matrix turned. -/
def up2 (X : Nat → Nat → K) (i j : Nat) (v : K) : Nat → Nat → K := fun r c => if r = i ∧ c = j then v else X r c
/-- The first n values. -/
def vals (n : Nat) (V : Nat → Value) : List Value := (List.range n).map V
theorem vals_len (n : Nat) (V : Nat → Value) : (vals n V).length = n := by simp [vals]
theorem vals_get (n : Nat) (V : Nat → Value) (i : Nat) (h : i < n) : (vals n V)[i]? = some (V i) := by simp [vals, h]
theorem vals_set (n : Nat) (V : Nat → Value) (k : Nat) (v : Value) : (vals n V).set k v = vals n (upd V k v) := by
  apply List.ext_getElem?
  intro i
  by_cases hi : i < n
  · by_cases e : i = k
    · subst e
      rw [List.getElem?_set_self (by rw [vals_len]; exact hi), vals_get _ _ _ hi]; simp [upd]
    · rw [List.getElem?_set_ne (fun h => e h.symm), vals_get _ _ _ hi, vals_get _ _ _ hi]; simp [upd, e]
  · rw [List.getElem?_eq_none (by rw [List.length_set, vals_len]; omega), List.getElem?_eq_none (by rw [vals_len]; omega)]
theorem vals_congr {n : Nat} {V W : Nat → Value} (h : ∀ i, i < n → V i = W i) : vals n V = vals n W := by
  unfold vals; exact List.map_congr_left (fun i hi => h i (by simpa using hi))
theorem vals_succ (n : Nat) (V : Nat → Value) : vals (n + 1) V = vals n V ++ [V n] := by simp [vals, List.range_succ]
/-- A byte's value. -/
def kv (a : K) : Value := .int .u8 ((a.val : Nat) : Int)
/-- A row's value. -/
def rv (g m c : Nat) : Value := .slice (some ⟨g, 0, none⟩) m c

/-- n rows of m numbers, X, in memory of the call's own (from block B on): each row in a block of its own. -/
structure OwnMat (B : Nat) (w : World) (g c n m : Nat) (G Q : Nat → Nat) (X : Nat → Nat → K) : Prop where
  top : w.ownsRow B 22 1 (.slice (some ⟨g, 0, none⟩) n c) n (vals n fun i => rv (G i) m (Q i))
  row : ∀ i, i < n → w.ownsRow B 5 1 (.slice (some ⟨G i, 0, none⟩) m (Q i)) m (vals m fun j => kv (X i j))
  inj : ∀ i j, i < n → j < n → G i = G j → i = j

theorem own_block {w : World} {B e g n c : Nat} {xs : List Value} (h : w.ownsRow B e 1 (.slice (some ⟨g, 0, none⟩) n c) n xs) : ∃ cur, w.heap[g]? = some (.cells cur e (0, 0)) := by
  rcases h.2 with ⟨h, _⟩ | ⟨g', cap, cur, hv, _, hg, _⟩
  · cases h
  · cases hv; exact ⟨cur, hg⟩
theorem own_ge {w : World} {B e g n c : Nat} {xs : List Value} (h : w.ownsRow B e 1 (.slice (some ⟨g, 0, none⟩) n c) n xs) : B ≤ g ∧ g < w.heap.size := h.lt g rfl
theorem own_le {w : World} {B e g n c : Nat} {xs : List Value} (h : w.ownsRow B e 1 (.slice (some ⟨g, 0, none⟩) n c) n xs) : n ≤ c := by
  rcases h.2 with ⟨h, _⟩ | ⟨g', cap, cur, hv, _, _, hc, _⟩
  · cases h
  · cases hv; exact hc
theorem own_keep {w w' : World} {B e g n c : Nat} {xs : List Value} (h : w.ownsRow B e 1 (.slice (some ⟨g, 0, none⟩) n c) n xs) (hb : w'.heap[g]? = w.heap[g]?) : w'.ownsRow B e 1 (.slice (some ⟨g, 0, none⟩) n c) n xs := by
  refine ⟨h.1, ?_⟩
  rcases h.2 with ⟨h, _⟩ | ⟨g', cap, cur, hv, h1, h2, h3⟩
  · cases h
  · cases hv; exact .inr ⟨g, c, cur, rfl, h1, hb.trans h2, h3⟩
theorem own_base {w : World} {B B' e g n c : Nat} {xs : List Value} (h : w.ownsRow B e 1 (.slice (some ⟨g, 0, none⟩) n c) n xs) (hb : B' ≤ B) : w.ownsRow B' e 1 (.slice (some ⟨g, 0, none⟩) n c) n xs := by
  refine ⟨h.1, ?_⟩
  rcases h.2 with ⟨h, _⟩ | ⟨g', cap, cur, hv, h1, h2, h3⟩
  · cases h
  · cases hv; exact .inr ⟨g, c, cur, rfl, Nat.le_trans hb h1, h2, h3⟩
theorem own_cell {w : World} {B e g n c : Nat} {V : Nat → Value} (h : w.ownsRow B e 1 (.slice (some ⟨g, 0, none⟩) n c) n (vals n V)) (i : Nat) (hi : i < n) : w.cell? ⟨g, i, none⟩ = some (V i) := by
  rw [h.cellAt i (by omega), vals_get n V i hi]
theorem own_apart {w : World} {B B' e e' g g' n n' c c' : Nat} {xs ys : List Value} (h : w.ownsRow B e 1 (.slice (some ⟨g, 0, none⟩) n c) n xs) (h' : w.ownsRow B' e' 1 (.slice (some ⟨g', 0, none⟩) n' c') n' ys) (he : e ≠ e') : g ≠ g' := by
  intro q
  obtain ⟨cur, h1⟩ := own_block h
  obtain ⟨cur', h2⟩ := own_block h'
  rw [← q, h1] at h2
  simp at h2
  exact he h2.2

section
variable {B : Nat} {w : World} {g c n m : Nat} {G Q : Nat → Nat} {X : Nat → Nat → K}
theorem OwnMat.apart (h : OwnMat B w g c n m G Q X) (i : Nat) (hi : i < n) : g ≠ G i := own_apart h.top (h.row i hi) (by decide)
theorem OwnMat.topCell (h : OwnMat B w g c n m G Q X) (i : Nat) (hi : i < n) : w.cell? ⟨g, i, none⟩ = some (.slice (some ⟨G i, 0, none⟩) m (Q i)) := own_cell h.top i hi
theorem OwnMat.topFree (h : OwnMat B w g c n m G Q X) (i : Nat) : w.frozen? ⟨g, i, none⟩ = false := h.top.frozenAt i
theorem OwnMat.cell (h : OwnMat B w g c n m G Q X) (i j : Nat) (hi : i < n) (hj : j < m) : w.cell? ⟨G i, j, none⟩ = some (.int .u8 ((X i j).val : Nat)) := own_cell (V := fun j => kv (X i j)) (h.row i hi) j hj
theorem OwnMat.free (h : OwnMat B w g c n m G Q X) (i j : Nat) (hi : i < n) : w.frozen? ⟨G i, j, none⟩ = false := (h.row i hi).frozenAt j
theorem OwnMat.ge (h : OwnMat B w g c n m G Q X) (i : Nat) (hi : i < n) : B ≤ G i ∧ G i < w.heap.size := own_ge (h.row i hi)
theorem OwnMat.rowLe (h : OwnMat B w g c n m G Q X) (i : Nat) (hi : i < n) : m ≤ Q i := own_le (h.row i hi)
theorem OwnMat.toMat (h : OwnMat B w g c n m G Q X) : MatAt w (some ⟨g, 0, none⟩) n (fun i => some ⟨G i, 0, none⟩) (fun _ => m) Q X where
  top := .inr ⟨g, 0, rfl, fun i hi => by rw [Nat.zero_add]; exact h.topCell i hi⟩
  row := fun i hi => .inr ⟨G i, 0, rfl, fun j hj => by rw [Nat.zero_add]; exact h.cell i j hi hj⟩
  le := fun i hi => h.rowLe i hi
theorem OwnMat.congr {Y : Nat → Nat → K} (h : OwnMat B w g c n m G Q X) (e : ∀ i, i < n → ∀ j, j < m → X i j = Y i j) : OwnMat B w g c n m G Q Y where
  top := h.top
  row := fun i hi => by
    have := h.row i hi
    rwa [vals_congr (W := fun j => kv (Y i j)) (fun j hj => by show kv (X i j) = kv (Y i j); rw [e i hi j hj])] at this
  inj := h.inj
theorem OwnMat.keep {w' : World} (h : OwnMat B w g c n m G Q X) (k : ∀ b, b < w.heap.size → w'.heap[b]? = w.heap[b]?) : OwnMat B w' g c n m G Q X where
  top := own_keep h.top (k g (own_ge h.top).2)
  row := fun i hi => own_keep (h.row i hi) (k _ (h.ge i hi).2)
  inj := h.inj
theorem OwnMat.base {B' : Nat} (h : OwnMat B w g c n m G Q X) (hb : B' ≤ B) : OwnMat B' w g c n m G Q X where
  top := own_base h.top hb
  row := fun i hi => own_base (h.row i hi) hb
  inj := h.inj
theorem OwnMat.set (h : OwnMat B w g c n m G Q X) (i j : Nat) (v : K) (hi : i < n) :
    OwnMat B (w.setCell ⟨G i, j, none⟩ (.int .u8 ((v.val : Nat) : Int))) g c n m G Q (up2 X i j v) where
  top := ownsRow_setCell_other h.top (by simp [Value.ownBlock]; exact h.apart i hi) _
  row := fun r hr => by
    by_cases e : r = i
    · subst e
      have := ((h.row r hr).stored j (kv v)).1
      rw [vals_set] at this
      rwa [vals_congr (W := fun j' => kv (up2 X r j v r j')) (fun j' _ => by unfold upd up2; by_cases q : j' = j <;> simp [q])] at this
    · have := ownsRow_setCell_other (h.row r hr) (a := ⟨G i, j, none⟩) (by simp [Value.ownBlock]; exact fun q => e (h.inj r i hr hi q)) (.int .u8 ((v.val : Nat) : Int))
      rwa [vals_congr (W := fun j' => kv (up2 X i j v r j')) (fun j' _ => by unfold up2; simp [e])] at this
  inj := h.inj
end

theorem keep_of {w w' : World} (h : Below w.heap.size w w') : ∀ b, b < w.heap.size → w'.heap[b]? = w.heap[b]? := h.block

theorem run_make_top (n : Nat) (hn : n ≤ 70003) (w : World) :
    (Instr.makeSlice 24 (.int .i64 (n : Int)) (.int .i64 (n : Int))).run Try.prog w = .ok (.slice (some ⟨w.heap.size, 0, none⟩) n n) (w.alloc (.cells (madeCells #[.slice none 0 0] n) 22)) := by
  obtain ⟨i0, hi, hz0, hz1, hz2⟩ := info_parts Try.info22
  have h := run_make (P := Try.prog) w 24 22 i0 (.slice none 0 0) Try.underlying24 hi hz0 .i64 .i64 n n (by omega) (Int.le_refl _) (by rw [hz2]; omega) (by omega)
  rw [hz1] at h
  simpa [Value.cells] using h
theorem own_made (w : World) (e : TypeId) (z : Value) (n B : Nat) (hn : n ≤ 70003) (hB : B ≤ w.heap.size) : (w.alloc (.cells (madeCells #[z] n) e)).ownsRow B e 1 (.slice (some ⟨w.heap.size, 0, none⟩) n n) n (vals n fun _ => z) := by
  have h := World.ownsRow_lit (base := B) (e := e) (size := 1) w (madeCells #[z] n) n hB (by unfold maxLen; omega) (by rw [Nat.mul_one, ← Array.length_toList, toList_madeCells_one, List.length_replicate])
  rw [toList_madeCells_one] at h
  have e2 : List.replicate n z = vals n fun _ => z := by
    apply List.ext_getElem?
    intro i
    by_cases hi : i < n
    · rw [vals_get _ _ _ hi]; simp [hi]
    · rw [List.getElem?_eq_none (by simp; omega), List.getElem?_eq_none (by rw [vals_len]; omega)]
  rwa [e2] at h

/-- k rows are laid, the others are still nil. -/
structure Half (B : Nat) (w : World) (g cp n m k : Nat) (G : Nat → Nat) (Q : Nat → Nat) (X : Nat → Nat → K) (V : Nat → Value) : Prop where
  top : w.ownsRow B 22 1 (.slice (some ⟨g, 0, none⟩) n cp) n (vals n fun i => if i < k then rv (G i) m (Q i) else V i)
  row : ∀ i, i < k → w.ownsRow B 5 1 (.slice (some ⟨G i, 0, none⟩) m (Q i)) m (vals m fun j => kv (X i j))
  inj : ∀ i j, i < k → j < k → G i = G j → i = j
theorem Half.done {B : Nat} {w : World} {g cp n m : Nat} {G Q : Nat → Nat} {X : Nat → Nat → K} {V : Nat → Value} (h : Half B w g cp n m n G Q X V) : OwnMat B w g cp n m G Q X where
  top := by
    have := h.top
    rwa [vals_congr (W := fun i => rv (G i) m (Q i)) (fun i hi => by simp [hi])] at this
  row := h.row
  inj := h.inj
/-- A row more: it lies in a block that was not there. -/
theorem Half.push {B : Nat} {w w1 : World} {g cp n m k : Nat} {G Q : Nat → Nat} {X : Nat → Nat → K} {V : Nat → Value} (h : Half B w g cp n m k G Q X V) (hb : ∀ b, b < w.heap.size → w1.heap[b]? = w.heap[b]?)
    (g1 c1 : Nat) (hg : w.heap.size ≤ g1) (h1 : w1.ownsRow B 5 1 (.slice (some ⟨g1, 0, none⟩) m c1) m (vals m fun j => kv (X k j))) :
    Half B (w1.setCell ⟨g, k, none⟩ (rv g1 m c1)) g cp n m (k + 1) (upd G k g1) (upd Q k c1) X V where
  top := by
    have ht := own_keep h.top (hb g (own_ge h.top).2)
    have := (ht.stored k (rv g1 m c1)).1
    rw [vals_set] at this
    rwa [vals_congr (W := fun i => if i < k + 1 then rv (upd G k g1 i) m (upd Q k c1 i) else V i) (fun i _ => by
      unfold upd
      by_cases e : i = k
      · subst e; simp
      · by_cases q : i < k
        · simp [e, q, show i < k + 1 by omega]
        · simp [e, q, show ¬ i < k + 1 by omega])] at this
  row := fun i hi => by
    have hgt : g < w.heap.size := (own_ge h.top).2
    by_cases e : i = k
    · subst e
      simp only [upd, if_true]
      exact ownsRow_setCell_other h1 (by simp [Value.ownBlock]; omega) _
    · have hr := own_keep (h.row i (by omega)) (hb _ (own_ge (h.row i (by omega))).2)
      have ha := own_apart h.top (h.row i (by omega)) (by decide)
      simp only [upd, if_neg e]
      exact ownsRow_setCell_other hr (by simp [Value.ownBlock]; exact fun q => ha q.symm) _
  inj := fun i j hi hj q => by
    have hlt : ∀ i, i < k → G i < w.heap.size := fun i hi => (own_ge (h.row i hi)).2
    unfold upd at q
    by_cases e1 : i = k
    · by_cases e2 : j = k
      · omega
      · rw [if_pos e1, if_neg e2] at q; have := hlt j (by omega); omega
    · by_cases e2 : j = k
      · rw [if_neg e1, if_pos e2] at q; have := hlt i (by omega); omega
      · rw [if_neg e1, if_neg e2] at q; exact h.inj i j (by omega) (by omega) q

set_option maxRecDepth 100000 in
set_option maxHeartbeats 1000000 in
theorem zeros_any (n m : Nat) (w : World) (hn : n ≤ 100) (hm : m ≤ 100) :
    Calls Try.prog 65 #[.int .i64 n, .int .i64 m] w fun e w' => ∃ g G, e = .returned (.slice (some ⟨g, 0, none⟩) n n) ∧ OwnMat w.heap.size w' g n n m G (fun _ => m) (fun _ _ => 0) ∧ Below w.heap.size w w' := by
  have hmk := run_make_top n (by omega) w
  have h0 := own_made w 22 (.slice none 0 0) n w.heap.size (by omega) (Nat.le_refl _)
  have H0 := hid h0
  clear h0
  go_enter Try.func65, Try.ntmps65
  go_wp2
  clear hmk
  go_loopw [11] (fun i wr => ∃ k : Nat, ∃ G : Nat → Nat, k ≤ n ∧ i = .int .i64 k ∧ Half w.heap.size wr w.heap.size n n m k G (fun _ => m) (fun _ _ => 0) (fun _ => .slice none 0 0) ∧ Below w.heap.size w wr) (fun i _ => (n - intOf i).toNat)
  case atStart => exact ⟨0, fun _ => 0, by omega, rfl, ⟨by simpa using H0.out, fun i hi => absurd hi (by omega), fun i j hi => absurd hi (by omega)⟩, (Below.refl _ _).alloc (Nat.le_refl _) _⟩
  case round =>
    obtain ⟨k, G, hk, rfl, hh, hb⟩ := hrel
    clear H0
    by_cases hlt : k < n
    · have hmk := run_make_u8 m (by omega) wr
      have hsz : w.heap.size < wr.heap.size := (own_ge hh.top).2
      have c1 : (wr.alloc (.cells (madeCells #[.int .u8 0] m) 5)).cell? ⟨w.heap.size, k, none⟩ = some (.slice none 0 0) := by
        rw [World.cell?_alloc_lt _ _ _ hsz, own_cell hh.top k hlt]; simp
      have c2 : (wr.alloc (.cells (madeCells #[.int .u8 0] m) 5)).frozen? ⟨w.heap.size, k, none⟩ = false := by
        rw [World.frozen?_alloc_old _ _ _ (Nat.ne_of_lt hsz)]; exact hh.top.frozenAt k
      have HP := hid (hh.push (w1 := wr.alloc (.cells (madeCells #[.int .u8 0] m) 5)) (fun b hb => Below.heap_alloc _ _ _ hb) wr.heap.size m (Nat.le_refl _) (own_made wr 5 (.int .u8 0) m w.heap.size (by omega) (by omega)))
      have HB := hid ((hb.alloc (by omega) (.cells (madeCells #[.int .u8 0] m) 5)).setCell (p := ⟨w.heap.size, k, none⟩) (Nat.le_refl _) (rv wr.heap.size m m))
      rw [World.setCell_alloc_past _ _ _ _ hsz] at HP HB
      clear hh hb
      go_wp2
      go_roundw
      case rel => exact ⟨k + 1, upd G k wr.heap.size, by omega, by go_num, by
        have := HP.out
        have e : upd (fun _ => m) k m = fun _ => m := by funext i; unfold upd; split <;> rfl
        rw [e] at this; exact this, HB.out⟩
      case measure => simp [intOf]; omega
    · have e : k = n := by omega
      subst e
      have HO := hid hh.done
      have HB := hid hb
      clear hh hb
      go_wp2
      go_ret
      exact ⟨_, G, rfl, HO.out, HB.out⟩
end Go.Proofs.Ytapgdenodhcliaa
