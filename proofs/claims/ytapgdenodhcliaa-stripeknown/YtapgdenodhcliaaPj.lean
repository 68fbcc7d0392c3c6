/- Contracts of Mul, Invert and Rank once more, the program's and the document's own, in one form for all inputs: a list of rows, of none where there is an error, and the error's number. -/
import Derived.Test.YtapgdenodhcliaaPe
import Derived.Test.YtapgdenodhcliaaPg
import Derived.Test.YtapgdenodhcliaaPi
import Derived.Test.YtapgdenodhcliaaNa
namespace Go.Proofs.Ytapgdenodhcliaa
open Go.RowKit

theorem OwnV.nil {B : Nat} {w : World} {G M C N Q : Nat → Nat} {Y : Nat → Nat → K} : OwnV B w (.slice none 0 0) 0 G M C N Q Y := OwnV.start _ _ _ _ _ _ _ _
theorem OwnMat.toV {B : Nat} {w : World} {g c n m : Nat} {G Q : Nat → Nat} {X : Nat → Nat → K} (h : OwnMat B w g c n m G Q X) : OwnV B w (.slice (some ⟨g, 0, none⟩) n c) n G (fun _ => m) Q (fun _ => m) Q X := ⟨h.top, h.row, h.inj⟩
theorem OwnV.base {B B' : Nat} {w : World} {v : Value} {n : Nat} {G M C N Q : Nat → Nat} {X : Nat → Nat → K} (h : OwnV B w v n G M C N Q X) (hb : B' ≤ B) : OwnV B' w v n G M C N Q X where
  top := by
    refine ⟨h.top.1, ?_⟩
    rcases h.top.2 with q | ⟨g', cap, cur, hv, h1, h2, h3⟩
    · exact .inl q
    · exact .inr ⟨g', cap, cur, hv, Nat.le_trans hb h1, h2, h3⟩
  row := fun i hi => own_base (h.row i hi) hb
  inj := h.inj
/-- What the rows read as. -/
theorem OwnV.toMatAt {B : Nat} {w : World} {p : Option Addr} {n c : Nat} {G M C N Q : Nat → Nat} {X Y : Nat → Nat → K} (h : OwnV B w (.slice p n c) n G M C N Q X) (hM : ∀ i, i < n → M i ≤ N i ∧ M i ≤ C i) (e : ∀ i, i < n → ∀ j, j < M i → X i j = Y i j) : MatAt w p n (fun i => some ⟨G i, 0, none⟩) M C Y where
  top := by
    by_cases h0 : n = 0
    · exact .inl h0
    · obtain ⟨g, ct, hf, _⟩ := h.top.form (by omega)
      cases hf
      exact .inr ⟨g, 0, rfl, fun i hi => by rw [Nat.zero_add]; exact own_cell (V := fun i => .slice (some ⟨G i, 0, none⟩) (M i) (C i)) h.top i hi⟩
  row := fun i hi => .inr ⟨G i, 0, rfl, fun j hj => by
    have := hM i hi
    rw [Nat.zero_add, own_cell (V := fun j => kv (X i j)) (h.row i hi) j (by omega), e i hi j hj]; rfl⟩
  le := fun i hi => (hM i hi).2
theorem LentAt.toMatAt {B : Nat} {w : World} {p : Option Addr} {n c : Nat} {G L : Nat → Nat} {X : Nat → Nat → K} (h : LentAt B w (.slice p n c) n G L X) : MatAt w p n (fun i => some ⟨G i, 0, none⟩) L (fun i => L i + 3) X :=
  OwnV.toMatAt h (fun i _ => ⟨by omega, by omega⟩) (fun i _ j hj => by unfold lentK; rw [if_pos hj])

/-- How many rows an answer has. -/
def cnt (e : Int) (n : Nat) : Nat := if e = 0 then n else 0
theorem cnt_pos {e : Int} {n i : Nat} (h : i < cnt e n) : e = 0 ∧ i < n := by
  unfold cnt at h
  by_cases q : e = 0
  · rw [if_pos q] at h; exact ⟨q, h⟩
  · rw [if_neg q] at h; omega
theorem mulU (p q : Option Addr) (n n' c d : Nat) (A A' : Nat → Option Addr) (L L' C C' : Nat → Nat) (X Y : Nat → Nat → K) (w : World) (hn : n ≤ 100) (hn' : n' ≤ 100) (h : MatAt w p n A L C X) (h' : MatAt w q n' A' L' C' Y) :
    Calls Try.prog 62 #[.slice p n c, .slice q n' d] w fun e w' => ∃ u cu G, e = .returned (.tuple #[.slice u (cnt (errMul n L n' L') n) cu, .int .i64 (errMul n L n' L')]) ∧ OwnV w.heap.size w' (.slice u (cnt (errMul n L n' L') n) cu) (cnt (errMul n L n' L') n) G (fun _ => L' 0) (fun _ => L' 0) (fun _ => L' 0) (fun _ => L' 0) (pr (L 0) X Y) ∧ Below w.heap.size w w' := by
  refine (mul_all p q n n' c d A A' L L' C C' X Y w hn hn' h h').mono ?_
  rintro e w' ⟨hb, ⟨he, rfl⟩ | ⟨he, g, G, rfl, hm⟩⟩
  · refine ⟨none, 0, fun _ => 0, ?_, ?_, hb⟩
    · unfold cnt; rw [if_neg he]
    · unfold cnt; rw [if_neg he]; exact OwnV.nil
  · refine ⟨some ⟨g, 0, none⟩, n, G, ?_, ?_, hb⟩
    · unfold cnt; rw [if_pos he, he]
    · unfold cnt; rw [if_pos he]; exact hm.toV
theorem errI_full {n : Nat} {L : Nat → Nat} {X : Nat → Nat → K} (h1 : errC n L = 0) (h2 : n = L 0) (h3 : (sw X n n).l.length = n) : errI n L X = 0 := by
  unfold errI; rw [if_neg (fun q => q h1), if_neg (fun q => q h2), if_neg (by omega)]
theorem errI_sing {n : Nat} {L : Nat → Nat} {X : Nat → Nat → K} (h1 : errC n L = 0) (h2 : n = L 0) (h3 : (sw X n n).l.length < n) : errI n L X = 120 := by
  unfold errI; rw [if_neg (fun q => q h1), if_neg (fun q => q h2), if_pos h3]
theorem errI_bad {n : Nat} {L : Nat → Nat} {X : Nat → Nat → K} (h : errC n L ≠ 0 ∨ n ≠ L 0) : errI n L X ≠ 0 := by
  unfold errI
  by_cases h1 : errC n L = 0
  · rw [if_neg (fun q => q h1), if_pos (h.elim (fun q => absurd h1 q) id)]; decide
  · rw [if_pos h1]; exact h1
theorem errI_zero {n : Nat} {L : Nat → Nat} {X : Nat → Nat → K} (h : errI n L X = 0) : errC n L = 0 ∧ n = L 0 := by
  refine ⟨?_, ?_⟩
  · apply Classical.byContradiction; intro q; exact errI_bad (.inl q) h
  · apply Classical.byContradiction; intro q; exact errI_bad (.inr q) h
theorem invU (p : Option Addr) (n c : Nat) (A : Nat → Option Addr) (L C : Nat → Nat) (X : Nat → Nat → K) (w : World) (hn : n ≤ 100) (h : MatAt w p n A L C X) :
    Calls Try.prog 61 #[.slice p n c] w fun e w' => ∃ u cu G Y, e = .returned (.tuple #[.slice u (cnt (errI n L X) n) cu, .int .i64 (errI n L X)]) ∧ OwnV w.heap.size w' (.slice u (cnt (errI n L X) n) cu) (cnt (errI n L X) n) G (fun _ => n) (fun _ => n) (fun _ => n) (fun _ => n) Y ∧ (errI n L X = 0 → ∀ i, i < n → ∀ j, j < n → pr n X Y i j = on i j) ∧ Below w.heap.size w w' := by
  by_cases hb : errC n L ≠ 0 ∨ n ≠ L 0
  · have hne := errI_bad (X := X) hb
    refine (invert_bad p n c A L C X w hn h hb).mono ?_
    rintro e w' ⟨rfl, rfl⟩
    refine ⟨none, 0, fun _ => 0, fun _ _ => 0, ?_, ?_, fun q => absurd q hne, Below.refl _ _⟩
    · unfold cnt; rw [if_neg hne]
    · unfold cnt; rw [if_neg hne]; exact OwnV.nil
  · have h1 : errC n L = 0 := Classical.byContradiction (fun q => hb (.inl q))
    have h2 : n = L 0 := Classical.byContradiction (fun q => hb (.inr q))
    have ok := errC_zero h1
    refine (invert_square p n c A C X w ok.1 ok.2.1 (h.even (fun i hi => by rw [ok.2.2.2.2 i hi, ← h2]))).mono ?_
    rintro e w' ⟨hbel, ⟨hl, rfl⟩ | ⟨hl, g, G, Y, rfl, hm, hY⟩⟩
    · have he := errI_sing h1 h2 hl
      refine ⟨none, 0, fun _ => 0, fun _ _ => 0, ?_, ?_, fun q => by rw [he] at q; exact absurd q (by decide), hbel⟩
      · unfold cnt; rw [he]; rfl
      · unfold cnt; rw [he]; exact OwnV.nil
    · have he := errI_full h1 h2 hl
      refine ⟨some ⟨g, 0, none⟩, n, G, Y, ?_, ?_, fun _ i hi j hj => full_right hl hY i j hi hj, hbel⟩
      · unfold cnt; rw [he, if_pos rfl]
      · unfold cnt; rw [he, if_pos rfl]; exact hm.toV
theorem rinvU (p : Option Addr) (n c : Nat) (A : Nat → Option Addr) (L C : Nat → Nat) (X : Nat → Nat → K) (w : World) (hn : n ≤ 100) (h : MatAt w p n A L C X) :
    Calls Try.prog 64 #[.slice p n c] w fun e w' => ∃ u cu G Q Y, e = .returned (.tuple #[.slice u (cnt (errI n L X) n) cu, .int .i64 (errI n L X)]) ∧ OwnV w.heap.size w' (.slice u (cnt (errI n L X) n) cu) (cnt (errI n L X) n) G (fun _ => n) Q (fun _ => n) Q Y ∧ (errI n L X = 0 → ∀ i, i < n → ∀ j, j < n → pr n Y X i j = on i j) ∧ Below w.heap.size w w' := by
  by_cases hb : errC n L ≠ 0 ∨ n ≠ L 0
  · have hne := errI_bad (X := X) hb
    refine (rinvert_bad p n c A L C X w hn h hb).mono ?_
    rintro e w' ⟨rfl, hbel⟩
    refine ⟨none, 0, fun _ => 0, fun _ => 0, fun _ _ => 0, ?_, ?_, fun q => absurd q hne, hbel⟩
    · unfold cnt; rw [if_neg hne]
    · unfold cnt; rw [if_neg hne]; exact OwnV.nil
  · have h1 : errC n L = 0 := Classical.byContradiction (fun q => hb (.inl q))
    have h2 : n = L 0 := Classical.byContradiction (fun q => hb (.inr q))
    have ok := errC_zero h1
    refine (rinvert_square p n c A C X w ok.1 ok.2.1 (h.even (fun i hi => by rw [ok.2.2.2.2 i hi, ← h2]))).mono ?_
    rintro e w' ⟨hbel, ⟨hl, rfl⟩ | ⟨hl, g, cp, G, Q, Y, rfl, hm, hY⟩⟩
    · have he := errI_sing h1 h2 hl
      refine ⟨none, 0, fun _ => 0, fun _ => 0, fun _ _ => 0, ?_, ?_, fun q => by rw [he] at q; exact absurd q (by decide), hbel⟩
      · unfold cnt; rw [he]; rfl
      · unfold cnt; rw [he]; exact OwnV.nil
    · have he := errI_full h1 h2 hl
      refine ⟨some ⟨g, 0, none⟩, cp, G, Q, Y, ?_, ?_, fun _ => hY, hbel⟩
      · unfold cnt; rw [he, if_pos rfl]
      · unfold cnt; rw [he, if_pos rfl]; exact hm.toV
end Go.Proofs.Ytapgdenodhcliaa
