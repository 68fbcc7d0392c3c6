/- What stands through the walk of GfLists: the two lists and their lent copies lie as they did; each call's contract, said of that. -/
import Derived.Test.YtnjmegphphfbcaaXe
namespace Go.Proofs.Ytnjmegphphfbcaa
open Go.RowKit

theorem StrAt.below {B : Nat} {w w' : World} {p : Option Addr} {n : Nat} {x : Nat → Nat} (h : StrAt w p n x) (hb : Below B w w') (hB : ∀ b o, p = some ⟨b, o, none⟩ → 0 < n → b < B) : StrAt w' p n x := by
  by_cases h0 : n = 0
  · exact .inl h0
  · rcases h with e | ⟨b, o, rfl, hr⟩
    · exact .inl e
    · exact .inr ⟨b, o, rfl, hr.below hb (hB b o rfl (by omega))⟩
theorem StrAt.lt {w : World} {p : Option Addr} {n : Nat} {x : Nat → Nat} (h : StrAt w p n x) : ∀ b o, p = some ⟨b, o, none⟩ → 0 < n → b < w.heap.size := by
  intro b o e hn
  rcases h with h0 | ⟨b', o', rfl, hr⟩
  · omega
  · cases e
    exact World.block_lt_of_cell? w _ (hr 0 hn)
theorem StrAt.below' {w w' : World} {p : Option Addr} {n : Nat} {x : Nat → Nat} (h : StrAt w p n x) (hb : Below w.heap.size w w') : StrAt w' p n x := h.below hb h.lt

theorem errM_comm (x y : Nat) : errM x y = errM y x := by
  unfold errM
  by_cases h1 : 65536 < x ∨ 65536 < y
  · rw [if_pos h1, if_pos (Or.comm.1 h1)]
  · rw [if_neg h1, if_neg (fun h => h1 (Or.comm.1 h))]
    by_cases h2 : x = y
    · rw [if_pos h2, if_pos h2.symm]
    · rw [if_neg h2, if_neg (fun h => h2 h.symm)]

theorem raxpy_any (p q : Option Addr) (n c d a : Nat) (y x : Nat → Nat) (w : World) (hn : n ≤ 65536) (ha : a < 256)
    (hy : ∀ i, i < n → y i < 256) (hx : ∀ i, i < n → x i < 256) (sy : StrAt w p n y) (sx : StrAt w q n x) :
    Calls Try.prog 22 #[.slice p n c, .slice q n d, .int .u8 a] w fun e w' =>
      ∃ r k, e = .returned (.tuple #[.slice r n k, .int .i64 0]) ∧ StrAt w' r n (axN a y x) ∧ Below w.heap.size w w' := by
  by_cases h0 : n = 0
  · subst h0
    refine (raxpy_zero p q c d a w).mono ?_
    rintro e w' ⟨rfl, rfl⟩
    exact ⟨none, 0, rfl, .inl rfl, Below.refl _ _⟩
  · have ly := sy.lt
    have lx := sx.lt
    rcases sy with e | ⟨b, o, rfl, hr⟩
    · exact absurd e h0
    · rcases sx with e | ⟨b2, o2, rfl, hr2⟩
      · exact absurd e h0
      · exact raxpy_some b o n c b2 o2 d a y x w hn ha hy hx (ly b o rfl (by omega)) (lx b2 o2 rfl (by omega)) hr hr2

theorem rdot_any (p q : Option Addr) (n c d : Nat) (x y : Nat → Nat) (w : World) (hn : n ≤ 65536)
    (hx : ∀ i, i < n → x i < 256) (hy : ∀ i, i < n → y i < 256) (sx : StrAt w p n x) (sy : StrAt w q n y) :
    Calls Try.prog 24 #[.slice p n c, .slice q n d] w fun e w' => e = .returned (.tuple #[.int .u8 (dotN x y n : Nat), .int .i64 0]) ∧ ∃ q, w' = w.drewN q := by
  by_cases h0 : n = 0
  · subst h0
    exact rdot_zero p q c d w
  · rcases sx with e | ⟨b, o, rfl, hr⟩
    · exact absurd e h0
    · rcases sy with e | ⟨b2, o2, rfl, hr2⟩
      · exact absurd e h0
      · exact rdot_some b o n c b2 o2 d x y w hn hx hy hr hr2

/-- The lists x, y (at p0, p1) and their lent copies (at the two blocks behind w's) lie in wr as they should; what w had is as it was. -/
structure Kept (w : World) (p0 p1 : Option Addr) (n0 n1 : Nat) (x y : Nat → Nat) (wr : World) : Prop where
  below : Below w.heap.size w wr
  size : w.heap.size + 2 ≤ wr.heap.size
  lx : RowAt wr w.heap.size 0 (n0 + 3) (lentN n0 x)
  ly : RowAt wr (w.heap.size + 1) 0 (n1 + 3) (lentN n1 y)
  sx : StrAt wr p0 n0 x
  sy : StrAt wr p1 n1 y
theorem Kept.on {w : World} {p0 p1 : Option Addr} {n0 n1 : Nat} {x y : Nat → Nat} {wr w' : World} (h : Kept w p0 p1 n0 n1 x y wr) (hb : Below wr.heap.size wr w') : Kept w p0 p1 n0 n1 x y w' where
  below := h.below.trans (hb.mono (by have := h.size; omega))
  size := Nat.le_trans h.size hb.size
  lx := h.lx.below hb (by have := h.size; omega)
  ly := h.ly.below hb (by have := h.size; omega)
  sx := h.sx.below' hb
  sy := h.sy.below' hb

/-- What OverBytes may turn: n bytes at block g, which no list and no copy has. -/
structure Turns (w : World) (g n : Nat) (wr : World) : Prop where
  lo : w.heap.size + 2 ≤ g
  hi : g < wr.heap.size
  cells : ∀ i, i < n → ∃ z : Nat, z < 256 ∧ wr.cell? ⟨g, i, none⟩ = some (.int .u8 z)
  free : ∀ i, wr.frozen? ⟨g, i, none⟩ = false
theorem Turns.on {w : World} {g n : Nat} {wr w' : World} (h : Turns w g n wr) (hb : Below wr.heap.size wr w') : Turns w g n w' where
  lo := h.lo
  hi := Nat.lt_of_lt_of_le h.hi hb.size
  cells := fun i hi => by
    obtain ⟨z, hz, hc⟩ := h.cells i hi
    exact ⟨z, hz, (hb.cell (p := ⟨g, i, none⟩) h.hi).trans hc⟩
  free := fun i => (hb.frozen (p := ⟨g, i, none⟩) h.hi).trans (h.free i)

theorem Kept.over {w : World} {p0 p1 : Option Addr} {n0 n1 : Nat} {x y : Nat → Nat} {wr w' : World} {g : Nat} (h : Kept w p0 p1 n0 n1 x y wr) (ho : OnlyAt g wr w') (hg : w.heap.size + 2 ≤ g)
    (b0 : ∀ b o, p0 = some ⟨b, o, none⟩ → 0 < n0 → b < w.heap.size) (b1 : ∀ b o, p1 = some ⟨b, o, none⟩ → 0 < n1 → b < w.heap.size) : Kept w p0 p1 n0 n1 x y w' where
  below := ho.below h.below (by omega)
  size := by rw [ho.size]; exact h.size
  lx := ho.row h.lx (by omega)
  ly := ho.row h.ly (by omega)
  sx := h.sx.below (ho.below (Below.refl w.heap.size wr) (by omega)) b0
  sy := h.sy.below (ho.below (Below.refl w.heap.size wr) (by omega)) b1

theorem kept_x {w : World} {p0 p1 : Option Addr} {n0 n1 : Nat} {x y : Nat → Nat} {wr : World} (h : Kept w p0 p1 n0 n1 x y wr) (hn : n0 ≤ 70000) (c : Nat) :
    Calls Try.prog 26 #[.slice (some ⟨w.heap.size, 0, none⟩) n0 (n0 + 3), .slice p0 n0 c] wr fun e w' => e = .returned (.bool true) ∧ Below wr.heap.size wr w' :=
  kept_any w.heap.size n0 c p0 x wr hn (by have := h.size; omega) h.lx h.sx
theorem kept_y {w : World} {p0 p1 : Option Addr} {n0 n1 : Nat} {x y : Nat → Nat} {wr : World} (h : Kept w p0 p1 n0 n1 x y wr) (hn : n1 ≤ 70000) (c : Nat) :
    Calls Try.prog 26 #[.slice (some ⟨w.heap.size + 1, 0, none⟩) n1 (n1 + 3), .slice p1 n1 c] wr fun e w' => e = .returned (.bool true) ∧ Below wr.heap.size wr w' :=
  kept_any (w.heap.size + 1) n1 c p1 y wr hn (by have := h.size; omega) h.ly h.sy

theorem Kept.start {w w1 w2 : World} {p0 p1 : Option Addr} {n0 n1 : Nat} {x y : Nat → Nat} (h1 : NewRow w w1 (n0 + 3) (lentN n0 x)) (h2 : NewRow w1 w2 (n1 + 3) (lentN n1 y)) (sx : StrAt w p0 n0 x) (sy : StrAt w p1 n1 y) :
    Kept w p0 p1 n0 n1 x y w2 where
  below := h1.below.trans (h2.below.mono (by have := h1.size; omega))
  size := by have := h1.size; have := h2.size; omega
  lx := h1.row.below h2.below (by have := h1.size; omega)
  ly := by have e := h2.row; rw [h1.size] at e; exact e
  sx := (sx.below' h1.below).below' h2.below
  sy := (sy.below' h1.below).below' h2.below

theorem lent_row {w : World} {b n : Nat} {x : Nat → Nat} (h : RowAt w b 0 (n + 3) (lentN n x)) : RowAt w b 0 n x := by
  intro i hi
  rw [h i (by omega)]; unfold lentN; rw [if_pos hi]

theorem axpy_kept {w : World} {p0 p1 : Option Addr} {n a : Nat} {x y : Nat → Nat} {wr : World} (h : Kept w p0 p1 n n x y wr) (hn : n ≤ 2000) (ha : a < 256) (hx : ∀ i, i < n → x i < 256) (hy : ∀ i, i < n → y i < 256) :
    Calls Try.prog 21 #[.slice (some ⟨w.heap.size + 1, 0, none⟩) n (n + 3), .slice (some ⟨w.heap.size, 0, none⟩) n (n + 3), .int .u8 a] wr fun e w' =>
      e = .returned (.tuple #[.slice (some ⟨wr.heap.size, 0, none⟩) n n, .int .i64 0]) ∧ Below wr.heap.size wr w' ∧ StrAt w' (some ⟨wr.heap.size, 0, none⟩) n (axN a y x) ∧ Turns w wr.heap.size n w' := by
  have hs := h.size
  refine (axpy_some (w.heap.size + 1) 0 n (n + 3) w.heap.size 0 (n + 3) a y x wr (by omega) (by omega) ha hy hx (by omega) (by omega) (lent_row h.ly) (lent_row h.lx)).mono ?_
  rintro e w' ⟨rfl, hr⟩
  refine ⟨rfl, hr.below, .inr ⟨_, _, rfl, hr.row⟩, ?_⟩
  exact ⟨hs, by have := hr.size; omega, fun i hi => ⟨axN a y x i, axN_lt a y x i ha (hy i hi), hr.cells i hi⟩, hr.free⟩

theorem dot_kept {w : World} {p0 p1 : Option Addr} {n : Nat} {x y : Nat → Nat} {wr : World} (h : Kept w p0 p1 n n x y wr) (hn : n ≤ 2000) (hx : ∀ i, i < n → x i < 256) (hy : ∀ i, i < n → y i < 256) :
    Calls Try.prog 23 #[.slice (some ⟨w.heap.size, 0, none⟩) n (n + 3), .slice (some ⟨w.heap.size + 1, 0, none⟩) n (n + 3)] wr fun e w' => e = .returned (.tuple #[.int .u8 (dotN x y n : Nat), .int .i64 0]) ∧ w' = wr :=
  dot_some w.heap.size 0 n (n + 3) (w.heap.size + 1) 0 (n + 3) x y wr (by omega) (by omega) (by omega) hx hy (lent_row h.lx) (lent_row h.ly)

theorem below_dn (w : World) (q : Nat) : Below w.heap.size w (w.drewN q) := ⟨rfl, rfl, rfl, Nat.le_refl _, fun _ _ => rfl⟩
end Go.Proofs.Ytnjmegphphfbcaa
