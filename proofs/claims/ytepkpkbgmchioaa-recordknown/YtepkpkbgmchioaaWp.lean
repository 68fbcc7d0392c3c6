/- RecordKnown: what it needs. -/
import Derived.Test.YtepkpkbgmchioaaWm
namespace Go.Proofs.Ytepkpkbgmchioaa
open Go Go.RowKit

theorem RBox.set0 {w : World} {g : Nat} {r : Rv} (h : RBox w g r) (ho : r.ok) (s : ByteArray) (hs : s.size ≤ 100000) : RBox (w.setCell ⟨g, 0, none⟩ (.string s)) g { r with id := s } := RBox.mk' ⟨ho.sl, ho.s8, hs, ho.e, ho.d, ho.u⟩ (by rw [← set_lo r { r with id := s } 0 (.string s) (by omega) ⟨rfl, rfl, rfl⟩ rfl]; exact h.at_.set 0 _)
/-- Slices of bytes that lie in a world. -/
def Bag (W : World) (l : List (Value × List Nat)) : Prop := ∀ q ∈ l, SL W q.1 q.2
theorem Bag.nil (W : World) : Bag W [] := fun _ h => by cases h
theorem Bag.below {W W' : World} {l : List (Value × List Nat)} (h : Bag W l) (hb : Below W.heap.size W W') : Bag W' l := fun q hq => (h q hq).below hb
theorem Bag.cons {W : World} {l : List (Value × List Nat)} {v : Value} {x : List Nat} (h : Bag W l) (hv : SL W v x) : Bag W ((v, x) :: l) := fun q hq => by
  rcases List.mem_cons.1 hq with rfl | hq
  · exact hv
  · exact h q hq
theorem slNew (w : World) (C : Array Value) (fz : Nat × Nat) (x : List Nat) (n : Nat) (hn : n = x.length) (hC : C = (x.map u8).toArray) : SL (w.alloc (.cells C 5 fz)) (.slice (some ⟨w.heap.size, 0, none⟩) n n) x := by
  subst hn hC
  refine ⟨_, _, rfl, Or.inr ⟨_, _, rfl, fun i hi => ?_⟩, Nat.le_refl _⟩
  have h := heap_alloc_new w (.cells (x.map u8).toArray 5 fz)
  simp only [World.cell?, h, Nat.zero_add]
  simp [hi, List.getD]
structure P3 (w W : World) (g1 g2 g3 : Nat) (r1 r2 r3 : Rv) : Prop where
  below : Below w.heap.size w W
  b1 : RBox W g1 r1
  b2 : RBox W g2 r2
  b3 : RBox W g3 r3
  k1 : r1.ok
  k2 : r2.ok
  k3 : r3.ok
  h1 : w.heap.size ≤ g1
  h2 : g1 < g2
  h3 : g2 < g3
section
variable {w W W' : World} {g1 g2 g3 : Nat} {r1 r2 r3 r : Rv} (h : P3 w W g1 g2 g3 r1 r2 r3)
include h
theorem P3.on (hb : Below W.heap.size W W') : P3 w W' g1 g2 g3 r1 r2 r3 := ⟨below_on h.below hb, h.b1.below h.k1 hb, h.b2.below h.k2 hb, h.b3.below h.k3 hb, h.k1, h.k2, h.k3, h.h1, h.h2, h.h3⟩
theorem P3.set1 (hb : RBox W' g1 r) (hk : r.ok) (ho : Only (fun b => b = g1) W W') : P3 w W' g1 g2 g3 r r2 r3 :=
  ⟨below_tr h.below (ho.below h.below.size (fun i e => by have := h.h1; omega)), hb, h.b2.only h.k2 ho (by have := h.h2; omega), h.b3.only h.k3 ho (by have := h.h2; have := h.h3; omega), hk, h.k2, h.k3, h.h1, h.h2, h.h3⟩
theorem P3.set2 (hb : RBox W' g2 r) (hk : r.ok) (ho : Only (fun b => b = g2) W W') : P3 w W' g1 g2 g3 r1 r r3 :=
  ⟨below_tr h.below (ho.below h.below.size (fun i e => by have := h.h1; have := h.h2; omega)), h.b1.only h.k1 ho (by have := h.h2; omega), hb, h.b3.only h.k3 ho (by have := h.h3; omega), h.k1, hk, h.k3, h.h1, h.h2, h.h3⟩
theorem P3.set3 (hb : RBox W' g3 r) (hk : r.ok) (ho : Only (fun b => b = g3) W W') : P3 w W' g1 g2 g3 r1 r2 r :=
  ⟨below_tr h.below (ho.below h.below.size (fun i e => by have := h.h1; have := h.h2; have := h.h3; omega)), h.b1.only h.k1 ho (by have := h.h2; have := h.h3; omega), h.b2.only h.k2 ho (by have := h.h3; omega), hb, h.k1, h.k2, hk, h.h1, h.h2, h.h3⟩
end
theorem P3.mk1 {w w1 w2 w3 : World} {g1 g2 g3 : Nat} (h1 : RBox w1 g1 zR) (b1 : Below w.heap.size w w1) (e1 : w.heap.size = g1) (h2 : RBox w2 g2 zR) (b2 : Below w1.heap.size w1 w2) (e2 : w1.heap.size = g2) (h3 : RBox w3 g3 zR) (b3 : Below w2.heap.size w2 w3) (e3 : w2.heap.size = g3) : P3 w w3 g1 g2 g3 zR zR zR := by
  have l1 := h1.at_.lt
  have l2 := h2.at_.lt
  exact ⟨below_on (below_on b1 b2) b3, (h1.below zR_ok b2).below zR_ok b3, h2.below zR_ok b3, h3, zR_ok, zR_ok, zR_ok, by omega, by omega, by omega⟩
theorem nb0 : nb 0 = [0] := nb_lt (by decide)
theorem nb127 : nb 127 = [127] := nb_lt (by decide)
theorem nb128 : nb 128 = [128, 1] := by rw [nb_ge (by decide), nb_lt (by decide)]
theorem nb300 : nb 300 = [172, 2] := by rw [nb_ge (by decide), nb_lt (by decide)]
theorem tb_ab : tb (lst ⟨#[97, 98]⟩) = [2, 97, 98] := by
  have e : lst ⟨#[97, 98]⟩ = [97, 98] := by kernel_rfl
  rw [e]; unfold tb; rw [nb_lt (by decide)]; rfl
def kA : Rv := { mk5 with id := ⟨#[65]⟩ }
def kS : Rv := { mk5 with size := 1 }
def kN : Rv := { mk5 with mark := false }
theorem kA_no : okRc (kA.rc []) = false := by kernel_rfl
theorem kS_no : okRc (kS.rc []) = false := by kernel_rfl
theorem kN_no : okRc (kN.rc []) = false := by kernel_rfl
theorem rd1 : rdU [128, 0] = none := by kernel_rfl
theorem rd2 : rdU [128] = none := by kernel_rfl
theorem rd3 : rdU [] = none := by kernel_rfl
#print axioms P3.mk1
#print axioms tb_ab
end Go.Proofs.Ytepkpkbgmchioaa
