/- Contract of awake, the examples. -/
import Derived.Test.YtepkpkbgmchioaaWi
import Derived.Lib.SlBytesConst
namespace Go.Proofs.Ytepkpkbgmchioaa
open Go Go.RowKit

abbrev c7 : Array Value := #[.int .u8 4, .int .u8 110, .int .u8 117, .int .u8 108, .int .u8 108, .int .u8 5, .int .u8 1]
theorem under5 : Try.prog.underlying 5 = some (.int .u8) := by kernel_rfl
theorem bl7 (w : World) (fz : Nat × Nat) : BL (w.alloc (.cells c7 5 fz)) (some ⟨w.heap.size, 0, none⟩) mB := Or.inr ⟨_, _, rfl, fun i hi => by
  have h := heap_alloc_new w (.cells c7 5 fz)
  simp only [World.cell?, h, Nat.zero_add]
  match i, hi with
  | 0, _ | 1, _ | 2, _ | 3, _ | 4, _ | 5, _ | 6, _ => rfl⟩
theorem bl9 (w : World) : BL (w.alloc (.cells #[.int .u8 9] 5)) (some ⟨w.heap.size, 0, none⟩) [9] := Or.inr ⟨_, _, rfl, fun i hi => by
  have h := heap_alloc_new w (.cells #[.int .u8 9] 5)
  simp only [World.cell?, h, Nat.zero_add]
  match i, hi with
  | 0, _ => rfl⟩
theorem grow9 (w : World) (fz : Nat × Nat) : ∃ po cc w3, (Builtin.append_ #[22, 22] 22 #[.slice (some ⟨w.heap.size, 0, none⟩) 7 7, .slice (some ⟨w.heap.size + 1, 0, none⟩) 1 1]).run Try.prog ((w.alloc (.cells c7 5 fz)).alloc (.cells #[.int .u8 9] 5)) = .ok (.slice po (mB ++ [9]).length cc) w3 ∧ BL w3 po (mB ++ [9]) ∧ (mB ++ [9]).length ≤ cc ∧ Below w.heap.size w w3 := by
  obtain ⟨i0, hi0, hz0, hz1, hz2⟩ := info_parts Try.info5
  have h7 := (bl7 w fz).below (below_al _ (.cells #[.int .u8 9] 5))
  have h9 := bl9 (w.alloc (.cells c7 5 fz))
  rw [size_al] at h9
  generalize hW : (w.alloc (.cells c7 5 fz)).alloc (.cells #[.int .u8 9] 5) = W at *
  have hr := run_append_grow (P := Try.prog) W 22 22 5 i0 (.int .u8 0) Try.underlying22 hi0 hz0 ⟨w.heap.size, 0, none⟩ 7 7 (mB.map u8) (by rw [hz1]; rfl) (fun j v hj => by
      have hjl : j < mB.length := by
        rcases Nat.lt_or_ge j mB.length with q | q
        · exact q
        · rw [List.getElem?_eq_none (by simpa using q)] at hj; cases hj
      rcases h7 with h | ⟨b, o, e2, h⟩
      · cases h
      · cases e2
        rw [add_none, h j hjl]; simp [hjl] at hj; rw [← hj]; simp [List.getD, hjl]) ⟨w.heap.size + 1, 0, none⟩ 1 1 [u8 9] (by rw [hz1]; rfl) (fun j v hj => by
      rcases h9 with h | ⟨b, o, e2, h⟩
      · cases h
      · cases e2
        match j, hj with
        | 0, hj => rw [add_none, h 0 (by decide)]; simpa using hj) (by decide) (by decide) (by rw [hz2]; decide)
  refine ⟨_, _, _, hr, Or.inr ⟨_, _, rfl, fun i hi => ?_⟩, grownCap_ge W 8 7 5, ?_⟩
  · have h := heap_alloc_new W.drew (.cells ((mB.map u8).toArray ++ [u8 9].toArray ++ Builtin.zeroCells (Value.int .u8 0).cells (grownCap W (7 + 1) 7 5 - (7 + 1))) 5)
    have e : W.drew.heap.size = W.heap.size := rfl
    rw [e] at h
    simp only [World.cell?, h, Nat.zero_add]
    rw [Array.getElem?_append_left (by simpa [mB] using hi)]
    match i, hi with
    | 0, _ | 1, _ | 2, _ | 3, _ | 4, _ | 5, _ | 6, _ | 7, _ => rfl
  · subst hW
    exact below_on (below_on (below_al _ _) (below_al _ _)) (below_on (below_drew _) (below_al _ _))
#print axioms grow9
theorem mB_lt : ∀ z ∈ mB, z < 256 := by decide
theorem mB9_lt : ∀ z ∈ mB ++ [9], z < 256 := by decide
end Go.Proofs.Ytepkpkbgmchioaa
