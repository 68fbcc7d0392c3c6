/- The walk of RecordNumbers. (Written by tools/gen_Vj.py.) -/
import Derived.Test.YtepkpkbgmchioaaVi
namespace Go.Proofs.Ytepkpkbgmchioaa
open Go Go.RowKit

theorem SL.nil (w : World) : SL w (.slice none 0 0) [] := ⟨none, 0, rfl, Or.inl rfl, Nat.le_refl _⟩
theorem OutB.blk {B : Nat} {w : World} {v : Value} {bs : List Nat} (h : OutB B w v bs) : ∀ b, v.ownBlock = some b → B ≤ b ∧ b < w.heap.size := fun b hb => by
  rcases h with ⟨rfl, _⟩ | ⟨g, rfl, h1, h2, _⟩
  · cases hb
  · cases hb; exact ⟨h1, h2⟩
theorem OutB.only {B : Nat} {w w' : World} {v : Value} {bs : List Nat} {S : Nat → Prop} (h : OutB B w v bs) (ho : Only S w w') (hS : ∀ b, v.ownBlock = some b → ¬ S b) : OutB B w' v bs := by
  rcases h with h | ⟨g, h1, h2, h3, h4, h5⟩
  · exact Or.inl h
  · have e := ho.block g h3 (hS g (by rw [h1]; rfl))
    exact Or.inr ⟨g, h1, h2, by have := ho.size; omega, fun i hi => (World.cell?_of_block e).trans (h4 i hi), fun i => by have := h5 i; unfold World.frozen? at this ⊢; rw [e]; exact this⟩
theorem rdT_less {bs : List Nat} (h8 : ∀ x ∈ bs, x < 256) {x r : List Nat} (h : rdT bs = some (x, r)) : r.length ≤ bs.length ∧ (∀ z ∈ r, z < 256) ∧ (∀ z ∈ x, z < 256) := by
  obtain ⟨e, hn⟩ := rdT_some h8 h
  rw [e] at h8 ⊢
  refine ⟨by simp, (sub256 h8).2, fun z hz => (sub256 h8).1 z ?_⟩
  unfold tb; exact List.mem_append_right _ hz
theorem tb_lt (s : ByteArray) : ∀ z ∈ tb (lst s), z < 256 := fun z hz => by
  unfold tb at hz
  rcases List.mem_append.1 hz with h | h
  · exact nb_byte _ z h
  · exact lst_lt s z h
theorem sameB_true {w : World} {u v : Value} {x : List Nat} (hu : SL w u x) (hv : SL w v x) (hx : ∀ z ∈ x, z < 256) : Calls Try.prog 11 #[u, v] w fun e w' => e = .returned (.bool true) ∧ w' = w :=
  (sameB_any hu hv hx hx).mono fun e w' ⟨h1, h2⟩ => ⟨by rw [h1]; simp, h2⟩
theorem nil_lt : ∀ z ∈ ([] : List Nat), z < 256 := by simp
end Go.Proofs.Ytepkpkbgmchioaa
