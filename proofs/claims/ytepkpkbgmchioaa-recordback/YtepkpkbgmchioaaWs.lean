/- RecordBack: a record's bytes. -/
import Derived.Test.YtepkpkbgmchioaaWr
namespace Go.Proofs.Ytepkpkbgmchioaa
open Go Go.RowKit

theorem psB_byte (ps : Ps) : ∀ z ∈ psB ps, z < 256 := fun z hz => by
  unfold psB at hz
  obtain ⟨l, hl, hz⟩ := List.mem_flatten.1 hz
  obtain ⟨q, _, rfl⟩ := List.mem_map.1 hl
  exact all256 (nb_byte _) (nb_byte _) z hz
theorem vB_byte (r : Rv) (hr : r.ok) (ps : Ps) : ∀ z ∈ vB r ps, z < 256 := by
  unfold vB
  exact all256 (nb_byte _) (all256 (tb_lt _) (all256 (nb_byte _) (all256 (nb_byte _) (all256 (tb_lt _) (all256 hr.s8 (all256 (nb_byte _) (all256 (psB_byte _) (tb_lt _))))))))
theorem rcB_byte (r : Rv) (hr : r.ok) (ps : Ps) : ∀ z ∈ rcB (r.rc ps), z < 256 := by
  cases hm : r.mark
  · rw [rcB_vers hm]
    exact all256 (tb_lt _) (all256 (nb_byte _) (all256 (by simp) (vB_byte r hr ps)))
  · rw [rcB_mark hm]
    exact all256 (tb_lt _) (all256 (nb_byte _) (by simp))
theorem okPs_get : ∀ {last : Int} {l : Ps}, okPs last l = true → ∀ i, i < l.length → (l.getD i (0, 0)).1 ≤ 10000 ∧ (l.getD i (0, 0)).2 ≤ 65536
  | _, [], _, i, hi => by simp at hi
  | last, p :: t, h, i, hi => by
    simp [okPs, inR] at h
    obtain ⟨⟨⟨h1, h2⟩, h3, h4⟩, h5⟩ := h
    cases i with
    | zero => simp; omega
    | succ i => simpa using okPs_get h5 i (by simpa using hi)
theorem rcB_len (r : Rv) (hr : r.ok) (ps : Ps) (h : okRc (r.rc ps) = true) : (rcB (r.rc ps)).length ≤ 5000 := by
  obtain ⟨q1, q2, q3⟩ := okRc_id h
  have l1 := tb_le (s := r.id) (by omega)
  have l2 := ib_le (n := r.time) (by omega)
  cases hm : r.mark
  · rw [rcB_vers hm]
    have hv : versOk r ps = true := by rw [okRc_vers r ps hm hr.sl] at h; simp only [Bool.and_eq_true] at h; exact h.2
    obtain ⟨a1, a2, a3, a4, a5, a6, a7, a8, a9, a10, a11⟩ := versOk_iff hv
    have e1 := ib_le (n := r.size) (by omega)
    have e2 := tb_le (s := r.etag) (by omega)
    have e3 := ib_le (n := r.k) (by omega)
    have e4 := ib_le (n := r.m) (by omega)
    have e5 := tb_le (s := r.data) (by omega)
    have e6 := nb_le (n := ps.length) (by omega)
    have e7 := psB_le (okPs_get a10) ps.length (Nat.le_refl _)
    rw [List.take_length] at e7
    have e8 := tb_le (s := r.up) (by omega)
    unfold vB
    simp only [List.length_append, hr.sl, List.length_cons, List.length_nil]
    omega
  · rw [rcB_mark hm]
    simp only [List.length_append, List.length_cons, List.length_nil]
    omega
#print axioms rcB_len
end Go.Proofs.Ytepkpkbgmchioaa
