/- Contract of Same of package record. (Written by tools/gen_Vn.py.) -/
import Derived.Test.YtepkpkbgmchioaaVm
namespace Go.Proofs.Ytepkpkbgmchioaa
open Go Go.RowKit

theorem rc_eq (r s : Rv) (ps qs : Ps) : r.rc ps = s.rc qs ↔ (r.id.toList == s.id.toList) = true ∧ (r.time == s.time) = true ∧ (r.mark == s.mark) = true ∧ (r.size == s.size) = true ∧ (r.etag.toList == s.etag.toList) = true ∧ (r.k == s.k) = true ∧ (r.m == s.m) = true ∧ (r.data.toList == s.data.toList) = true ∧ decide (r.sum = s.sum) = true ∧ decide (ps = qs) = true ∧ (r.up.toList == s.up.toList) = true := by
  simp only [lst_beq, decide_eq_true_eq, beq_iff_eq]
  unfold Rv.rc
  simp only [Rc.mk.injEq]
theorem rc_ne {r s : Rv} {ps qs : Ps} (h : ¬ ((r.id.toList == s.id.toList) = true ∧ (r.time == s.time) = true ∧ (r.mark == s.mark) = true ∧ (r.size == s.size) = true ∧ (r.etag.toList == s.etag.toList) = true ∧ (r.k == s.k) = true ∧ (r.m == s.m) = true ∧ (r.data.toList == s.data.toList) = true ∧ decide (r.sum = s.sum) = true ∧ decide (ps = qs) = true ∧ (r.up.toList == s.up.toList) = true)) : decide (r.rc ps = s.rc qs) = false := decide_eq_false fun e => h ((rc_eq r s ps qs).1 e)
theorem underD : Try.prog.underlying 42 = some (.array 32 5) := by kernel_rfl
end Go.Proofs.Ytepkpkbgmchioaa
