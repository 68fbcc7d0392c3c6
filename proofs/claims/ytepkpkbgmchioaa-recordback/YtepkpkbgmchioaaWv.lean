/- RecordBack, whatever comes in. -/
import Derived.Test.YtepkpkbgmchioaaWu
namespace Go.Proofs.Ytepkpkbgmchioaa
open Go Go.RowKit

theorem bigR_no {r : Rv} {n : Nat} (h : ¬ bigR r n = true) : n ≤ 100 ∧ r.id.size ≤ 1000 ∧ r.etag.size ≤ 1000 ∧ r.data.size ≤ 1000 ∧ r.up.size ≤ 1000 := by
  simp [bigR] at h; omega
theorem back_all (ra rb : Rv) (b : Option Addr) (len cap : Nat) (w : World) (ia : IsR w ra) (ib : IsR w rb) (h : IsB w b len cap) : Calls Try.prog 5 #[.agg ra.cs, .agg rb.cs, .slice b len cap] w fun e w' => e = .returned (.bool true) ∧ Below w.heap.size w w' := by
  obtain ⟨pa, ca, ps, ea, hca, hpa⟩ := ia.parts
  obtain ⟨pb, cb, qs, eb, hcb, hpb⟩ := ib.parts
  by_cases bA : bigR ra ps.length = true
  · exact back_big0 ra rb ia.sl ib.sl pa pb _ ca _ cb ea eb b len cap w bA
  have bA' : bigR ra ps.length = false := by simpa using bA
  by_cases bB : bigR rb qs.length = true
  · exact back_big1 ra rb ia.sl ib.sl pa pb _ ca _ cb ea eb b len cap w bA' bB
  have bB' : bigR rb qs.length = false := by simpa using bB
  by_cases hl : 200 < len
  · exact back_big2 ra rb ia.sl ib.sl pa pb _ ca _ cb ea eb b len cap w bA' bB' hl
  obtain ⟨bs, rfl, hcap, hbl, h8, hn0⟩ := h
  obtain ⟨a0, a1, a2, a3, a4⟩ := bigR_no bA
  obtain ⟨c0, c1, c2, c3, c4⟩ := bigR_no bB
  have ka : ra.ok := ⟨ia.sl, ia.s8, by omega, by omega, by omega, by omega⟩
  have kb : rb.ok := ⟨ib.sl, ib.s8, by omega, by omega, by omega, by omega⟩
  have pla : PL w ra.pv ps := ⟨pa, ca, ea, hca, by omega, hpa⟩
  have plb : PL w rb.pv qs := ⟨pb, cb, eb, hcb, by omega, hpb⟩
  have hl2 : bs.length ≤ 200 := by omega
  cases oA : okRc (ra.rc ps)
  · exact back_abad ra rb ka kb ps qs b cap bs w pla plb bA' bB' hl2 oA
  cases oC : okRc (rb.rc qs)
  · exact back_cbad ra rb ka kb ps qs b cap bs w pla plb bA' bB' hl2 hbl hcap hn0 h8 oA oC
  by_cases eq : ra.rc ps = rb.rc qs
  · exact back_same ra rb ka kb ps qs b cap bs w pla plb bA' bB' hl2 hbl hcap hn0 h8 oA oC eq
  by_cases sh : (rcB (rb.rc qs)).length < (rcB (ra.rc ps)).length
  · exact back_short ra rb ka kb ps qs b cap bs w pla plb bA' bB' hl2 hbl hcap hn0 h8 oA oC eq sh
  · exact back_unlike ra rb ka kb ps qs b cap bs w pla plb bA' bB' hl2 hbl hcap hn0 h8 oA oC eq (by omega)
#print axioms back_all
end Go.Proofs.Ytepkpkbgmchioaa
