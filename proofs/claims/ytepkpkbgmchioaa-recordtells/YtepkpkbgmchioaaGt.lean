/- Texts laid into one: the remark ahead of each part says what is proved there. -/
import Derived.Test.YtepkpkbgmchioaaGr
import Derived.Test.YtepkpkbgmchioaaGs
/- RecordTells, whatever comes in. -/
namespace Go.Proofs.Ytepkpkbgmchioaa
open Go Go.RowKit

theorem tells_all (ra rb : Rv) (b : Option Addr) (len cap : Nat) (w : World) (ia : IsRN w ra) (ib : IsRN w rb) (h : IsB w b len cap) : Calls Try.prog 4 #[.agg ra.cs, .agg rb.cs, .slice b len cap] w fun e w' => e = .returned (.bool true) ∧ Below w.heap.size w w' := by
  obtain ⟨pa, ca, ps, ea, hca, hpa⟩ := ia.1.parts
  obtain ⟨pb, cb, qs, eb, hcb, hpb⟩ := ib.1.parts
  by_cases bA : bigR ra ps.length = true
  · exact tells_big0 ra rb ia.1.sl ib.1.sl pa pb _ ca _ cb ea eb b len cap w bA
  have bA' : bigR ra ps.length = false := by simpa using bA
  by_cases bB : bigR rb qs.length = true
  · exact tells_big1 ra rb ia.1.sl ib.1.sl pa pb _ ca _ cb ea eb b len cap w bA' bB
  have bB' : bigR rb qs.length = false := by simpa using bB
  by_cases hl : 10000 < len
  · exact tells_big2 ra rb ia.1.sl ib.1.sl pa pb _ ca _ cb ea eb b len cap w bA' bB' hl
  obtain ⟨bs, rfl, hcap, hbl, h8, hn0⟩ := h
  obtain ⟨a0, a1, a2, a3, a4⟩ := bigR_no bA
  obtain ⟨c0, c1, c2, c3, c4⟩ := bigR_no bB
  have ka : ra.ok := ⟨ia.1.sl, ia.1.s8, by omega, by omega, by omega, by omega⟩
  have kb : rb.ok := ⟨ib.1.sl, ib.1.s8, by omega, by omega, by omega, by omega⟩
  have pla : PL w ra.pv ps := ⟨pa, ca, ea, hca, by omega, hpa⟩
  have plb : PL w rb.pv qs := ⟨pb, cb, eb, hcb, by omega, hpb⟩
  have hl2 : bs.length ≤ 10000 := by omega
  cases oA : okRc (ra.rc ps)
  · exact tells_bad ra rb ka kb ps qs b cap bs w pla ia.2 plb bA' bB' hl2 hbl hcap h8 oA
  · exact tells_ok ra rb ka kb ps qs b cap bs w pla ia.2 plb bA' bB' hl2 hbl hcap h8 oA
#print axioms tells_all
end Go.Proofs.Ytepkpkbgmchioaa
