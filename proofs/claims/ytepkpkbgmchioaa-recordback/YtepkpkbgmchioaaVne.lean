/- Contract of Same of package record, some cases. (Written by tools/gen_Vn.py.) -/
import Derived.Test.YtepkpkbgmchioaaVna
import Derived.Test.YtepkpkbgmchioaaVnb
import Derived.Test.YtepkpkbgmchioaaVnc
import Derived.Test.YtepkpkbgmchioaaVnd
namespace Go.Proofs.Ytepkpkbgmchioaa
open Go Go.RowKit

theorem same_any (r s : Rv) (hr : r.ok) (hs : s.ok) (ps qs : Ps) (w : World) (hp : PL w r.pv ps) (hq : PL w s.pv qs) : Calls Try.prog 26 #[.agg r.cs, .agg s.cs] w fun e w' => e = .returned (.bool (decide (r.rc ps = s.rc qs))) ∧ Below w.heap.size w w' := by
  cases h0 : (r.id.toList == s.id.toList)
  · exact same_0 r s hr hs ps qs w hp hq h0
  cases h1 : (r.time == s.time)
  · exact same_1 r s hr hs ps qs w hp hq h0 h1
  cases h2 : (r.mark == s.mark)
  · exact same_2 r s hr hs ps qs w hp hq h0 h1 h2
  cases h3 : (r.size == s.size)
  · exact same_3 r s hr hs ps qs w hp hq h0 h1 h2 h3
  cases h4 : (r.etag.toList == s.etag.toList)
  · exact same_4 r s hr hs ps qs w hp hq h0 h1 h2 h3 h4
  cases h5 : (r.k == s.k)
  · exact same_5 r s hr hs ps qs w hp hq h0 h1 h2 h3 h4 h5
  cases h6 : (r.m == s.m)
  · exact same_6 r s hr hs ps qs w hp hq h0 h1 h2 h3 h4 h5 h6
  cases h7 : (r.data.toList == s.data.toList)
  · exact same_7 r s hr hs ps qs w hp hq h0 h1 h2 h3 h4 h5 h6 h7
  cases h8 : decide (r.sum = s.sum)
  · exact same_8 r s hr hs ps qs w hp hq h0 h1 h2 h3 h4 h5 h6 h7 h8
  cases h9 : decide (ps = qs)
  · exact same_9 r s hr hs ps qs w hp hq h0 h1 h2 h3 h4 h5 h6 h7 h8 h9
  cases h10 : (r.up.toList == s.up.toList)
  · exact same_10 r s hr hs ps qs w hp hq h0 h1 h2 h3 h4 h5 h6 h7 h8 h9 h10
  exact same_11 r s hr hs ps qs w hp hq h0 h1 h2 h3 h4 h5 h6 h7 h8 h9 h10
#print axioms same_any
end Go.Proofs.Ytepkpkbgmchioaa
