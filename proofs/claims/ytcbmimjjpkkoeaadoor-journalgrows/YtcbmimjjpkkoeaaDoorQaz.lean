/- Texts laid into one: the remark ahead of each part says what is proved there. -/
import Derived.Test.YtcbmimjjpkkoeaaDoorQay
/- JournalGrows, whatever came in. -/
namespace Go.Proofs.YtcbmimjjpkkoeaaDoor
open Go Go.RowKit

theorem grow8_any (a0 a1 : Addr) (v : Value) (l : List Rp) (which : Int) (w : World) (he : Ers w a0 a1) (hl : IsJ w v l) : Calls Tryd.prog 4 #[v, i64 which] w fun e w' => e = .returned (.bool true) ∧ Below w.heap.size w w' := by
  by_cases hb : 70 < l.length
  · exact grow_long a0 a1 v l which w he hl hb
  · cases hB : bigJ l with
    | true => exact grow_big a0 a1 v l which w he hl hb hB
    | false => exact grow_walk a0 a1 v l which w he hl hb hB
#print axioms grow8_any
end Go.Proofs.YtcbmimjjpkkoeaaDoor
