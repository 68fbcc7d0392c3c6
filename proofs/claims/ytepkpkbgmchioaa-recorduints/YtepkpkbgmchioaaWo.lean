/- RecordUints, whatever comes in. -/
import Derived.Test.YtepkpkbgmchioaaWn
namespace Go.Proofs.Ytepkpkbgmchioaa
open Go Go.RowKit

theorem uints_all (n : Int) (a : Option Addr) (len cap : Nat) (w : World) (h : IsB w a len cap) : Calls Try.prog 7 #[i64 n, .slice a len cap] w fun e w' => e = .returned (.bool true) ∧ Below w.heap.size w w' := by
  obtain ⟨bs, rfl, hcap, hbl, h8, hn0⟩ := h
  by_cases hl : 20 < bs.length
  · exact uints_big n a _ cap w hl
  have hl2 : bs.length ≤ 20 := by omega
  by_cases hn : 0 ≤ n ∧ n ≤ 1099511627776
  · obtain ⟨k, rfl⟩ := Int.eq_ofNat_of_zero_le hn.1
    have hk : k ≤ 1099511627776 := by omega
    have h1 := nb_pos k
    have h6 := nb_le hk
    have hcs : (nb k).length = 1 ∨ (nb k).length = 2 ∨ (nb k).length = 3 ∨ (nb k).length = 4 ∨ (nb k).length = 5 ∨ (nb k).length = 6 := by omega
    cases hq : rdU bs with
    | none =>
      rcases hcs with e | e | e | e | e | e
      · exact uints_ok1_none k a cap bs w hk e hl2 hbl hcap hn0 h8 hq
      · exact uints_ok2_none k a cap bs w hk e hl2 hbl hcap hn0 h8 hq
      · exact uints_ok3_none k a cap bs w hk e hl2 hbl hcap hn0 h8 hq
      · exact uints_ok4_none k a cap bs w hk e hl2 hbl hcap hn0 h8 hq
      · exact uints_ok5_none k a cap bs w hk e hl2 hbl hcap hn0 h8 hq
      · exact uints_ok6_none k a cap bs w hk e hl2 hbl hcap hn0 h8 hq
    | some q =>
      obtain ⟨m, L⟩ := q
      rcases hcs with e | e | e | e | e | e
      · exact uints_ok1_some k a cap bs w hk e hl2 hbl hcap hn0 h8 m L hq
      · exact uints_ok2_some k a cap bs w hk e hl2 hbl hcap hn0 h8 m L hq
      · exact uints_ok3_some k a cap bs w hk e hl2 hbl hcap hn0 h8 m L hq
      · exact uints_ok4_some k a cap bs w hk e hl2 hbl hcap hn0 h8 m L hq
      · exact uints_ok5_some k a cap bs w hk e hl2 hbl hcap hn0 h8 m L hq
      · exact uints_ok6_some k a cap bs w hk e hl2 hbl hcap hn0 h8 m L hq
  · have hn' : n < 0 ∨ 1099511627776 < n := by omega
    cases hq : rdU bs with
    | none => exact uints_bad_none n a cap bs w hn' hl2 hbl hcap h8 hq
    | some q => exact uints_bad_some n a cap bs w hn' hl2 hbl hcap h8 q.1 q.2 hq
#print axioms uints_all
end Go.Proofs.Ytepkpkbgmchioaa
