/- RecordNumbers, whatever comes in. -/
import Derived.Test.YtepkpkbgmchioaaVo
import Derived.Test.YtepkpkbgmchioaaVja
import Derived.Test.YtepkpkbgmchioaaVjb
import Derived.Test.YtepkpkbgmchioaaVjc
import Derived.Test.YtepkpkbgmchioaaVjd
namespace Go.Proofs.Ytepkpkbgmchioaa
open Go Go.RowKit

set_option maxRecDepth 100000 in
theorem num_big1 (n : Int) (s : ByteArray) (a : Option Addr) (len cap : Nat) (w : World) (hs : 66000 < s.size) :
    Calls Try.prog 3 #[i64 n, .string s, .slice a len cap] w fun e w' => e = .returned (.bool true) ∧ Below w.heap.size w w' := by
  have hs' : 66000 < (s.size : Int) := by omega
  go_enter Try.func3, Try.ntmps3
  go_wp2_with fail
  go_ret
  exact ⟨rfl, Below.refl _ _⟩
set_option maxRecDepth 100000 in
theorem num_big2 (n : Int) (s : ByteArray) (a : Option Addr) (len cap : Nat) (w : World) (hs : s.size ≤ 66000) (hl : 70000 < len) :
    Calls Try.prog 3 #[i64 n, .string s, .slice a len cap] w fun e w' => e = .returned (.bool true) ∧ Below w.heap.size w w' := by
  have hs' : ¬ 66000 < (s.size : Int) := by omega
  have hl' : 70000 < (len : Int) := by omega
  go_enter Try.func3, Try.ntmps3
  go_wp2_with fail
  go_ret
  exact ⟨rfl, Below.refl _ _⟩
theorem numbers_all (n : Int) (s : ByteArray) (a : Option Addr) (len cap : Nat) (w : World) (h : IsB w a len cap) :
    Calls Try.prog 3 #[i64 n, .string s, .slice a len cap] w fun e w' => e = .returned (.bool true) ∧ Below w.heap.size w w' := by
  obtain ⟨bs, rfl, hcap, hbl, h8, _⟩ := h
  by_cases hs : 66000 < s.size
  · exact num_big1 n s a _ cap w hs
  by_cases hl : 70000 < bs.length
  · exact num_big2 n s a _ cap w (by omega) hl
  have hbs : bs.length ≤ 70000 := by omega
  by_cases hn : 0 ≤ n ∧ n ≤ 1099511627776
  · obtain ⟨k, rfl⟩ := Int.eq_ofNat_of_zero_le hn.1
    have hk : k ≤ 1099511627776 := by omega
    by_cases ht : s.size ≤ 65536 <;> cases hq : rdU bs <;> cases hx : rdT bs
    · exact num1100 s a cap bs w k hk ht hq hx hbl hcap hbs h8
    · exact num1101 s a cap bs w k hk ht hq _ _ hx hbl hcap hbs h8
    · exact num1110 s a cap bs w k hk ht _ _ hq hx hbl hcap hbs h8
    · exact num1111 s a cap bs w k hk ht _ _ hq _ _ hx hbl hcap hbs h8
    · exact num1000 s a cap bs w k hk (by omega) hq hx hbl hcap hbs h8
    · exact num1001 s a cap bs w k hk (by omega) hq _ _ hx hbl hcap hbs h8
    · exact num1010 s a cap bs w k hk (by omega) _ _ hq hx hbl hcap hbs h8
    · exact num1011 s a cap bs w k hk (by omega) _ _ hq _ _ hx hbl hcap hbs h8
  · have hk : n < 0 ∨ 1099511627776 < n := by omega
    by_cases ht : s.size ≤ 65536 <;> cases hq : rdU bs <;> cases hx : rdT bs
    · exact num0100 s a cap bs w n hk ht hq hx hbl hcap hbs h8
    · exact num0101 s a cap bs w n hk ht hq _ _ hx hbl hcap hbs h8
    · exact num0110 s a cap bs w n hk ht _ _ hq hx hbl hcap hbs h8
    · exact num0111 s a cap bs w n hk ht _ _ hq _ _ hx hbl hcap hbs h8
    · exact num0000 s a cap bs w n hk (by omega) hq hx hbl hcap hbs h8
    · exact num0001 s a cap bs w n hk (by omega) hq _ _ hx hbl hcap hbs h8
    · exact num0010 s a cap bs w n hk (by omega) _ _ hq hx hbl hcap hbs h8
    · exact num0011 s a cap bs w n hk (by omega) _ _ hq _ _ hx hbl hcap hbs h8
#print axioms numbers_all
end Go.Proofs.Ytepkpkbgmchioaa
