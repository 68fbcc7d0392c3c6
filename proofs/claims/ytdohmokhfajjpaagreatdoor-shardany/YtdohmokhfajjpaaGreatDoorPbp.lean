/- Texts laid into one, cut to what is needed: the remark ahead of each part says what is proved there. -/
import Derived.Test.YtdohmokhfajjpaaGreatDoorPbo
/- ShardAny, as it is called. -/
namespace Go.Proofs.YtdohmokhfajjpaaGreatDoor
open Go Go.RowKit

theorem shardAny_all (a : Option Addr) (len cap : Nat) (k m : Int) (fv : Value) (l : List Fte) (fr tt : Int) (w : World) (a0 a1 : Addr) (hE : Ers w a0 a1) (hb : IsB w a len cap) (hf : IsFt w fv l) (hk : (Lit.int .i64 k).wf = true) :
  Calls Tryz.prog 3 #[.slice a len cap, .int .i64 k, .int .i64 m, fv, .int .i64 fr, .int .i64 tt] w fun e w' => e = .returned (.bool true) ∧ Below w.heap.size w w' := by
 obtain ⟨bs, rfl, h1, h2, h3, h4⟩ := hb
 by_cases h : 2000 < bs.length ∨ k < 1 ∨ m < 1 ∨ 15 < k ∨ 16 - k < m ∨ 16 < l.length
 ·obtain ⟨fo, fc, rfl, _⟩ := hf
  exact shardAny_let a fo bs.length cap l.length fc k m fr tt w h (wf64 hk).2
 ·obtain ⟨K, rfl⟩ : ∃ K : Nat, k = (K : Int) := ⟨k.toNat, by omega⟩
  obtain ⟨M, rfl⟩ : ∃ M : Nat, m = (M : Int) := ⟨m.toNat, by omega⟩
  exact shardAny_core a cap bs K M fv l fr tt w a0 a1 hE h2 h1 h3 h4 hf (by omega) (by omega) (by omega) (by omega) (by omega)
end Go.Proofs.YtdohmokhfajjpaaGreatDoor
