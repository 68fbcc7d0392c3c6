/- Contracts of mark and awake, the examples. -/
import Derived.Test.YtepkpkbgmchioaaWh
import Derived.Test.YtepkpkbgmchioaaVp
namespace Go.Proofs.Ytepkpkbgmchioaa
open Go Go.RowKit

def mk5 : Rv := mkR ⟨#[110, 117, 108, 108]⟩ 5
def mB : List Nat := [4, 110, 117, 108, 108, 5, 1]
theorem mk5_ok : mk5.ok := mkR_ok (by simp [ByteArray.size])
theorem mk5_may : okRc (mk5.rc []) = true := by kernel_rfl
theorem mk5_bytes : rcB (mk5.rc []) = mB := by kernel_rfl
theorem mk5_read : rdR (mB ++ [9]) = some (mk5.rc [], [9]) := by kernel_rfl
theorem built_mk5 : Try.prog.built 45 [(0, .string ⟨#[110, 117, 108, 108]⟩), (1, .int .i64 5), (2, .bool true)] = some mk5.cs := by kernel_rfl
set_option maxRecDepth 100000 in
theorem mark_any (w : World) : Calls Try.prog 34 #[] w fun e w' => e = .returned (.agg mk5.cs) ∧ Below w.heap.size w w' := by
  obtain ⟨Z, hZ⟩ : ∃ Z, mk5 = Z := ⟨_, rfl⟩
  have zok : Z.ok := hZ ▸ mk5_ok
  have hb := built_mk5
  have hone : Z.pv.oneCell' = true := hZ ▸ rfl
  rw [hZ] at hb ⊢
  have HB := hid hb
  clear hZ hb
  go_enter Try.func34, Try.ntmps34
  go_wp2_with (first
    | ((with_reducible refine wpList_allocR rfl rfl ?_); intro w1 g1 hz1 hb1 hg1; have HZ1 := hid hz1; have HB1 := hid hb1; clear hz1 hb1)
    | ((with_reducible refine wpList_build_want 45 _ rfl ?_ Z.cs ?_ ?_); exact rfl; exact HB.out)
    | ((with_reducible refine wpList_storeR rfl rfl _ _ rfl g1 ?_ (r := Z) ?_ zR_ok zok hone HZ1.out ?_); exact rfl; exact rfl; intro w5 h5 o5; have H5 := hid h5; have O5 := hid o5; clear h5 o5))
  refine ret_rowR rfl g1 rfl rfl H5.out zok ⟨rfl, ?_⟩
  exact below_tr HB1.out (O5.out.below HB1.out.size (fun i e => by omega))
#print axioms mark_any
#print axioms mk5_read
end Go.Proofs.Ytepkpkbgmchioaa
