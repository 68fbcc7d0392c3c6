/- Known digests, reckoned: of no byte, of abc, and of a text of 56 signs; and their digits. -/
import Derived.Test.YtfhjioedelpgiaaDoorSi
namespace Go.Proofs.YtfhjioedelpgiaaDoor
open Go Go.RowKit

theorem strN_congr (n : Nat) {x y : Nat → Nat} (h : ∀ i, i < n → x i = y i) : strN n x = strN n y := by
  unfold strN; congr 1; apply List.map_congr_left; intro i hi; rw [h i (List.mem_range.1 hi)]
theorem hexF_congr {x y : Nat → Nat} (h : ∀ i, i < 32 → x i = y i) (i : Nat) (hi : i < 64) : hexF x i = hexF y i := by
  unfold hexF; rw [h (i / 2) (by omega)]
theorem list_at {f : Nat → Nat} {L : List Nat} (h : (List.range 32).map f = L) (i : Nat) (hi : i < 32) : f i = L.getD i 0 := by
  rw [← h]; simp [hi]
def xNone (i : Nat) : Nat := [].getD i 0
theorem shaNone : (List.range 32).map (sha 0 xNone) = [227, 176, 196, 66, 152, 252, 28, 20, 154, 251, 244, 200, 153, 111, 185, 36, 39, 174, 65, 228, 100, 155, 147, 76, 164, 149, 153, 27, 120, 82, 184, 85] := by decide +kernel
theorem hexNone : strN 64 (hexF (sha 0 xNone)) = ⟨#[101, 51, 98, 48, 99, 52, 52, 50, 57, 56, 102, 99, 49, 99, 49, 52, 57, 97, 102, 98, 102, 52, 99, 56, 57, 57, 54, 102, 98, 57, 50, 52, 50, 55, 97, 101, 52, 49, 101, 52, 54, 52, 57, 98, 57, 51, 52, 99, 97, 52, 57, 53, 57, 57, 49, 98, 55, 56, 53, 50, 98, 56, 53, 53]⟩ := by
  rw [strN_congr 64 (fun i hi => hexF_congr (list_at shaNone) i hi)]
  decide +kernel
def xAbc (i : Nat) : Nat := [97, 98, 99].getD i 0
theorem shaAbc : (List.range 32).map (sha 3 xAbc) = [186, 120, 22, 191, 143, 1, 207, 234, 65, 65, 64, 222, 93, 174, 34, 35, 176, 3, 97, 163, 150, 23, 122, 156, 180, 16, 255, 97, 242, 0, 21, 173] := by decide +kernel
theorem hexAbc : strN 64 (hexF (sha 3 xAbc)) = ⟨#[98, 97, 55, 56, 49, 54, 98, 102, 56, 102, 48, 49, 99, 102, 101, 97, 52, 49, 52, 49, 52, 48, 100, 101, 53, 100, 97, 101, 50, 50, 50, 51, 98, 48, 48, 51, 54, 49, 97, 51, 57, 54, 49, 55, 55, 97, 57, 99, 98, 52, 49, 48, 102, 102, 54, 49, 102, 50, 48, 48, 49, 53, 97, 100]⟩ := by
  rw [strN_congr 64 (fun i hi => hexF_congr (list_at shaAbc) i hi)]
  decide +kernel
theorem xAbc_lt (i : Nat) (hi : i < 3) : xAbc i < 256 := by
  have h : ∀ i : Fin 3, xAbc i.val < 256 := by decide
  exact h ⟨i, hi⟩
def xLong (i : Nat) : Nat := [97, 98, 99, 100, 98, 99, 100, 101, 99, 100, 101, 102, 100, 101, 102, 103, 101, 102, 103, 104, 102, 103, 104, 105, 103, 104, 105, 106, 104, 105, 106, 107, 105, 106, 107, 108, 106, 107, 108, 109, 107, 108, 109, 110, 108, 109, 110, 111, 109, 110, 111, 112, 110, 111, 112, 113].getD i 0
theorem shaLong : (List.range 32).map (sha 56 xLong) = [36, 141, 106, 97, 210, 6, 56, 184, 229, 192, 38, 147, 12, 62, 96, 57, 163, 60, 228, 89, 100, 255, 33, 103, 246, 236, 237, 212, 25, 219, 6, 193] := by decide +kernel
theorem hexLong : strN 64 (hexF (sha 56 xLong)) = ⟨#[50, 52, 56, 100, 54, 97, 54, 49, 100, 50, 48, 54, 51, 56, 98, 56, 101, 53, 99, 48, 50, 54, 57, 51, 48, 99, 51, 101, 54, 48, 51, 57, 97, 51, 51, 99, 101, 52, 53, 57, 54, 52, 102, 102, 50, 49, 54, 55, 102, 54, 101, 99, 101, 100, 100, 52, 49, 57, 100, 98, 48, 54, 99, 49]⟩ := by
  rw [strN_congr 64 (fun i hi => hexF_congr (list_at shaLong) i hi)]
  decide +kernel
theorem xLong_lt (i : Nat) (hi : i < 56) : xLong i < 256 := by
  have h : ∀ i : Fin 56, xLong i.val < 256 := by decide
  exact h ⟨i, hi⟩
end Go.Proofs.YtfhjioedelpgiaaDoor
