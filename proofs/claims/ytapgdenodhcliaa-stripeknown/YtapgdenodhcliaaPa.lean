/- Contracts of scale and take of the document's own answer: a row is multiplied; a multiple of another row is added to it; no other block is touched. -/
import Derived.Test.YtapgdenodhcliaaMo
import Derived.Test.YtapgdenodhcliaaLd
import Derived.Deep.RegionWith
namespace Go.Proofs.Ytapgdenodhcliaa
open Go.RowKit

theorem rmul_k (a b : K) (w : World) : Calls Try.prog 58 #[.int .u8 ((a.val : Nat) : Int), .int .u8 ((b.val : Nat) : Int)] w fun e w' => e = .returned (.int .u8 (((a * b).val : Nat) : Int)) ∧ w' = w :=
  rmul_any _ _ w (by omega) (by have := a.lt; omega) (by omega) (by have := b.lt; omega)
theorem rinv_k (a : K) (w : World) : Calls Try.prog 57 #[.int .u8 ((a.val : Nat) : Int)] w fun e w' => e = .returned (.tuple #[.int .u8 (((K.iv a).val : Nat) : Int), .int .i64 (invE a.val)]) ∧ w' = w := by
  rw [← invV_k]
  exact rinv_any _ w (by omega) (by have := a.lt; omega)
theorem xor_k (a b : K) : bits BinOp.xor IntKind.u8 ((a.val : Nat) : Int) ((b.val : Nat) : Int) = (((a + b).val : Nat) : Int) := u8_xor_nat _ _ a.lt b.lt

theorem OnlyIn.drew {S : Nat → Prop} {w w' : World} (h : OnlyIn S w w') : OnlyIn S w w'.drew := ⟨h.os, h.tape, h.output, h.size, h.block⟩
/-- Row r multiplied as far as k. -/
def scTo (T : Nat → Nat → K) (r k : Nat) (b : K) : Nat → Nat → K := fun i c => if i = r ∧ c < k then T r c * b else T i c
theorem scTo_at (T : Nat → Nat → K) (r k : Nat) (b : K) : scTo T r k b r k = T r k := by unfold scTo; rw [if_neg (by omega)]
theorem scTo_step (T : Nat → Nat → K) (r k : Nat) (b : K) (i c : Nat) : up2 (scTo T r k b) r k (scTo T r k b r k * b) i c = scTo T r (k + 1) b i c := by
  rw [scTo_at]; unfold up2 scTo
  by_cases e : i = r ∧ c = k
  · obtain ⟨rfl, rfl⟩ := e; simp
  · rw [if_neg e]
    by_cases q : i = r ∧ c < k
    · rw [if_pos q, if_pos (by omega)]
    · rw [if_neg q, if_neg (by omega)]

set_option maxRecDepth 100000 in
set_option maxHeartbeats 1000000 in
theorem scale_any (B g c n m r : Nat) (G Q : Nat → Nat) (T : Nat → Nat → K) (b : K) (w : World) (h : OwnMat B w g c n m G Q T) (hr : r < n) (hm : m ≤ 32) :
    Calls Try.prog 85 #[.slice (some ⟨G r, 0, none⟩) m (Q r), .int .u8 ((b.val : Nat) : Int)] w fun e w' => e = .returned (.tuple #[]) ∧ OwnMat B w' g c n m G Q (scR T r b) ∧ OnlyIn (fun k => k = G r) w w' := by
  have HM := hid h
  clear h
  go_enter Try.func85, Try.ntmps85
  go_wp2
  go_loopw [4] (fun x wr => ∃ k : Nat, k ≤ m ∧ x = .int .i64 k ∧ OwnMat B wr g c n m G Q (scTo T r k b) ∧ OnlyIn (fun k => k = G r) w wr) (fun x _ => (m - intOf x).toNat)
  case atStart => exact ⟨0, by omega, rfl, HM.out.congr (fun i _ j _ => by unfold scTo; rw [if_neg (by omega)]), OnlyIn.refl _ _⟩
  case round =>
    clear HM
    obtain ⟨k, hk, rfl, hm1, ho⟩ := hrel
    by_cases hlt : k < m
    · have c1 := hm1.cell r k hr hlt
      have c2 := hm1.free r k hr
      have HM := hid ((hm1.set r k (scTo T r k b r k * b) hr).congr (fun i _ c _ => scTo_step T r k b i c))
      have HO := hid (ho.setCell (G r) k rfl (.int .u8 (((scTo T r k b r k * b).val : Nat) : Int)))
      clear hm1 ho
      go_wp2_with (go_at_call 58; refine (rmul_k _ _ _).mono ?_; rintro e w' ⟨rfl, rfl⟩)
      go_roundw
      case rel => exact ⟨k + 1, by omega, by go_num, HM.out, HO.out⟩
      case measure => simp [intOf]; omega
    · have HM := hid (hm1.congr (Y := scR T r b) (fun i hi j hj => by
        unfold scTo scR
        by_cases e : i = r
        · rw [if_pos ⟨e, by omega⟩, if_pos e]
        · rw [if_neg (fun q => e q.1), if_neg e]))
      have HO := hid ho
      clear hm1 ho
      go_wp2
      go_end0
      exact ⟨rfl, HM.out, HO.out⟩

/-- A multiple of row r added to row i, as far as k. -/
def tkTo (T : Nat → Nat → K) (i r k : Nat) (b : K) : Nat → Nat → K := fun a c => if a = i ∧ c < k then T i c + T r c * b else T a c
def tkR (T : Nat → Nat → K) (i r : Nat) (b : K) : Nat → Nat → K := fun a c => if a = i then T i c + T r c * b else T a c
theorem tkTo_step (T : Nat → Nat → K) (i r k : Nat) (b : K) (h : i ≠ r) (a c : Nat) : up2 (tkTo T i r k b) i k (tkTo T i r k b i k + tkTo T i r k b r k * b) a c = tkTo T i r (k + 1) b a c := by
  have e1 : tkTo T i r k b i k = T i k := by unfold tkTo; rw [if_neg (by omega)]
  have e2 : tkTo T i r k b r k = T r k := by unfold tkTo; rw [if_neg (by omega)]
  rw [e1, e2]
  unfold up2 tkTo
  by_cases e : a = i ∧ c = k
  · obtain ⟨rfl, rfl⟩ := e; simp
  · rw [if_neg e]
    by_cases q : a = i ∧ c < k
    · rw [if_pos q, if_pos (by omega)]
    · rw [if_neg q, if_neg (by omega)]

set_option maxRecDepth 100000 in
set_option maxHeartbeats 4000000 in
theorem take_any (B g c n m i r : Nat) (G Q : Nat → Nat) (T : Nat → Nat → K) (b : K) (w : World) (h : OwnMat B w g c n m G Q T) (hi : i < n) (hr : r < n) (hne : i ≠ r) (hm : m ≤ 32) :
    Calls Try.prog 86 #[.slice (some ⟨G i, 0, none⟩) m (Q i), .slice (some ⟨G r, 0, none⟩) m (Q r), .int .u8 ((b.val : Nat) : Int)] w fun e w' => e = .returned (.tuple #[]) ∧ OwnMat B w' g c n m G Q (tkR T i r b) ∧ OnlyIn (fun k => k = G i) w w' := by
  have HM := hid h
  clear h
  go_enter Try.func86, Try.ntmps86
  go_wp2
  go_loopw [6] (fun x wr => ∃ k : Nat, k ≤ m ∧ x = .int .i64 k ∧ OwnMat B wr g c n m G Q (tkTo T i r k b) ∧ OnlyIn (fun k => k = G i) w wr) (fun x _ => (m - intOf x).toNat)
  case atStart => exact ⟨0, by omega, rfl, HM.out.congr (fun i _ j _ => by unfold tkTo; rw [if_neg (by omega)]), OnlyIn.refl _ _⟩
  case round =>
    clear HM
    obtain ⟨k, hk, rfl, hm1, ho⟩ := hrel
    by_cases hlt : k < m
    · have c1 := hm1.cell i k hi hlt
      have c2 := hm1.free i k hi
      have c3 := hm1.cell r k hr hlt
      have hx := xor_k (tkTo T i r k b i k) (tkTo T i r k b r k * b)
      have HM := hid ((hm1.set i k (tkTo T i r k b i k + tkTo T i r k b r k * b) hi).congr (fun a _ c _ => tkTo_step T i r k b hne a c))
      have HO := hid (ho.setCell (G i) k rfl (.int .u8 (((tkTo T i r k b i k + tkTo T i r k b r k * b).val : Nat) : Int)))
      have hlt' : (k : Int) < (m : Int) := by omega
      have hk0 : (0 : Int) ≤ (k : Int) := by omega
      clear hm1 ho
      go_wp2_with fail
      go_region_with ((go_at_call 58; refine (rmul_k _ _ _).mono ?_; rintro e w' ⟨rfl, rfl⟩))
      all_goals (go_wp2; go_roundw; (case rel => exact ⟨k + 1, by omega, by go_num, HM.out.drew, HO.out.drew⟩); (case measure => simp [intOf]; omega))
    · have HM := hid (hm1.congr (Y := tkR T i r b) (fun a ha j hj => by
        unfold tkTo tkR
        by_cases e : a = i
        · rw [if_pos ⟨e, by omega⟩, if_pos e]
        · rw [if_neg (fun q => e q.1), if_neg e]))
      have HO := hid ho
      clear hm1 ho
      go_wp2
      go_end0
      exact ⟨rfl, HM.out, HO.out⟩
end Go.Proofs.Ytapgdenodhcliaa
