/- Contract of the document's own answer for Axpy: the sums, in memory of the call's own; what was there is as it was. -/
import Derived.Test.YtnjmegphphfbcaaXd
import Derived.Deep.AppendLies
namespace Go.Proofs.Ytnjmegphphfbcaa
open Go.RowKit

theorem valN_succ (n : Nat) (x : Nat → Nat) : valN (n + 1) x = valN n x ++ [.int .u8 (x n : Nat)] := by
  simp [valN, List.range_succ]
theorem own_str {w : World} {base n : Nat} {v : Value} {x : Nat → Nat} (h : w.ownsRow base 5 1 v n (valN n x)) : ∃ p c, v = .slice p n c ∧ StrAt w p n x := by
  rcases h.2 with ⟨rfl, rfl⟩ | ⟨g, cap, cur, rfl, hb, hg, hc, hm, hs, ht⟩
  · exact ⟨none, 0, rfl, .inl rfl⟩
  · refine ⟨some ⟨g, 0, none⟩, cap, rfl, .inr ⟨g, 0, rfl, fun i hi => ?_⟩⟩
    have hcell := World.ownsRow.cells h (g := g) rfl i (.int .u8 (x i : Nat)) (valN_get n x i hi)
    have hadd : (⟨g, 0, none⟩ : Addr).add i = ⟨g, 0 + i, none⟩ := by unfold Addr.add; split <;> simp_all
    rw [hadd] at hcell; exact hcell

set_option maxRecDepth 100000 in
set_option maxHeartbeats 2000000 in
theorem raxpy_some (by_ oy n cy bx ox cx a : Nat) (y x : Nat → Nat) (w : World) (hn : n ≤ 65536) (ha : a < 256)
    (hy : ∀ i, i < n → y i < 256) (hx : ∀ i, i < n → x i < 256) (hby : by_ < w.heap.size) (hbx : bx < w.heap.size)
    (celly : RowAt w by_ oy n y) (cellx : RowAt w bx ox n x) :
    Calls Try.prog 22 #[.slice (some ⟨by_, oy, none⟩) n cy, .slice (some ⟨bx, ox, none⟩) n cx, .int .u8 a] w fun e w' =>
      ∃ p c, e = .returned (.tuple #[.slice p n c, .int .i64 0]) ∧ StrAt w' p n (axN a y x) ∧ Below w.heap.size w w' := by
  have HE : Hid (errM n n = 0) := by unfold errM; rw [if_neg (by omega), if_pos rfl]; trivial
  obtain ⟨i0, hi0, hz0, hz1, hz2⟩ := info_parts Try.info5
  go_enter Try.func22, Try.ntmps22
  go_wp2_with (go_at_call 34; refine (wrong_any _ _ _ _ _ _ _).mono ?_; rintro e w' ⟨rfl, hw⟩; have hw2 := hw.symm; subst hw2; clear hw; rw [HE.out])
  go_loopw [9, 10] (fun v i wr => ∃ k : Nat, k ≤ n ∧ i = .int .i64 k ∧ wr.ownsRow w.heap.size 5 1 v k (valN k (axN a y x)) ∧ Below w.heap.size w wr) (fun _ i _ => (n - intOf i).toNat)
  case atStart => exact ⟨0, by omega, rfl, World.ownsRow_nil _ _ _ _, Below.refl _ _⟩
  case round =>
    obtain ⟨k, hk, rfl, hown, hb⟩ := hrel
    by_cases hlt : k < n
    · have c1 : wr.cell? ⟨by_, oy + k, none⟩ = some (.int .u8 (y k : Nat)) := (hb.cell (p := ⟨by_, oy + k, none⟩) hby).trans (celly k hlt)
      have c2 : wr.cell? ⟨bx, ox + k, none⟩ = some (.int .u8 (x k : Nat)) := (hb.cell (p := ⟨bx, ox + k, none⟩) hbx).trans (cellx k hlt)
      have hy' := hy k hlt
      have hx' := hx k hlt
      have hg := Gf.gm_lt a (x k) ha
      have hxor : bits BinOp.xor IntKind.u8 (y k : Nat) (Gf.gm a (x k) : Nat) = (axN a y x k : Nat) := u8_xor_nat _ _ hy' hg
      have ag : u9.ownBlock ≠ some by_ := fun e => by have := (hown.lt _ e).1; omega
      have ak : u9.ownBlock ≠ some bx := fun e => by have := (hown.lt _ e).1; omega
      have lt1 : by_ < wr.heap.size := by have := hb.size; omega
      have lt2 : bx < wr.heap.size := by have := hb.size; omega
      have hm1 : k + 1 ≤ maxLen := by unfold maxLen; omega
      have hm2 : (k + 1) * 1 ≤ 140737488355328 := by omega
      have hbs := hb.size
      have hlt' : (k : Int) < (n : Int) := by omega
      have hk0 : (0 : Int) ≤ (k : Int) := by omega
      clear hx hy celly cellx
      go_wp2_with fail
      go_region_held3 (fun w' => w'.cell? ⟨by_, oy + k, none⟩ = some (.int .u8 (y k : Nat)) ∧ w'.cell? ⟨bx, ox + k, none⟩ = some (.int .u8 (x k : Nat)))
        (first
          | go_keep
          | (go_split_ands
             refine ⟨?_, ?_⟩
             · (rw [hgrow.cell_far _ (by simp; omega) (Ne.symm ag)]; assumption)
             · (rw [hgrow.cell_far _ (by simp; omega) (Ne.symm ak)]; assumption)))
        (first
          | (go_at_call 18; refine (rmul_any _ _ _ (by omega) (by omega) (by omega) (by omega)).mono ?_; rintro e w' ⟨rfl, rfl⟩)
          | (refine step_append_lies _ (by rfl) _ _ _ (by rfl) w.heap.size 5 i0 _ 1 1 Try.underlying32 hi0 hz0 hz1 hz2 rfl (by omega) _ k (valN k (axN a y x)) (by rfl) ((hown.alloc _).drew) ⟨wr.heap.size, 0, none⟩ 1 1 [.int .u8 (axN a y x k : Nat)] (by rfl) (by rfl) (World.news_of_block (cs := #[.int .u8 (axN a y x k : Nat)]) (t := 5) (fr := (0, 0)) (heap_alloc_new wr _)) (by simp [Value.oneCell']) (by omega) hm1 hm2 (by simp; omega) (wr.heap.size + 1) (by simp) ?_; intro gg cap w1 hown1 hgrow hat hlt2))
      have HO : Hid (w1.ownsRow w.heap.size 5 1 (.slice (some ⟨gg, 0, none⟩) (k + 1) cap) (k + 1) (valN (k + 1) (axN a y x))) := by rw [valN_succ]; exact hown1
      have HB : Hid (Below w.heap.size w w1) := Below.grown ((hb.alloc hbs _).drew) hgrow (by simp; omega) (fun j hj => (hown.lt j hj).1)
      clear hown1 hgrow hown hb c1 c2 hxor
      go_wp2
      go_roundw
      case rel => exact ⟨k + 1, by omega, by go_num, HO.out, HB.out⟩
      case measure => simp [intOf]; omega
    · have e : k = n := by omega
      subst e
      obtain ⟨p, c, hv, hstr⟩ := own_str hown
      have HS := hid hstr
      have HB := hid hb
      clear hown hb celly cellx hstr
      subst hv
      go_wp2
      go_ret2
      exact ⟨p, c, rfl, HS.out, HB.out⟩

set_option maxRecDepth 100000 in
set_option maxHeartbeats 400000 in
theorem raxpy_zero (p q : Option Addr) (c d : Nat) (a : Int) (w : World) :
    Calls Try.prog 22 #[.slice p 0 c, .slice q 0 d, .int .u8 a] w fun e w' => e = .returned (.tuple #[.slice none 0 0, .int .i64 0]) ∧ w' = w := by
  have HE : Hid (errM 0 0 = 0) := by unfold errM; rw [if_neg (by omega), if_pos rfl]; trivial
  go_enter Try.func22, Try.ntmps22
  go_wp2_with (go_at_call 34; refine (wrong_any _ _ _ _ _ _ _).mono ?_; rintro e w' ⟨rfl, hw⟩; have hw2 := hw.symm; subst hw2; clear hw; rw [HE.out])
  refine wp_loop_rounds 1 ?_
  rw [rounds_succ]
  go_wp2
  go_ret2
  exact ⟨rfl, rfl⟩

set_option maxRecDepth 100000 in
set_option maxHeartbeats 400000 in
theorem raxpy_err (p q : Option Addr) (x y cx cy : Nat) (a : Int) (w : World) (h : errM y x ≠ 0) :
    Calls Try.prog 22 #[.slice p x cx, .slice q y cy, .int .u8 a] w fun e w' => e = .returned (.tuple #[.slice none 0 0, .int .i64 (errM y x)]) ∧ w' = w := by
  have h' : (errM y x != 0) = true := by simpa using h
  clear h
  go_enter Try.func22, Try.ntmps22
  go_wp2_with (go_at_call 34; refine (wrong_any _ _ _ _ _ _ _).mono ?_; rintro e w' ⟨rfl, hw⟩; have hw2 := hw.symm; subst hw2; clear hw)
  go_ret2
  exact ⟨rfl, rfl⟩
end Go.Proofs.Ytnjmegphphfbcaa
