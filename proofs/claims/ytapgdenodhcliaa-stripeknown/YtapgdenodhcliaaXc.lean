/- Contract of LentBytes of the statements' kit: a copy of the bytes lies in a new block, with three marked bytes of spare room behind it; what was there is as it was. -/
import Derived.Test.YtapgdenodhcliaaWx
import Derived.Laws.IdiomCopy
namespace Go.Proofs.Ytapgdenodhcliaa
open Go.RowKit

theorem size_setCells (b : Nat) : ∀ (vs : List Value) (o : Nat) (w : World), (w.setCells b o vs).heap.size = w.heap.size
  | [], _, _ => rfl
  | v :: r, o, w => by rw [World.setCells, size_setCells b r, World.size_setCell]
theorem below_setCells (b B : Nat) (hB : B ≤ b) : ∀ (vs : List Value) (o : Nat) (w0 w : World), Below B w0 w → Below B w0 (w.setCells b o vs)
  | [], _, _, _, h => h
  | v :: r, o, w0, w, h => by rw [World.setCells]; exact below_setCells b B hB r (o + 1) w0 _ (h.setCell hB _)

/-- n bytes as values. -/
def valN (n : Nat) (x : Nat → Nat) : List Value := (List.range n).map fun i => .int .u8 (x i : Nat)
theorem valN_len (n : Nat) (x : Nat → Nat) : (valN n x).length = n := by simp [valN]
theorem valN_get (n : Nat) (x : Nat → Nat) (i : Nat) (h : i < n) : (valN n x)[i]? = some (.int .u8 (x i : Nat)) := by simp [valN, h]

theorem NewRow.copied {w0 w : World} {n : Nat} {x : Nat → Nat} (h : NewRow w0 w n x) (m : Nat) (y : Nat → Nat) (hm : m ≤ n) :
    NewRow w0 (w.setCells w0.heap.size 0 (valN m y)) n (fun i => if i < m then y i else x i) where
  size := by rw [size_setCells, h.size]
  below := below_setCells _ _ (Nat.le_refl _) _ _ _ _ h.below
  cells := fun i hi => by
    by_cases e : i < m
    · have hin := World.cell?_setCells_in w0.heap.size (valN m y) 0 w (fun j hj => by
        rw [valN_len] at hj
        rw [Nat.zero_add, h.cells j (by omega)]; rfl) i (by rw [valN_len]; exact e)
      rw [Nat.zero_add] at hin
      rw [hin, if_pos e]
      have g := valN_get m y i e
      rw [List.getElem?_eq_getElem (by rw [valN_len]; exact e)] at g
      exact g
    · rw [World.cell?_setCells_out _ _ _ _ _ (fun _ _ => by rw [valN_len]; right; simp; omega), if_neg e, h.cells i hi]
  free := fun i => by rw [World.frozen?_setCells]; exact h.free i

theorem run_copy_u8 (w : World) (b o n c g dl dc : Nat) (x y : Nat → Nat) (w0 : World) (hg : g = w0.heap.size) (h : NewRow w0 w dl y) (hx : RowAt w b o n x) (hn : n ≤ dl) (ty : TypeId) :
    (Builtin.copy_ #[22, 22] ty #[.slice (some ⟨g, 0, none⟩) dl dc, .slice (some ⟨b, o, none⟩) n c]).run Try.prog w = .ok (goInt n) (w.setCells g 0 (valN n x)) := by
  subst hg
  have := run_copy_cells (P := Try.prog) w 22 22 ty 5 w0.heap.size 0 dl dc ⟨b, o, none⟩ n c (valN n x) Try.underlying22 (by kernel_rfl) (by rw [valN_len]; exact (Nat.min_eq_left hn).symm)
    (fun j v hj => by
      have hjn : j < n := by
        rcases Nat.lt_or_ge j n with q | q
        · exact q
        · rw [List.getElem?_eq_none (by rw [valN_len]; exact q)] at hj; cases hj
      rw [valN_get n x j hjn] at hj
      cases hj
      have hadd : (⟨b, o, none⟩ : Addr).add j = ⟨b, o + j, none⟩ := by unfold Addr.add; split <;> simp_all
      rw [hadd]; exact hx j hjn)
    (fun j hj => by rw [valN_len] at hj; rw [Nat.zero_add, h.cells j (by omega)]; rfl)
    (fun j _ => by rw [Nat.zero_add]; exact h.free j)
    (fun v hv => by unfold valN at hv; obtain ⟨i, _, rfl⟩ := List.mem_map.1 hv; rfl)
  rw [valN_len] at this
  exact this

/-- What a lent list reads as, its spare room with it. -/
def lentN (n : Nat) (x : Nat → Nat) (i : Nat) : Nat := if i < n then x i else 160 + i % 90

theorem byte_mark (k : Nat) : ((160 + k % 90 : Nat) : Int) = 160 + (k : Int) % 90 := by omega

set_option maxRecDepth 100000 in
set_option maxHeartbeats 1000000 in
theorem lent_core (p : Option Addr) (n c : Nat) (x : Nat → Nat) (w w1 : World) (hn : n ≤ 70000)
    (hcp : ∀ ty, (Builtin.copy_ #[22, 22] ty #[.slice (some ⟨w.heap.size, 0, none⟩) (n + 3) (n + 3), .slice p n c]).run Try.prog (w.alloc (.cells (madeCells #[.int .u8 0] (n + 3)) 5)) = .ok (goInt n) w1)
    (hrow : NewRow w w1 (n + 3) (fun i => if i < n then x i else 0)) :
    Calls Try.prog 9 #[.slice p n c] w fun e w' => e = .returned (.slice (some ⟨w.heap.size, 0, none⟩) n (n + 3)) ∧ NewRow w w' (n + 3) (lentN n x) := by
  have hmk := run_make_u8 (n + 3) (by omega) w
  rw [show ((n + 3 : Nat) : Int) = (n : Int) + 3 from by omega] at hmk
  have HR := hid hrow
  clear hrow
  go_enter Try.func9, Try.ntmps9
  go_wp2
  clear hmk hcp
  go_loopw [4] (fun i wr => ∃ k : Nat, n ≤ k ∧ k ≤ n + 3 ∧ i = .int .i64 k ∧ NewRow w wr (n + 3) (fun i => if i < k then lentN n x i else 0)) (fun i _ => (n + 3 - intOf i).toNat)
  case atStart => exact ⟨n, by omega, by omega, rfl, HR.out.congr (fun i _ => by by_cases e : i < n <;> simp [lentN, e])⟩
  case round =>
    obtain ⟨k, hk1, hk2, rfl, hrow⟩ := hrel
    clear HR
    by_cases hlt : k < n + 3
    · have c3 : wr.cell? ⟨w.heap.size, k, none⟩ = some (.int .u8 0) := by rw [hrow.cells k hlt]; simp
      have c4 := hrow.free k
      have HR := hid (hrow.set k (lentN n x k) hlt)
      have HL : Hid (lentN n x k = 160 + k % 90) := if_neg (by omega)
      clear hrow
      go_wp2
      go_roundw
      case rel =>
        refine ⟨k + 1, by omega, by omega, by go_num, ?_⟩
        rw [HL.out] at HR
        have := HR.out.congr (y := fun i => if i < k + 1 then lentN n x i else 0) (fun i _ => by rw [← HL.out]; exact upto_step _ k i)
        rw [byte_mark] at this
        exact this
      case measure => simp [intOf]; omega
    · have e : k = n + 3 := by omega
      have E := hid (hrow.congr (y := lentN n x) (fun i hi => by rw [if_pos (by omega)]))
      clear e hrow
      go_wp2
      go_ret
      exact ⟨rfl, E.out⟩

theorem lent_any (p : Option Addr) (n c : Nat) (x : Nat → Nat) (w : World) (hn : n ≤ 70000) (hx : StrAt w p n x) :
    Calls Try.prog 9 #[.slice p n c] w fun e w' => e = .returned (.slice (some ⟨w.heap.size, 0, none⟩) n (n + 3)) ∧ NewRow w w' (n + 3) (lentN n x) := by
  have hrow := NewRow.made w (n + 3)
  by_cases h0 : n = 0
  · subst h0
    refine lent_core p 0 c x w _ hn (fun ty => ?_) (hrow.congr (fun i _ => by simp))
    exact run_copy_none (P := Try.prog) _ 22 22 ty 5 _ _ _ _ _ _ Try.underlying22 (by kernel_rfl) (by simp)
  · rcases hx with e | ⟨b, o, rfl, hx⟩
    · exact absurd e h0
    · have hb : b < w.heap.size := World.block_lt_of_cell? w _ (hx 0 (by omega))
      have hx1 : RowAt (w.alloc (.cells (madeCells #[.int .u8 0] (n + 3)) 5)) b o n x := fun i hi => by rw [World.cell?_alloc_lt _ _ _ hb]; exact hx i hi
      exact lent_core _ n c x w _ hn (fun ty => run_copy_u8 _ b o n c w.heap.size (n + 3) (n + 3) x (fun _ => 0) w rfl hrow hx1 (by omega) ty) (hrow.copied n x (by omega))
end Go.Proofs.Ytapgdenodhcliaa
