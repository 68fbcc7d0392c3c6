/- The walk of DriveNone. -/
import Derived.Test.YtfppmpfmafnfmaaDu
namespace Go.Proofs.Ytfppmpfmafnfmaa
open Go Go.RowKit

structure NI (w wr : World) : Prop where
  g : CAt wr (w.heap.size + 1) #[.pointer none, ptr w.heap.size] 23
  z : wr.cell? ⟨w.heap.size, 0, none⟩ = some (.pointer none)
  be : Below w.heap.size w wr
theorem NI.on {w wr w2 : World} (h : NI w wr) (hb : Below wr.heap.size wr w2) : NI w w2 :=
  ⟨h.g.below hb, (World.cell?_of_block (hb.block _ (cell_lt' (a := ⟨w.heap.size, 0, none⟩) (by rw [h.z]; simp)))).trans h.z, below_on _ _ h.be hb⟩
set_option maxHeartbeats 2000000 in
set_option maxRecDepth 100000 in
theorem driveNone_walk (s : Nm) (po : Option Addr) (n c : Nat) (w : World) : Calls Try.prog 5 #[sv s, .slice po n c] w fun e w' => e = .returned (.bool true) ∧ Below w.heap.size w w' := by
  have H0 : Hid (∀ o : Array Value, o[0]? = some (.pointer none) → NI w ((w.alloc (.cells o 51)).alloc (.cells #[.pointer none, ptr w.heap.size] 23))) := hid (fun o ho => ⟨by
      have := CAt.made (w.alloc (.cells o 51)) #[.pointer none, ptr w.heap.size] 23
      rw [size_al] at this; exact this, by
      have := ((CAt.made w o 51).old (.cells #[.pointer none, ptr w.heap.size] 23)).cell 0
      rw [this]; exact ho, ((Below.refl _ _).alloc (Nat.le_refl _) _).alloc (by simp only [size_al]; omega) _⟩)
  go_enter Try.func5, Try.ntmps5
  go_wp2
  go_loopw [6] (fun v wr => ∃ k : Nat, k ≤ 2 ∧ v = .int .i64 (k : Int) ∧ NI w wr) (fun v _ => (2 - intOf v).toNat)
  case atStart => exact ⟨0, by omega, rfl, H0.out _ rfl⟩
  case round =>
    obtain ⟨k, hk, rfl, hI⟩ := hrel
    have HI := hid hI
    clear hI H0
    by_cases hlt : k < 2
    · have hlt' : (k : Int) < 2 := by omega
      have hget : ∃ a, wr.cell? ⟨w.heap.size + 1, k, none⟩ = some (.pointer a) ∧ Bare wr (.pointer a) := by
        rw [HI.out.g.cell]
        have : k = 0 ∨ k = 1 := by omega
        rcases this with rfl | rfl
        · exact ⟨none, rfl, .nil⟩
        · exact ⟨_, rfl, .zero _ HI.out.z⟩
      obtain ⟨a, ca, hb⟩ := hget
      have HB := hid hb
      clear hb
      go_wp2_with (first
        | (go_at_call 21; refine (read_none HB.out _).mono ?_; rintro e w' ⟨rfl, hb⟩; have HI := hid (HI.out.on hb); have HB := hid (HB.out.below hb); clear hb)
        | (go_at_call 22; refine (list_none HB.out _).mono ?_; rintro e w' ⟨rfl, hb⟩; have HI := hid (HI.out.on hb); have HB := hid (HB.out.below hb); clear hb)
        | (go_at_call 23; refine (write_none HB.out _ _ _ _).mono ?_; rintro e w' ⟨rfl, hb⟩; have HI := hid (HI.out.on hb); have HB := hid (HB.out.below hb); clear hb)
        | (go_at_call 24; refine (sync_none HB.out _).mono ?_; rintro e w' ⟨rfl, hb⟩; have HI := hid (HI.out.on hb); have HB := hid (HB.out.below hb); clear hb)
        | (go_at_call 25; refine (rename_none HB.out _ _).mono ?_; rintro e w' ⟨rfl, hb⟩; have HI := hid (HI.out.on hb); have HB := hid (HB.out.below hb); clear hb)
        | (go_at_call 26; refine (delete_none HB.out _).mono ?_; rintro e w' ⟨rfl, hb⟩; have HI := hid (HI.out.on hb); have HB := hid (HB.out.below hb); clear hb)
        | (go_at_call 27; refine (offline_none HB.out _).mono ?_; rintro e w' ⟨rfl, hw'⟩; have hw2 := hw'.symm; subst hw2)
        | (go_at_call 28; refine (full_none HB.out _).mono ?_; rintro e w' ⟨rfl, hw'⟩; have hw2 := hw'.symm; subst hw2)
        | (go_at_call 29; refine (turn_none HB.out _ _ _).mono ?_; rintro e w' ⟨rfl, hw'⟩; have hw2 := hw'.symm; subst hw2)
        | (go_at_call 30; refine (crash_none HB.out ).mono ?_; rintro e w' ⟨rfl, hw'⟩; have hw2 := hw'.symm; subst hw2)
        | (go_at_call 31; refine (used_none HB.out ).mono ?_; rintro e w' ⟨rfl, hw'⟩; have hw2 := hw'.symm; subst hw2)
        | (go_at_call 32; refine (loose_none HB.out ).mono ?_; rintro e w' ⟨rfl, hw'⟩; have hw2 := hw'.symm; subst hw2)
        | (go_at_call 33; refine (ops_none HB.out ).mono ?_; rintro e w' ⟨rfl, hw'⟩; have hw2 := hw'.symm; subst hw2)
        | (go_at_call 34; refine (up_none HB.out ).mono ?_; rintro e w' ⟨rfl, hw'⟩; have hw2 := hw'.symm; subst hw2)
        | (go_at_call 12; refine (clone_none HB.out ).mono ?_; rintro e w' ⟨rfl, hw'⟩; have hw2 := hw'.symm; subst hw2)
        | (go_at_call 14; refine (fuse_none (HB.out.below ((Below.refl _ _).alloc (Nat.le_refl _) _)) _ (CAt.made _ _ _) _).mono ?_; rintro e w' ⟨rfl, hw'⟩; have hw2 := hw'.symm; subst hw2; have HI := hid (HI.out.on ((Below.refl _ _).alloc (Nat.le_refl _) (.cells #[.pointer a] 23)))))
      go_roundw
      case rel => exact ⟨k + 1, by omega, by go_num, HI.out⟩
      case measure => simp [intOf]; omega
    · have hlt' : ¬ (k : Int) < 2 := by omega
      have HA := hid (awake_any wr)
      go_wp2_with (go_at_call 20; refine HA.out.mono ?_; rintro e w1 ⟨rfl, hb⟩; have HI := hid (HI.out.on hb); clear hb)
      go_ret
      exact ⟨rfl, HI.out.be⟩
#print axioms driveNone_walk
end Go.Proofs.Ytfppmpfmafnfmaa
