/- The walk of StripeTurned: a shard of which one byte is turned does not go together with the others. No conditions. -/
import Derived.Test.YtapgdenodhcliaaSm
namespace Go.Proofs.Ytapgdenodhcliaa
open Go.RowKit

theorem lgt_pos (n k : Nat) (h : 1 ≤ n) (hk : 1 ≤ k) : 1 ≤ lgt n k := by
  have := lgt_room n k hk
  rcases Nat.eq_zero_or_pos (lgt n k) with q | q
  · rw [q] at this; omega
  · exact q
set_option maxRecDepth 100000 in
set_option maxHeartbeats 1000000 in
theorem turned_out (a : Option Addr) (n c : Nat) (k m wh pl tu : Int) (w : World) (h : 1000 < n ∨ n = 0 ∨ tu = 0) :
    Calls Try.prog 8 #[.slice a n c, .int .i64 k, .int .i64 m, .int .i64 wh, .int .i64 pl, .int .u8 tu] w fun e w' => e = .returned (.bool true) ∧ Below w.heap.size w w' := by
  by_cases h1 : 1000 < n
  · clear h
    go_enter Try.func8, Try.ntmps8
    go_wp2_with fail
    refine (known_any w).mono ?_
    rintro e w1 ⟨rfl, hb1⟩
    have B1 := hid hb1
    clear hb1
    go_wp2
    go_ret
    exact ⟨rfl, B1.out⟩
  by_cases h2 : n = 0
  · subst h2
    clear h
    go_enter Try.func8, Try.ntmps8
    go_wp2_with fail
    refine (known_any w).mono ?_
    rintro e w1 ⟨rfl, hb1⟩
    have B1 := hid hb1
    clear hb1
    go_wp2
    go_ret
    exact ⟨rfl, B1.out⟩
  · obtain rfl : tu = 0 := by omega
    have h2' : ((n : Int) == 0) = false := by simp; omega
    clear h h2
    go_enter Try.func8, Try.ntmps8
    go_wp2_with fail
    refine (known_any w).mono ?_
    rintro e w1 ⟨rfl, hb1⟩
    have B1 := hid hb1
    clear hb1
    go_wp2
    go_ret
    exact ⟨rfl, B1.out⟩
set_option maxRecDepth 100000 in
set_option maxHeartbeats 1000000 in
theorem turned_err (a : Option Addr) (n c : Nat) (k m wh pl tu : Int) (w : World) (hn : n ≤ 1000) (hn0 : n ≠ 0) (htu : tu ≠ 0) (hk : -9223372036854775808 ≤ k) (hk' : k ≤ 9223372036854775807) (hm : -9223372036854775808 ≤ m) (hm' : m ≤ 9223372036854775807) (h : k < 1 ∨ m < 1 ∨ 16 < k + m) :
    Calls Try.prog 8 #[.slice a n c, .int .i64 k, .int .i64 m, .int .i64 wh, .int .i64 pl, .int .u8 tu] w fun e w' => e = .returned (.bool true) ∧ Below w.heap.size w w' := by
  have h2' : ((n : Int) == 0) = false := by simp; omega
  have h3' : (tu == 0) = false := by simpa using htu
  clear hn0 htu
  go_enter Try.func8, Try.ntmps8
  go_wp2_with fail
  refine (known_any w).mono ?_
  rintro e w1 ⟨rfl, hb1⟩
  have B1 := hid hb1
  clear hb1
  go_wp2_with fail
  refine (split_err a n c k m w1 hk hk' hm hm' h).mono ?_
  rintro e w' ⟨rfl, hw⟩
  have hw2 := hw.symm
  subst hw2
  clear hw h
  go_wp2
  go_ret
  exact ⟨rfl, B1.out⟩
set_option maxRecDepth 100000 in
set_option maxHeartbeats 4000000 in
theorem turned_ok (a : Option Addr) (n c k m : Nat) (wh pl : Int) (t : K) (x : Nat → K) (w : World) (hn : n ≤ 1000) (hn0 : n ≠ 0) (ht : t ≠ 0) (hc : n ≤ c) (h0 : 1 ≤ k) (h1 : 1 ≤ m) (h : k + m ≤ 16) (hx : StrAt w a n fun j => (x j).val) :
    Calls Try.prog 8 #[.slice a n c, .int .i64 k, .int .i64 m, .int .i64 wh, .int .i64 pl, .int .u8 ((t.val : Nat) : Int)] w fun e w' => e = .returned (.bool true) ∧ Below w.heap.size w w' := by
  have h2' : ((n : Int) == 0) = false := by simp; omega
  have h3' : ((((t.val : Nat) : Int)) == 0) = false := by have := K.val_ne ht; simp; omega
  have hlp := lgt_pos n k (by omega) h0
  have hll := lgt_le n k (by omega) h0
  have HT := hid ht
  have HX := hid hx
  clear hx hn0 ht
  go_enter Try.func8, Try.ntmps8
  go_wp2_with fail
  refine (known_any w).mono ?_
  rintro e w1 ⟨rfl, hb1⟩
  have B1 := hid hb1
  have X1 := hid (HX.out.keep (Stays.of_below hb1))
  clear hb1 HX
  go_wp2_with fail
  refine (split_ok a n c k m x w1 h0 h1 h (by omega) hc X1.out).mono ?_
  rintro e w2 ⟨g2, c2, G2, rfl, hm2, hb2⟩
  have B2 := hid (B1.out.then hb2)
  have M2 := hid hm2
  have c0 := hm2.topCell 0 (by omega)
  have hc2 := own_le hm2.top
  have hs1 := B1.out.size
  clear hb2 hm2 X1 B1
  have HC : Hid (((k : Int) + (m : Int)) = ((k + m : Nat) : Int)) := by show ((k : Int) + (m : Int)) = ((k + m : Nat) : Int); omega
  have h4' : (((lgt n k : Nat) : Int) == 0) = false := by simp; omega
  have h5' : (((k : Int) + (m : Int)) != ((k : Int) + (m : Int))) = false := by simp
  go_wp2_with fail
  rw [HC.out]
  refine (kitPick2_any wh (k + m) w2 (by omega) (by omega)).mono ?_
  rintro e w' ⟨⟨r, hr, rfl⟩, hw⟩
  have hw2 := hw.symm
  subst hw2
  clear hw c0
  have c1 := M2.out.topCell r hr
  go_wp2_with fail
  refine (kitPick2_any pl (lgt n k) w2 (by omega) (by omega)).mono ?_
  rintro e w' ⟨⟨z, hz, rfl⟩, hw⟩
  have hw2 := hw.symm
  subst hw2
  clear hw c1
  have c2' := M2.out.cell r z hr hz
  have c3 := M2.out.free r z hr
  have hxr := xor_k (ash k (lgt n k) n x r z) t
  have hge := (M2.out.ge r hr).1
  have M3 := hid (M2.out.set r z (ash k (lgt n k) n x r z + t) hr)
  have B3 := hid (B2.out.setCell (p := ⟨G2 r, z, none⟩) (by show w.heap.size ≤ G2 r; omega) (.int .u8 (((ash k (lgt n k) n x r z + t).val : Nat) : Int)))
  have E : Hid (errMt (k + m) (k + m) (k + m) (fun _ => true) (fun _ => lgt n k) (-1) = 0) := errMt_ok hll (.inl rfl) (fun _ _ _ => rfl)
  have V : Hid (sndV k m (k + m) (fun _ => lgt n k) (up2 (ash k (lgt n k) n x) r z (ash k (lgt n k) n x r z + t)) = false) := by
    show sndV k m (k + m) (fun _ => lgt n k) (up2 (ash k (lgt n k) n x) r z (ash k (lgt n k) n x r z + t)) = false
    unfold sndV
    rw [if_pos E.out]
    have h6 := (errMt_zero E.out).2.2.2 0 (by omega) rfl
    refine sndB_false (snd_turn k m _ (dsh (lgt n k) n x) _ r z t h1 (by omega) hr (by omega) HT.out (fun i _ => ?_))
    show (if i = r ∧ z = z then _ else _) = _
    by_cases e : i = r
    · subst e; rw [if_pos ⟨rfl, rfl⟩, if_pos rfl]; rfl
    · rw [if_neg (fun q => e q.1), if_neg e]; rfl
  clear M2 B2 hge
  go_wp2_with fail
  refine (sound_any _ (k + m) _ k m _ (fun _ => lgt n k) _ _ _ (by exact M3.out.toMat) (by omega) hc2 h0 h1 h).mono ?_
  rintro e w4 ⟨rfl, hb4⟩
  rw [V.out, E.out]
  have B4 := hid (B3.out.trans (hb4.mono (by have h9 := B3.out.size; simpa using h9)))
  clear hb4 M3 B3
  go_wp2
  go_ret
  exact ⟨rfl, B4.out⟩
theorem turned_all (a : Option Addr) (n c : Nat) (k m wh pl tu : Int) (w : World) (h0 : IsBytes w a n c) (hk : (Lit.int .i64 k).wf = true) (hm : (Lit.int .i64 m).wf = true) (ht : (Lit.int .u8 tu).wf = true) :
    Calls Try.prog 8 #[.slice a n c, .int .i64 k, .int .i64 m, .int .i64 wh, .int .i64 pl, .int .u8 tu] w fun e w' => e = .returned (.bool true) ∧ Below w.heap.size w w' := by
  obtain ⟨b1, b2⟩ := bounds_i64 hk
  obtain ⟨b3, b4⟩ := bounds_i64 hm
  obtain ⟨b5, b6⟩ := bounds_u8 ht
  by_cases hl : 1000 < n ∨ n = 0 ∨ tu = 0
  · exact turned_out a n c k m wh pl tu w hl
  · by_cases h : k < 1 ∨ m < 1 ∨ 16 < k + m
    · exact turned_err a n c k m wh pl tu w (by omega) (by omega) (by omega) b1 b2 b3 b4 h
    · obtain ⟨K1, rfl⟩ : ∃ K1 : Nat, k = K1 := ⟨k.toNat, by omega⟩
      obtain ⟨M1, rfl⟩ : ∃ M1 : Nat, m = M1 := ⟨m.toNat, by omega⟩
      obtain ⟨hc, x, hx⟩ := h0
      have et : tu = (((kb tu.toNat).val : Nat) : Int) := by rw [kb_val _ (by omega)]; omega
      have hne : kb tu.toNat ≠ 0 := fun e => by
        have := congrArg K.val e
        rw [kb_val _ (by omega)] at this
        have h2 : tu.toNat = 0 := this
        omega
      rw [et]
      exact turned_ok a n c K1 M1 wh pl (kb tu.toNat) x w (by omega) (by omega) hne hc (by omega) (by omega) (by omega) hx
end Go.Proofs.Ytapgdenodhcliaa
