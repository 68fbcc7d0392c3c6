/- Texts laid into one: the remark ahead of each part says what is proved there. -/
import Derived.Test.YtklchjfkkbpipaaGreatDoorPaa
import Derived.Test.YtklchjfkkbpipaaGreatDoorPab
import Derived.Test.YtklchjfkkbpipaaGreatDoorPac
import Derived.Test.YtklchjfkkbpipaaGreatDoorPad
import Derived.Test.YtklchjfkkbpipaaGreatDoorPae
import Derived.Test.YtklchjfkkbpipaaGreatDoorPaf
import Derived.Test.YtklchjfkkbpipaaGreatDoorPag
import Derived.Test.YtklchjfkkbpipaaGreatDoorPah
import Derived.Test.YtklchjfkkbpipaaGreatDoorPai
import Derived.Test.YtklchjfkkbpipaaGreatDoorPaj
import Derived.Test.YtklchjfkkbpipaaGreatDoorPak
import Derived.Test.YtklchjfkkbpipaaGreatDoorPal
import Derived.Test.YtklchjfkkbpipaaGreatDoorPam
import Derived.Test.YtklchjfkkbpipaaGreatDoorPan
import Derived.Test.YtklchjfkkbpipaaGreatDoorPao
import Derived.Test.YtklchjfkkbpipaaGreatDoorUaa
/- Finish. -/
namespace Go.Proofs.YtklchjfkkbpipaaGreatDoor
open Go Go.RowKit Go.Shelf

/-- Staged files of a drive get their names, up to the first that answers an error other than that it is missing. -/
def finL : List Nm → Pd → Fs → Nat × Pd × Fs
  | [], d, f => (0, d, f)
  | s :: r, d, f => if (d.rename f (tmpN s) s).1 = 0 ∨ (d.rename f (tmpN s) s).1 = 6 then finL r (d.rename f (tmpN s) s).2.1 (d.rename f (tmpN s) s).2.2 else d.rename f (tmpN s) s
def finR (ns : List Nm) (d : Pd) (f : Fs) : Nat × Pd × Fs := if ckN ns ≠ 0 then (ckN ns, d, f) else finL ns d f
theorem finL_go {s : Nm} {r : List Nm} {d : Pd} {f : Fs} (h : (d.rename f (tmpN s) s).1 = 0 ∨ (d.rename f (tmpN s) s).1 = 6) : finL (s :: r) d f = finL r (d.rename f (tmpN s) s).2.1 (d.rename f (tmpN s) s).2.2 := by rw [finL, if_pos h]
theorem finL_stop {s : Nm} {r : List Nm} {d : Pd} {f : Fs} (h : ¬ ((d.rename f (tmpN s) s).1 = 0 ∨ (d.rename f (tmpN s) s).1 = 6)) : finL (s :: r) d f = d.rename f (tmpN s) s := by rw [finL, if_neg h]
theorem none_one {W : World} {S : Nat → Prop} {p m : Nat} {fu : Option Nat} {d : Pd} {L : List (Nm × Ent)} (hd : DrC W S p m fu d L) (b : Nat) (hc : CAt W b #[ptr p] 38) : Calls Tryz.prog 87 #[.slice (some ⟨b, 0, none⟩) 1 1] W fun e w' => e = .returned (.bool false) ∧ w' = W := by
  have HF : Hid (Calls Tryz.prog 30 #[.slice (some ⟨b, 0, none⟩) 1 1, .int .i64 (-1)] W fun e w' => e = .returned (.int .i64 2) ∧ w' = W) := by
    have HM := hid (made_any hd)
    have c0 : W.cell? ⟨b, 0, none⟩ = some (ptr p) := hc.cell 0
    clear hd hc
    show Calls _ _ _ _ _
    go_enter Tryz.func30, Tryz.ntmps30
    go_wp2
    refine wp_loop_rounds 2 ?_
    rw [rounds_succ]
    go_wp2_with (go_at_call 93; refine HM.out.mono ?_; rintro e w' ⟨rfl, hw'⟩; have hw2 := hw'.symm; subst hw2)
    rw [rounds_succ]
    go_wp2
    go_ret
    exact ⟨rfl, by first | rfl | trivial⟩
  clear hd hc
  go_enter Tryz.func87, Tryz.ntmps87
  go_wp2_with (go_at_call 30; refine HF.out.mono ?_; rintro e w' ⟨rfl, hw'⟩; have hw2 := hw'.symm; subst hw2)
  go_ret
  exact ⟨rfl, by first | rfl | trivial⟩
/-- What Finish leaves. -/
def FnAt (w w1 : World) (T : Nat → Prop) (k : Nat) (p : Nat → Nat) (er : Nat) (d : Nat → Pd) (f : Fs) (e : Ending) (w' : World) : Prop :=
  e = .returned (.int .i64 (er : Int)) ∧ (∃ T', Grows w1 T T' ∧ FA w w' T' k p d f 0) ∧ Only T w1 w'
structure FNI (w w1 W0 : World) (T : Nat → Prop) (k : Nat) (p : Nat → Nat) (i : Nat) (X0 : FS) (ns : List Nm) (v : Value) (R : Nat × Pd × Fs) (j : Nat) (W : World) : Prop where
  ex : ∃ dj fj, R = finL (ns.drop j) dj fj ∧ FI w W0 T (fun _ => False) k p (upd X0.d i dj) fj W ∧ Bnd (1000000000 + j) (1000000000 + j) dj
  tx : TxtAt W v ns
set_option maxHeartbeats 2000000 in
set_option maxRecDepth 100000 in
theorem ffinish_any {w w1 : World} {T : Nat → Prop} {k : Nat} {p : Nat → Nat} {X0 : FS} (h : FA w w1 T k p X0.d X0.f 0) {i : Nat} (hi : i < k) (hB : Bnd 1000000000 1000000000 (X0.d i)) (po : Option Addr) (c : Nat) (ns : List Nm) (hv : TxtAt w1 (.slice po ns.length c) ns) (hT : ∀ b, (Value.slice po ns.length c).ownBlock = some b → ¬ T b) (hls : ∀ x ∈ ns, x.length ≤ maxLen) (hn : ns.length ≤ 1000000) :
    Calls Tryz.prog 19 #[ptr (p i), .slice po ns.length c] w1 (FnAt w w1 T k p (finR ns (X0.d i) X0.f).1 (upd X0.d i (finR ns (X0.d i) X0.f).2.1) (finR ns (X0.d i) X0.f).2.2) := by
  have hb0 : Below w1.heap.size w1 (w1.alloc (.cells #[ptr (p i)] 38)) := (Below.refl _ _).alloc (Nat.le_refl _) _
  have hA0 := h.below hb0
  have hv0 := hv.below hb0
  have HNO := hid (hA0.look hi fun fu S m L hd _ => none_one hd w1.heap.size (CAt.made w1 _ _))
  have HCK := hid (checkNames_any po c ns _ hv0 hls hn)
  have hupd : upd X0.d i (X0.d i) = X0.d := by funext j; unfold upd; split <;> simp_all
  have hwW : w.heap.size ≤ (w1.alloc (.cells #[ptr (p i)] 38)).heap.size := Nat.le_trans h.be.size hb0.size
  have HB0 := hid hb0
  have hTl := h.lt
  have FINA : Hid (∀ W r, FI w (w1.alloc (.cells #[ptr (p i)] 38)) T (fun _ => False) k p (upd X0.d i r.2.1) r.2.2 W → finR ns (X0.d i) X0.f = r → FnAt w w1 T k p (finR ns (X0.d i) X0.f).1 (upd X0.d i (finR ns (X0.d i) X0.f).2.1) (finR ns (X0.d i) X0.f).2.2 (.returned (.int .i64 (r.1 : Int))) W) := fun W r hf e => by
    rw [e]
    obtain ⟨T', hg, hfa⟩ := hf.ex
    have z := HB0.out.size
    exact ⟨rfl, ⟨T', ⟨hg.1, fun b hb => (hg.2 b hb).imp id (fun h => by omega)⟩, hfa⟩, (Only.of_below HB0.out).then hf.on (fun b _ hx => hx.elim id (fun hx => hx.elim))⟩
  by_cases hck : ckN ns = 0
  · have hR : finR ns (X0.d i) X0.f = finL ns (X0.d i) X0.f := by unfold finR; rw [if_neg (by omega)]
    have hls8 : ∀ x ∈ ns, x.length ≤ 1000 := fun x hx => by
      unfold ckN at hck
      split at hck
      · cases hck
      · split at hck
        · rename_i ha; exact Nat.le_trans (ok_len (List.all_eq_true.1 ha x hx)) (by omega)
        · cases hck
    obtain ⟨R, hRR⟩ : ∃ R, R = finL ns (X0.d i) X0.f := ⟨_, rfl⟩
    have I0 : Hid (FNI w w1 (w1.alloc (.cells #[ptr (p i)] 38)) T k p i X0 ns (.slice po ns.length c) R 0 (w1.alloc (.cells #[ptr (p i)] 38))) := ⟨⟨X0.d i, X0.f, by rw [List.drop_zero]; exact hRR, by rw [hupd]; exact FI.start hA0, hB⟩, hv0⟩
    have HRR := hid (hR.trans hRR.symm)
    rw [hck] at HCK
    have H8 := hid hls8
    have HV0 := hid hv0
    have HN := hid hn
    have HT := hid hT
    have HTL := hid hTl
    clear h hv hA0 hv0 hupd hR hRR hls hB hls8 hn hT hTl
    go_enter Tryz.func19, Tryz.ntmps19
    go_upto_region 6 with (first
      | (go_at_call 87; refine HNO.out.mono ?_; rintro e w' ⟨rfl, hw'⟩; have hw2 := hw'.symm; subst hw2)
      | (go_at_call 80; refine HCK.out.mono ?_; rintro e w' ⟨rfl, hw'⟩; have hw2 := hw'.symm; subst hw2))
    generalize w1.alloc (.cells #[ptr (p i)] 38) = W0 at *
    go_wp2
    go_loopw [19] (fun x wr => ∃ j : Nat, j ≤ ns.length ∧ x = .int .i64 (j : Int) ∧ FNI w w1 W0 T k p i X0 ns (.slice po ns.length c) R j wr) (fun x _ => (ns.length - intOf x).toNat)
    case atStart => exact ⟨0, Nat.zero_le _, rfl, I0.out⟩
    case round =>
      clear I0 HNO HCK
      obtain ⟨j, hj, rfl, hI⟩ := hrel
      have HI := hid hI
      clear hI
      by_cases hlt : j < ns.length
      · have hlt' : (j : Int) < (ns.length : Int) := by omega
        obtain ⟨dj, fj, hRj, hFj, hBj⟩ := HI.out.ex
        rcases HI.out.tx with ⟨e, _⟩ | ⟨b, c', e, hcell⟩
        · rw [e] at hlt; simp at hlt
        cases e
        have cj := hcell j hlt
        have HCL := hid hcell
        have HBL : Hid (b < W0.heap.size) := hid (HV0.out.elim (fun h => absurd hlt (by rw [h.1]; simp)) (fun ⟨b', c', e, h3⟩ => by cases e; exact cell_lt2 (h3 j hlt)))
        have hj2 : (j : Int) < 1000000 := by have := HN.out; omega
        have hdrop : ns.drop j = ns.getD j [] :: ns.drop (j + 1) := by rw [getD_in _ _ _ hlt]; exact List.drop_eq_getElem_cons hlt
        have hmem : ns.getD j [] ∈ ns := by rw [getD_in _ _ _ hlt]; exact List.getElem_mem _
        rw [hdrop] at hRj
        have HST := hid (hFj.step (i := i) hi (g := 78) (args := #[ptr (p i), sv (ns.getD j [])]) (r := dj.rename fj (tmpN (ns.getD j [])) (ns.getD j [])) (fun fu S m L hd hf => by
          rw [upd_same] at hd
          have := HN.out
          exact finish_any hd hf _ (H8.out _ hmem) (by have := hBj.2; omega) (by have := hBj.1; omega)) (rename_sm _ _ _ _))
        have hBn : Bnd (1000000000 + (j + 1)) (1000000000 + (j + 1)) (dj.rename fj (tmpN (ns.getD j [])) (ns.getD j [])).2.1 := (bnd_rename hBj fj _ _).mono (by omega) (by omega)
        have hgo := fun hh => hRj.trans (finL_go (r := ns.drop (j + 1)) (s := ns.getD j []) (d := dj) (f := fj) hh)
        have hst := fun hh => hRj.trans (finL_stop (r := ns.drop (j + 1)) (s := ns.getD j []) (d := dj) (f := fj) hh)
        have hcd := rename_cd dj fj (tmpN (ns.getD j [])) (ns.getD j [])
        generalize dj.rename fj (tmpN (ns.getD j [])) (ns.getD j []) = r at *
        have NXT : Hid (∀ W', FIs w W0 T (fun _ => False) k p (upd (upd X0.d i dj) i r.2.1) r.2.2 wr W' → FI w W0 T (fun _ => False) k p (upd X0.d i r.2.1) r.2.2 W' ∧ TxtAt W' (.slice (some ⟨b, 0, none⟩) ns.length c) ns) := fun W' ⟨hf, hk, _⟩ => by
          refine ⟨by rw [upd_upd] at hf; exact hf, .inr ⟨b, c, rfl, fun x hx => ?_⟩⟩
          have hbl : b < W0.heap.size := HBL.out
          exact (World.cell?_of_block (a := ⟨b, x, none⟩) (hk b hbl (HT.out b rfl))).trans (HCL.out x hx)
        clear hcell hFj hRj
        have HIN : Hid (∀ W', FIs w W0 T (fun _ => False) k p (upd (upd X0.d i dj) i r.2.1) r.2.2 wr W' → (r.1 = 0 ∨ r.1 = 6) → FNI w w1 W0 T k p i X0 ns (.slice (some ⟨b, 0, none⟩) ns.length c) R (j + 1) W') := fun W' hs hh => by
          obtain ⟨h1, h2⟩ := NXT.out W' hs
          exact ⟨⟨r.2.1, r.2.2, hgo hh, h1, hBn⟩, h2⟩
        have HFN : Hid (∀ W', FIs w W0 T (fun _ => False) k p (upd (upd X0.d i dj) i r.2.1) r.2.2 wr W' → ¬ (r.1 = 0 ∨ r.1 = 6) → FnAt w w1 T k p (finR ns (X0.d i) X0.f).1 (upd X0.d i (finR ns (X0.d i) X0.f).2.1) (finR ns (X0.d i) X0.f).2.2 (.returned (.int .i64 (r.1 : Int))) W') := fun W' hs hh =>
          FINA.out W' r (NXT.out W' hs).1 (HRR.out.trans (hst hh))
        clear hgo hst hBn NXT FINA hBj
        unfold sv at cj HST
        generalize (⟨(ns.getD j []).toArray⟩ : ByteArray) = sx at *
        clear hdrop hmem
        by_cases h0 : r.1 = 0
        · have z0 : (((r.1 : Nat) : Int) != 0) = false := by simp [h0]
          go_wp2_with (go_at_call 78; refine HST.out.mono ?_; rintro e w5 ⟨rfl, hs5⟩; have H5 := hid (HIN.out w5 hs5 (.inl h0)); clear hs5)
          go_roundw
          case rel => exact ⟨j + 1, by omega, by go_num, H5.out⟩
          case measure => simp [intOf]; omega
        · have z0 : (((r.1 : Nat) : Int) != 0) = true := by simp; omega
          by_cases h6 : r.1 = 6
          · have z6 : (((r.1 : Nat) : Int) != 6) = false := by simp; omega
            go_wp2_with (go_at_call 78; refine HST.out.mono ?_; rintro e w5 ⟨rfl, hs5⟩; have H5 := hid (HIN.out w5 hs5 (.inr h6)); clear hs5)
            go_roundw
            case rel => exact ⟨j + 1, by omega, by go_num, H5.out⟩
            case measure => simp [intOf]; omega
          · have z6 : (((r.1 : Nat) : Int) != 6) = true := by simp; omega
            go_wp2_with (go_at_call 78; refine HST.out.mono ?_; rintro e w5 ⟨rfl, hs5⟩; have H5 := hid (HFN.out w5 hs5 (fun hh => hh.elim h0 h6)); clear hs5)
            go_ret
            exact H5.out
      · have hlt' : ¬ (j : Int) < (ns.length : Int) := by omega
        have hF : Hid (FnAt w w1 T k p (finR ns (X0.d i) X0.f).1 (upd X0.d i (finR ns (X0.d i) X0.f).2.1) (finR ns (X0.d i) X0.f).2.2 (.returned (.int .i64 0)) wr) := by
          obtain ⟨dj, fj, hRj, hFj, hBj⟩ := HI.out.ex
          rw [List.drop_eq_nil_of_le (by omega)] at hRj
          exact FINA.out wr (0, dj, fj) hFj (HRR.out.trans hRj)
        go_wp2
        go_ret
        exact hF.out
  · have hR : finR ns (X0.d i) X0.f = (ckN ns, X0.d i, X0.f) := by unfold finR; rw [if_pos hck]
    have HF := hid (FINA.out _ (ckN ns, X0.d i, X0.f) (by rw [hupd]; exact FI.start hA0) hR)
    have hne : (((ckN ns : Nat) : Int) != 0) = true := by simp; omega
    clear h hv hA0 hv0 hupd hR hls hB hn hT hTl FINA
    generalize ckN ns = q at *
    go_enter Tryz.func19, Tryz.ntmps19
    go_wp2_with (first
      | (go_at_call 87; refine HNO.out.mono ?_; rintro e w' ⟨rfl, hw'⟩; have hw2 := hw'.symm; subst hw2)
      | (go_at_call 80; refine HCK.out.mono ?_; rintro e w' ⟨rfl, hw'⟩; have hw2 := hw'.symm; subst hw2))
    go_ret
    exact HF.out
end Go.Proofs.YtklchjfkkbpipaaGreatDoor
