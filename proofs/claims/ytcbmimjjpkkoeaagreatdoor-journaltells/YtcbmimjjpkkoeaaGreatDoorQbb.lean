/- Texts laid into one: the remark ahead of each part says what is proved there. -/
import Derived.Test.YtcbmimjjpkkoeaaGreatDoorQba
import Derived.Test.YtcbmimjjpkkoeaaGreatDoorQaz
import Derived.Deep.Cut
import Derived.Test.YtcbmimjjpkkoeaaGreatDoorQaq
import Derived.Test.YtcbmimjjpkkoeaaGreatDoorQas
import Derived.Test.YtcbmimjjpkkoeaaGreatDoorQao
import Derived.Test.YtcbmimjjpkkoeaaGreatDoorQat
/- JournalKnown. -/
namespace Go.Proofs.YtcbmimjjpkkoeaaGreatDoor
open Go Go.RowKit

/-- What is carried: journals in variables, bytes of the call's own. -/
structure Kn (w : World) (js : List (Nat × Int × Value)) (bs : List (Value × List Nat)) (W : World) : Prop where
  below : Below w.heap.size w W
  cj : ∀ q ∈ js, CAt W q.1 (jC q.2.1 q.2.2) 24
  cb : ∀ q ∈ bs, Buf w.heap.size W q.1 q.2
theorem Kn.on {w W W' : World} {js : List (Nat × Int × Value)} {bs : List (Value × List Nat)} (h : Kn w js bs W) (hb : Below W.heap.size W W') : Kn w js bs W' := ⟨below_on h.below hb, fun q hq => (h.cj q hq).below hb, fun q hq => (h.cb q hq).below hb⟩
theorem Kn.addJ {w W : World} {js : List (Nat × Int × Value)} {bs : List (Value × List Nat)} (h : Kn w js bs W) {g : Nat} {s : Int} {v : Value} (hc : CAt W g (jC s v) 24) : Kn w ((g, s, v) :: js) bs W := ⟨h.below, fun q hq => by rcases List.mem_cons.1 hq with rfl | hq; exact hc; exact h.cj q hq, h.cb⟩
theorem Buf.set {B : Nat} {w : World} {po : Option Addr} {n c : Nat} {L : List Nat} (h : Buf B w (.slice po n c) L) {i : Nat} (hi : i < L.length) (k : Nat) : ∃ g, po = some ⟨g, 0, none⟩ ∧ B ≤ g ∧ w.cell? ⟨g, i, none⟩ = some (u8 (L.getD i 0)) ∧ w.frozen? ⟨g, i, none⟩ = false ∧ Buf B (w.setCell ⟨g, i, none⟩ (u8 k)) (.slice po n c) (L.set i k) := by
  rcases h.2 with ⟨e, h0⟩ | ⟨g, cap, cur, e, hB, hg, h1, hm, h3, h4⟩
  · omega
  cases e
  have hc : CAt w g cur 5 := hg
  refine ⟨g, rfl, hB, ?_, hc.free _, by simp, Or.inr ⟨g, c, _, by rw [List.length_set], hB, hc.set i (u8 k), by rw [List.length_set]; exact h1, hm, by simp; omega, ?_⟩⟩
  · have := congrArg (·[i]?) h4
    simp [hi] at this
    rw [hc.cell, this]
    simp [u8, List.getD, List.getElem?_eq_getElem hi]
  · rw [Array.toList_setIfInBounds, List.length_set, List.take_set, h4, List.map_set]
theorem rep_bl (w : World) (n : Nat) : BL (w.alloc (.cells (madeCells #[.int .u8 0] n) 5)) (some ⟨w.heap.size, 0, none⟩) (List.replicate n 0) := Or.inr ⟨_, _, rfl, fun i hi => by
  rw [List.length_replicate] at hi
  have h := heap_alloc_new w (.cells (madeCells #[.int .u8 0] n) 5)
  simp only [World.cell?, h, Nat.zero_add]
  rw [madeCells_get _ n i hi]
  simp [u8, List.getD, hi]⟩
theorem zero_ok : okJ ⟨2, []⟩ = true := by decide +kernel
theorem zero_no : okJ ⟨0, []⟩ = false := by decide +kernel
theorem null_lst : lst ⟨#[110, 117, 108, 108]⟩ = [110, 117, 108, 108] := rfl
theorem x_lst : lst ⟨#[120]⟩ = [120] := rfl
theorem read_none {po : Option Addr} {c : Nat} {L : List Nat} {W : World} {a0 a1 : Addr} {er n : Nat} (hn : L.length = n) (h : BL W po L) (hc : n ≤ c) (hl : n ≤ 100000) (h8 : ∀ z ∈ L, z < 256) (he : Ers W a0 a1) (hr : rdJ dig L = (er, none)) : Calls Tryz.prog 16 #[.slice po n c] W fun e w' => e = .returned (.tuple #[.agg (jC 0 (.slice none 0 0)), i64 er]) ∧ Below W.heap.size W w' := by
  have := jread_any po c L W a0 a1 h (by omega) (by omega) h8 he
  rw [hr, hn] at this
  exact this
theorem add_first {W : World} (hX : (xM 1).rc = mkN 1) : Calls Tryz.prog 39 #[.agg (jC 0 (.slice none 0 0)), .agg (xM 1).r.cs] W (JouE W 1 [mkN 1]) := by
  have := add_any 0 _ [] (xM 1) W (RL.nil W) (xM_at 1 W)
  rw [hX, show (⟨0, rcs []⟩ : Jr) = ⟨0, []⟩ from rfl, zero_add] at this
  exact this
#print axioms Buf.set
end Go.Proofs.YtcbmimjjpkkoeaaGreatDoor

/- JournalBack: what is carried; early ends. -/
namespace Go.Proofs.YtcbmimjjpkkoeaaGreatDoor
open Go Go.RowKit

/-- Two journals in boxes. -/
structure Bk (w : World) (ga gc : Nat) (sa sc : Int) (va vc : Value) (W : World) : Prop where
  below : Below w.heap.size w W
  ca : CAt W ga (jC sa va) 24
  cc : CAt W gc (jC sc vc) 24
theorem Bk.on {w W W' : World} {ga gc : Nat} {sa sc : Int} {va vc : Value} (h : Bk w ga gc sa sc va vc W) (hb : Below W.heap.size W W') : Bk w ga gc sa sc va vc W' := ⟨below_on h.below hb, h.ca.below hb, h.cc.below hb⟩
theorem Buf.room {B : Nat} {w : World} {n c : Nat} {L : List Nat} (h : Buf B w (.slice none n c) L) : c = 0 := by
  rcases h.2 with ⟨e, h0⟩ | ⟨g, cap, cur, e, _⟩
  · cases e; rfl
  · cases e
theorem IsJ.form {w : World} {v : Value} {l : List Rp} (h : IsJ w v l) : ∃ p n c, v = .slice p n c := by obtain ⟨p, c, e, _⟩ := h; exact ⟨p, _, c, e⟩
/-- Read, by its error's number. -/
theorem read_code (po : Option Addr) (c : Nat) (L : List Nat) (w : World) (a0 a1 : Addr) (h : BL w po L) (hc : L.length ≤ c) (hn : L.length ≤ 100000) (h8 : ∀ z ∈ L, z < 256) (he : Ers w a0 a1) : Calls Tryz.prog 16 #[.slice po L.length c] w fun e w' => ∃ s v, e = .returned (.tuple #[.agg (jC s v), i64 (rdJ dig L).1]) ∧ v.oneCell' = true ∧ Below w.heap.size w w' := by
  refine (jread_any po c L w a0 a1 h hc hn h8 he).mono fun e w' hA => ?_
  unfold AddS at hA
  cases hj : (rdJ dig L).2 with
  | none => rw [hj] at hA; obtain ⟨rfl, hb⟩ := hA; exact ⟨_, _, rfl, rfl, hb⟩
  | some j =>
    rw [hj] at hA
    obtain ⟨v, m, rfl, hr, _, hb⟩ := hA
    have e0 : (rdJ dig L).1 = 0 := (rdJ_some h8 (show rdJ dig L = ((rdJ dig L).1, some j) by rw [← hj])).1
    refine ⟨_, v, by rw [e0]; rfl, ?_, hb⟩
    obtain ⟨a, c, e, _⟩ := hr.buf.form; rw [e]; rfl

end Go.Proofs.YtcbmimjjpkkoeaaGreatDoor

/- JournalBack: loading a journal. -/
namespace Go.Proofs.YtcbmimjjpkkoeaaGreatDoor
open Go Go.RowKit

theorem run_loadJ {w : World} {g : Nat} {s : Int} {v : Value} (h : CAt w g (jC s v) 24) : (Instr.loadAt 24 (.pointer (some ⟨g, 0, none⟩))).run Tryz.prog w = .ok (.agg (jC s v)) w := by
  have hl := run_loadVar_row (P := Tryz.prog) w g 24 24 (jC s v) (0, 0) _ h underJrn rfl (by rw [jC_size]; exact sizeJ)
  simp only [Instr.loadAt, Instr.sureAddr, Sem.run_bind, Sem.run_pure, Result.andThen_ok, hl]

end Go.Proofs.YtcbmimjjpkkoeaaGreatDoor

/- The document's Check. -/
namespace Go.Proofs.YtcbmimjjpkkoeaaGreatDoor
open Go Go.RowKit

set_option maxRecDepth 100000 in
theorem rjcheck_out (s : Int) (v : Value) (l : List Rp) (w : World) (hl : RL w v l) (h : s < 1 ∨ 1099511627776 < s ∨ 64 < l.length) : Calls Tryz.prog 9 #[.agg (jC s v)] w fun e w' => e = .returned (i64 2) ∧ Below w.heap.size w w' := by
  obtain ⟨po, c, rfl, _⟩ := hl
  by_cases h1 : s < 1
  · go_enter Tryz.func9, Tryz.ntmps9
    go_wp2_with (((with_reducible refine wpList_boxT 24 rfl _ rfl (jC s (.slice po l.length c)) ?_ ?_); exact rfl; intro w1 g1 hc1 hb1 hg1; have c0 := hc1.j0; have c1 := hc1.j1; have HJ := hid hc1; have HB := hid hb1; clear hb1 hc1))
    go_ret
    exact ⟨rfl, HB.out⟩
  · by_cases h2 : 1099511627776 < s
    · go_enter Tryz.func9, Tryz.ntmps9
      go_wp2_with (((with_reducible refine wpList_boxT 24 rfl _ rfl (jC s (.slice po l.length c)) ?_ ?_); exact rfl; intro w1 g1 hc1 hb1 hg1; have c0 := hc1.j0; have c1 := hc1.j1; have HJ := hid hc1; have HB := hid hb1; clear hb1 hc1))
      go_ret
      exact ⟨rfl, HB.out⟩
    · have h3 : 64 < (l.length : Int) := by omega
      go_enter Tryz.func9, Tryz.ntmps9
      go_wp2_with (((with_reducible refine wpList_boxT 24 rfl _ rfl (jC s (.slice po l.length c)) ?_ ?_); exact rfl; intro w1 g1 hc1 hb1 hg1; have c0 := hc1.j0; have c1 := hc1.j1; have HJ := hid hc1; have HB := hid hb1; clear hb1 hc1))
      go_ret
      exact ⟨rfl, HB.out⟩
set_option maxRecDepth 100000 in
set_option maxHeartbeats 4000000 in
theorem rjcheck_in (s : Int) (v : Value) (l : List Rp) (w : World) (hl : RL w v l) (h1 : 1 ≤ s) (h2 : s ≤ 1099511627776) (h3 : l.length ≤ 64) : Calls Tryz.prog 9 #[.agg (jC s v)] w fun e w' => e = .returned (i64 (if okJ ⟨s, rcs l⟩ = true then 0 else 2)) ∧ Below w.heap.size w w' := by
  have HL := hid hl
  obtain ⟨R, hR⟩ : ∃ R : Int, (if okJ ⟨s, rcs l⟩ = true then (0 : Int) else 2) = R := ⟨_, rfl⟩
  rw [hR]
  have HRR := hid hR
  clear hR
  obtain ⟨po, c, rfl, hc1, hn, _⟩ := hl
  obtain ⟨n, hN⟩ : ∃ n, l.length = n := ⟨_, rfl⟩
  have HN := hid hN
  rw [hN] at h3 hn ⊢
  have h3' : (n : Int) ≤ 64 := by omega
  clear hN hc1
  go_enter Tryz.func9, Tryz.ntmps9
  go_wp2_with (((with_reducible refine wpList_boxT 24 rfl _ rfl (jC s (.slice po n c)) ?_ ?_); exact rfl; intro w1 g1 hc1 hb1 hg1; have c0 := hc1.j0; have c1 := hc1.j1; have HJ := hid hc1; have HB := hid hb1; clear hb1 hc1))
  clear c0 c1
  go_loopg [3] n (fun gg s3 wr => ∃ kk : Nat, kk ≤ n ∧ n - kk ≤ gg ∧ s3 = i64 kk ∧ Hid (Below w1.heap.size w1 wr) ∧ Hid (∀ j x, (rcs l)[j]? = some x → j < kk → okRc x = true ∧ atI (rcs l) x.id = some j))
  case atStart => exact ⟨0, Nat.zero_le _, by omega, rfl, Below.refl _ _, fun j x _ hj => absurd hj (Nat.not_lt_zero _)⟩
  case round =>
    obtain ⟨kk, hkk, hg, rfl, BW, A⟩ := hrel
    have c1 := (HJ.out.below BW.out).j1
    have BW0 := hid (below_on HB.out BW.out)
    by_cases hlt : kk < n
    · have hltz : (kk : Int) < (n : Int) := by omega
      obtain ⟨x, hx⟩ : ∃ x, l[kk]? = some x := ⟨_, List.getElem?_eq_getElem (by have := HN.out; omega)⟩
      obtain ⟨b, o, c', e, _, hcl⟩ := HL.out.where hx
      rw [HN.out] at e
      cases e
      have hxo := HL.out.each x (List.mem_of_getElem? hx)
      have hok := hxo.ok
      have HXR : Hid ((rcs l)[kk]? = some x.rc) := hid (by rw [rcs_get, hx]; rfl)
      obtain ⟨q, hQ⟩ : ∃ q, plI (atI (rcs l) (lst x.r.id)) = q := ⟨_, rfl⟩
      have HAT : Hid (∀ W, Below w.heap.size w W → Calls Tryz.prog 27 #[.agg (jC s (.slice (some ⟨b, o, none⟩) n c)), .string x.r.id] W fun e w' => e = .returned (i64 q) ∧ Below W.heap.size W w') := hid (fun W hW => by have := rat_any s _ l x.r.id W (HL.out.below hW); rw [HN.out, hQ] at this; exact this)
      have HCK : Hid (∀ W, Below w.heap.size w W → Calls Tryz.prog 26 #[.agg x.r.cs] W fun e w' => e = .returned (i64 (if okRc x.rc = true then 0 else 2)) ∧ Below W.heap.size W w') := hid fun W hW => rcheck_any x.r hok x.ps W (hxo.pl.below hW)
      have HSF : Hid (∀ W, Below wr.heap.size wr W → (fun W => W.cell? ⟨g1, 1, none⟩ = some (.slice (some ⟨b, o, none⟩) n c) ∧ (Instr.loadAt 45 (.pointer (some ⟨b, o + kk * 42, none⟩))).run Tryz.prog W = .ok (.agg x.r.cs) W ∧ (Instr.loadAt 24 (.pointer (some ⟨g1, 0, none⟩))).run Tryz.prog W = .ok (.agg (jC s (.slice (some ⟨b, o, none⟩) n c))) W ∧ W.cell? ⟨b, o + kk * 42, none⟩ = some (.string x.r.id)) W) := hid (fun W hW => ⟨(HJ.out.below (below_on BW.out hW)).j1, run_loadM hok ((hcl.below (below_on BW0.out hW)).range hx), run_loadJ (HJ.out.below (below_on BW.out hW)), by have := (hcl.below (below_on BW0.out hW)) kk x hx 0 (.string x.r.id) (by rw [x.r.get8 0 (by omega)]; rfl); exact this⟩)
      have HQ := hid hQ
      clear hxo hcl hx hQ
      cases hq : okRc x.rc with
      | false =>
        rw [hq] at HCK
        simp only [Bool.false_eq_true, if_false] at HCK
        go_upto_region 6 with fail
        refine wp_region_held_drew (S := (fun W => W.cell? ⟨g1, 1, none⟩ = some (.slice (some ⟨b, o, none⟩) n c) ∧ (Instr.loadAt 45 (.pointer (some ⟨b, o + kk * 42, none⟩))).run Tryz.prog W = .ok (.agg x.r.cs) W ∧ (Instr.loadAt 24 (.pointer (some ⟨g1, 0, none⟩))).run Tryz.prog W = .ok (.agg (jC s (.slice (some ⟨b, o, none⟩) n c))) W ∧ W.cell? ⟨b, o + kk * 42, none⟩ = some (.string x.r.id))) (by kernel_rfl) (HSF.out _ (below_drew _)) (fun hHeld => ?_)
        have HD := hid (below_drew wr)
        refine wpAnyH_take (i := 0) (oi := ⟨some 25, .fieldAddr 24 (.tmp 1) 1, _, _, _, none⟩) (v := .pointer (some ⟨g1, 1, none⟩)) rfl (by kernel_rfl) (by kernel_rfl) (by kernel_rfl) (fun _ _ _ h => h) (Or.inl ⟨by kernel_rfl, by intro W hW; go_simp⟩) hHeld ?_
        refine wpAnyH_take (i := 1) (oi := ⟨some 26, .load 22 (.tmp 25), _, _, _, none⟩) (v := .slice (some ⟨b, o, none⟩) n c) rfl (by kernel_rfl) (by kernel_rfl) (by kernel_rfl) (fun _ _ _ h => h) (Or.inl ⟨by kernel_rfl, by intro W hW; have q0 := hW.1; go_simp⟩) hHeld ?_
        refine wpAnyH_take (i := 2) (oi := ⟨some 27, .move (.tmp 3), _, _, _, none⟩) (v := i64 kk) rfl (by kernel_rfl) (by kernel_rfl) (by kernel_rfl) (fun _ _ _ h => h) (Or.inl ⟨by kernel_rfl, by intro W hW; go_simp⟩) hHeld ?_
        refine wpAnyH_take (i := 3) (oi := ⟨some 28, .indexAddr 22 (.tmp 26) (.tmp 27), _, _, _, none⟩) (v := .pointer (some ⟨b, o + kk * 42, none⟩)) rfl (by kernel_rfl) (by kernel_rfl) (by kernel_rfl) (fun _ _ _ h => h) (Or.inl ⟨by kernel_rfl, by intro W hW; go_simp⟩) hHeld ?_
        refine wpAnyH_take (i := 4) (oi := ⟨some 29, .load 45 (.tmp 28), _, _, _, none⟩) (v := .agg x.r.cs) rfl (by kernel_rfl) (by kernel_rfl) (by kernel_rfl) (fun _ _ _ h => h) (Or.inl ⟨by kernel_rfl, fun W hW => exec_load rfl (by kernel_rfl) hW.2.1⟩) hHeld ?_
        refine wpAnyH_ready (rs := [5]) (by kernel_rfl) (by simp) ?_
        refine AllReadyH.cons rfl (fun K hK => ?_) AllReadyH.nil
        go_simp
        refine (HCK.out _ (below_on BW0.out HD.out)).mono ?_
        rintro e x5 ⟨rfl, hb⟩
        replace HD := hid (below_on HD.out hb)
        clear hb
        go_wp2_with fail
        refine hK.out _ _ (HSF.out _ HD.out) (fun hHeld => ?_)
        clear hK K
        refine wpAnyH_take (i := 6) (oi := ⟨some 31, .binOp .neq 29 (.tmp 30) (.const (.int .i64 0)) 29, _, _, _, none⟩) (v := .bool true) rfl (by kernel_rfl) (by kernel_rfl) (by kernel_rfl) (fun _ _ _ h => h) (Or.inl ⟨by kernel_rfl, by intro W hW; go_simp⟩) hHeld ?_
        refine wpAnyH_take (i := 7) (oi := ⟨some 32, .move (.tmp 31), _, _, _, none⟩) (v := .bool true) rfl (by kernel_rfl) (by kernel_rfl) (by kernel_rfl) (fun _ _ _ h => h) (Or.inl ⟨by kernel_rfl, by intro W hW; go_simp⟩) hHeld ?_
        refine wpAnyH_take (i := 8) (oi := ⟨some 33, .load 24 (.tmp 1), _, _, _, some (7, false)⟩) (v := undef) rfl (by kernel_rfl) (by kernel_rfl) (by kernel_rfl) (fun _ _ _ h => h) (Or.inr ⟨by kernel_rfl, rfl⟩) hHeld ?_
        refine wpAnyH_take (i := 9) (oi := ⟨some 34, .fieldAddr 24 (.tmp 1) 1, _, _, _, some (7, false)⟩) (v := undef) rfl (by kernel_rfl) (by kernel_rfl) (by kernel_rfl) (fun _ _ _ h => h) (Or.inr ⟨by kernel_rfl, rfl⟩) hHeld ?_
        refine wpAnyH_take (i := 10) (oi := ⟨some 35, .load 22 (.tmp 34), _, _, _, some (7, false)⟩) (v := undef) rfl (by kernel_rfl) (by kernel_rfl) (by kernel_rfl) (fun _ _ _ h => h) (Or.inr ⟨by kernel_rfl, rfl⟩) hHeld ?_
        refine wpAnyH_take (i := 11) (oi := ⟨some 36, .move (.tmp 3), _, _, _, some (7, false)⟩) (v := undef) rfl (by kernel_rfl) (by kernel_rfl) (by kernel_rfl) (fun _ _ _ h => h) (Or.inr ⟨by kernel_rfl, rfl⟩) hHeld ?_
        refine wpAnyH_take (i := 12) (oi := ⟨some 37, .indexAddr 22 (.tmp 35) (.tmp 36), _, _, _, some (7, false)⟩) (v := undef) rfl (by kernel_rfl) (by kernel_rfl) (by kernel_rfl) (fun _ _ _ h => h) (Or.inr ⟨by kernel_rfl, rfl⟩) hHeld ?_
        refine wpAnyH_take (i := 13) (oi := ⟨some 38, .fieldAddr 45 (.tmp 37) 0, _, _, _, some (7, false)⟩) (v := undef) rfl (by kernel_rfl) (by kernel_rfl) (by kernel_rfl) (fun _ _ _ h => h) (Or.inr ⟨by kernel_rfl, rfl⟩) hHeld ?_
        refine wpAnyH_take (i := 14) (oi := ⟨some 39, .load 9 (.tmp 38), _, _, _, some (7, false)⟩) (v := undef) rfl (by kernel_rfl) (by kernel_rfl) (by kernel_rfl) (fun _ _ _ h => h) (Or.inr ⟨by kernel_rfl, rfl⟩) hHeld ?_
        refine wpAnyH_take (i := 15) (oi := ⟨some 40, .call { callee := .value (.func 27), args := #[.tmp 33, .tmp 39], argTypes := #[24, 9] }, _, _, _, some (7, false)⟩) (v := undef) rfl (by kernel_rfl) (by kernel_rfl) (by kernel_rfl) (fun _ _ _ h => h) (Or.inr ⟨by kernel_rfl, rfl⟩) hHeld ?_
        refine wpAnyH_take (i := 16) (oi := ⟨some 41, .move (.tmp 3), _, _, _, some (7, false)⟩) (v := undef) rfl (by kernel_rfl) (by kernel_rfl) (by kernel_rfl) (fun _ _ _ h => h) (Or.inr ⟨by kernel_rfl, rfl⟩) hHeld ?_
        refine wpAnyH_take (i := 17) (oi := ⟨some 42, .binOp .neq 3 (.tmp 40) (.tmp 41) 3, _, _, _, some (7, false)⟩) (v := undef) rfl (by kernel_rfl) (by kernel_rfl) (by kernel_rfl) (fun _ _ _ h => h) (Or.inr ⟨by kernel_rfl, rfl⟩) hHeld ?_
        refine wpAnyH_take (i := 18) (oi := ⟨some 43, .pick (.tmp 32) (.const (.bool true)) (.tmp 42), _, _, _, none⟩) (v := .bool true) rfl (by kernel_rfl) (by kernel_rfl) (by kernel_rfl) (fun _ _ _ h => h) (Or.inl ⟨by kernel_rfl, by intro W hW; go_simp⟩) hHeld ?_
        refine wpAnyH_done (by kernel_rfl) ?_ _
        simp only [Act.put, List.setIfInBounds_toArray, List.set_cons_zero, List.set_cons_succ]
        clear hHeld c1
        go_wp2
        go_ret
        refine ⟨?_, below_on BW0.out HD.out⟩
        rw [← HRR.out, okJ_not HXR.out (Or.inl hq)]
        rfl
      | true =>
        rw [hq] at HCK
        simp only [if_true] at HCK
        by_cases he : q = (kk : Int)
        · subst he
          go_upto_region 6 with fail
          refine wp_region_held_drew (S := (fun W => W.cell? ⟨g1, 1, none⟩ = some (.slice (some ⟨b, o, none⟩) n c) ∧ (Instr.loadAt 45 (.pointer (some ⟨b, o + kk * 42, none⟩))).run Tryz.prog W = .ok (.agg x.r.cs) W ∧ (Instr.loadAt 24 (.pointer (some ⟨g1, 0, none⟩))).run Tryz.prog W = .ok (.agg (jC s (.slice (some ⟨b, o, none⟩) n c))) W ∧ W.cell? ⟨b, o + kk * 42, none⟩ = some (.string x.r.id))) (by kernel_rfl) (HSF.out _ (below_drew _)) (fun hHeld => ?_)
          have HD := hid (below_drew wr)
          refine wpAnyH_take (i := 0) (oi := ⟨some 25, .fieldAddr 24 (.tmp 1) 1, _, _, _, none⟩) (v := .pointer (some ⟨g1, 1, none⟩)) rfl (by kernel_rfl) (by kernel_rfl) (by kernel_rfl) (fun _ _ _ h => h) (Or.inl ⟨by kernel_rfl, by intro W hW; go_simp⟩) hHeld ?_
          refine wpAnyH_take (i := 1) (oi := ⟨some 26, .load 22 (.tmp 25), _, _, _, none⟩) (v := .slice (some ⟨b, o, none⟩) n c) rfl (by kernel_rfl) (by kernel_rfl) (by kernel_rfl) (fun _ _ _ h => h) (Or.inl ⟨by kernel_rfl, by intro W hW; have q0 := hW.1; go_simp⟩) hHeld ?_
          refine wpAnyH_take (i := 2) (oi := ⟨some 27, .move (.tmp 3), _, _, _, none⟩) (v := i64 kk) rfl (by kernel_rfl) (by kernel_rfl) (by kernel_rfl) (fun _ _ _ h => h) (Or.inl ⟨by kernel_rfl, by intro W hW; go_simp⟩) hHeld ?_
          refine wpAnyH_take (i := 3) (oi := ⟨some 28, .indexAddr 22 (.tmp 26) (.tmp 27), _, _, _, none⟩) (v := .pointer (some ⟨b, o + kk * 42, none⟩)) rfl (by kernel_rfl) (by kernel_rfl) (by kernel_rfl) (fun _ _ _ h => h) (Or.inl ⟨by kernel_rfl, by intro W hW; go_simp⟩) hHeld ?_
          refine wpAnyH_take (i := 4) (oi := ⟨some 29, .load 45 (.tmp 28), _, _, _, none⟩) (v := .agg x.r.cs) rfl (by kernel_rfl) (by kernel_rfl) (by kernel_rfl) (fun _ _ _ h => h) (Or.inl ⟨by kernel_rfl, fun W hW => exec_load rfl (by kernel_rfl) hW.2.1⟩) hHeld ?_
          refine wpAnyH_ready (rs := [5]) (by kernel_rfl) (by simp) ?_
          refine AllReadyH.cons rfl (fun K hK => ?_) AllReadyH.nil
          go_simp
          refine (HCK.out _ (below_on BW0.out HD.out)).mono ?_
          rintro e x5 ⟨rfl, hb⟩
          replace HD := hid (below_on HD.out hb)
          clear hb
          go_wp2_with fail
          refine hK.out _ _ (HSF.out _ HD.out) (fun hHeld => ?_)
          clear hK K
          refine wpAnyH_take (i := 6) (oi := ⟨some 31, .binOp .neq 29 (.tmp 30) (.const (.int .i64 0)) 29, _, _, _, none⟩) (v := .bool false) rfl (by kernel_rfl) (by kernel_rfl) (by kernel_rfl) (fun _ _ _ h => h) (Or.inl ⟨by kernel_rfl, by intro W hW; go_simp⟩) hHeld ?_
          refine wpAnyH_take (i := 7) (oi := ⟨some 32, .move (.tmp 31), _, _, _, none⟩) (v := .bool false) rfl (by kernel_rfl) (by kernel_rfl) (by kernel_rfl) (fun _ _ _ h => h) (Or.inl ⟨by kernel_rfl, by intro W hW; go_simp⟩) hHeld ?_
          refine wpAnyH_take (i := 8) (oi := ⟨some 33, .load 24 (.tmp 1), _, _, _, some (7, false)⟩) (v := .agg (jC s (.slice (some ⟨b, o, none⟩) n c))) rfl (by kernel_rfl) (by kernel_rfl) (by kernel_rfl) (fun _ _ _ h => h) (Or.inl ⟨by kernel_rfl, fun W hW => exec_load rfl (by kernel_rfl) hW.2.2.1⟩) hHeld ?_
          refine wpAnyH_take (i := 9) (oi := ⟨some 34, .fieldAddr 24 (.tmp 1) 1, _, _, _, some (7, false)⟩) (v := .pointer (some ⟨g1, 1, none⟩)) rfl (by kernel_rfl) (by kernel_rfl) (by kernel_rfl) (fun _ _ _ h => h) (Or.inl ⟨by kernel_rfl, by intro W hW; go_simp⟩) hHeld ?_
          refine wpAnyH_take (i := 10) (oi := ⟨some 35, .load 22 (.tmp 34), _, _, _, some (7, false)⟩) (v := .slice (some ⟨b, o, none⟩) n c) rfl (by kernel_rfl) (by kernel_rfl) (by kernel_rfl) (fun _ _ _ h => h) (Or.inl ⟨by kernel_rfl, by intro W hW; have q0 := hW.1; go_simp⟩) hHeld ?_
          refine wpAnyH_take (i := 11) (oi := ⟨some 36, .move (.tmp 3), _, _, _, some (7, false)⟩) (v := i64 kk) rfl (by kernel_rfl) (by kernel_rfl) (by kernel_rfl) (fun _ _ _ h => h) (Or.inl ⟨by kernel_rfl, by intro W hW; go_simp⟩) hHeld ?_
          refine wpAnyH_take (i := 12) (oi := ⟨some 37, .indexAddr 22 (.tmp 35) (.tmp 36), _, _, _, some (7, false)⟩) (v := .pointer (some ⟨b, o + kk * 42, none⟩)) rfl (by kernel_rfl) (by kernel_rfl) (by kernel_rfl) (fun _ _ _ h => h) (Or.inl ⟨by kernel_rfl, by intro W hW; go_simp⟩) hHeld ?_
          refine wpAnyH_take (i := 13) (oi := ⟨some 38, .fieldAddr 45 (.tmp 37) 0, _, _, _, some (7, false)⟩) (v := .pointer (some ⟨b, o + kk * 42, none⟩)) rfl (by kernel_rfl) (by kernel_rfl) (by kernel_rfl) (fun _ _ _ h => h) (Or.inl ⟨by kernel_rfl, by intro W hW; go_simp⟩) hHeld ?_
          refine wpAnyH_take (i := 14) (oi := ⟨some 39, .load 9 (.tmp 38), _, _, _, some (7, false)⟩) (v := .string x.r.id) rfl (by kernel_rfl) (by kernel_rfl) (by kernel_rfl) (fun _ _ _ h => h) (Or.inl ⟨by kernel_rfl, by intro W hW; have q0 := hW.2.2.2; go_simp⟩) hHeld ?_
          refine wpAnyH_take (i := 16) (oi := ⟨some 41, .move (.tmp 3), _, _, _, some (7, false)⟩) (v := i64 kk) rfl (by kernel_rfl) (by kernel_rfl) (by kernel_rfl) (fun _ _ _ h => h) (Or.inl ⟨by kernel_rfl, by intro W hW; go_simp⟩) hHeld ?_
          refine wpAnyH_ready (rs := [15]) (by kernel_rfl) (by simp) ?_
          refine AllReadyH.cons rfl (fun K hK => ?_) AllReadyH.nil
          go_simp
          refine (HAT.out _ (below_on BW0.out HD.out)).mono ?_
          rintro e x15 ⟨rfl, hb⟩
          replace HD := hid (below_on HD.out hb)
          clear hb
          go_wp2_with fail
          refine hK.out _ _ (HSF.out _ HD.out) (fun hHeld => ?_)
          clear hK K
          refine wpAnyH_take (i := 17) (oi := ⟨some 42, .binOp .neq 3 (.tmp 40) (.tmp 41) 3, _, _, _, some (7, false)⟩) (v := .bool false) rfl (by kernel_rfl) (by kernel_rfl) (by kernel_rfl) (fun _ _ _ h => h) (Or.inl ⟨by kernel_rfl, by intro W hW; go_simp⟩) hHeld ?_
          refine wpAnyH_take (i := 18) (oi := ⟨some 43, .pick (.tmp 32) (.const (.bool true)) (.tmp 42), _, _, _, none⟩) (v := .bool false) rfl (by kernel_rfl) (by kernel_rfl) (by kernel_rfl) (fun _ _ _ h => h) (Or.inl ⟨by kernel_rfl, by intro W hW; go_simp⟩) hHeld ?_
          refine wpAnyH_done (by kernel_rfl) ?_ _
          simp only [Act.put, List.setIfInBounds_toArray, List.set_cons_zero, List.set_cons_succ]
          clear hHeld c1
          go_wp2
          go_roundg (n - (kk + 1))
          case measure => omega
          case rel =>
            refine ⟨kk + 1, by omega, by omega, by go_num, below_on BW.out HD.out, (show Hid _ from fun j y hy hj => ?_)⟩
            by_cases e : j = kk
            · subst e
              rw [HXR.out] at hy; cases hy
              refine ⟨hq, ?_⟩
              have := HQ.out
              rw [rc_id]
              cases ha : atI (rcs l) (lst x.r.id) with
              | none => rw [ha] at this; exact absurd this (by show ¬ ((-1 : Int) = _); omega)
              | some i => rw [ha] at this; have h9 : ((i : Nat) : Int) = (j : Int) := this; rw [show i = j by omega]
            · exact A.out j y hy (by omega)
        · have he' : (q == (kk : Int)) = false := beq_eq_false_iff_ne.2 he
          go_upto_region 6 with fail
          refine wp_region_held_drew (S := (fun W => W.cell? ⟨g1, 1, none⟩ = some (.slice (some ⟨b, o, none⟩) n c) ∧ (Instr.loadAt 45 (.pointer (some ⟨b, o + kk * 42, none⟩))).run Tryz.prog W = .ok (.agg x.r.cs) W ∧ (Instr.loadAt 24 (.pointer (some ⟨g1, 0, none⟩))).run Tryz.prog W = .ok (.agg (jC s (.slice (some ⟨b, o, none⟩) n c))) W ∧ W.cell? ⟨b, o + kk * 42, none⟩ = some (.string x.r.id))) (by kernel_rfl) (HSF.out _ (below_drew _)) (fun hHeld => ?_)
          have HD := hid (below_drew wr)
          refine wpAnyH_take (i := 0) (oi := ⟨some 25, .fieldAddr 24 (.tmp 1) 1, _, _, _, none⟩) (v := .pointer (some ⟨g1, 1, none⟩)) rfl (by kernel_rfl) (by kernel_rfl) (by kernel_rfl) (fun _ _ _ h => h) (Or.inl ⟨by kernel_rfl, by intro W hW; go_simp⟩) hHeld ?_
          refine wpAnyH_take (i := 1) (oi := ⟨some 26, .load 22 (.tmp 25), _, _, _, none⟩) (v := .slice (some ⟨b, o, none⟩) n c) rfl (by kernel_rfl) (by kernel_rfl) (by kernel_rfl) (fun _ _ _ h => h) (Or.inl ⟨by kernel_rfl, by intro W hW; have q0 := hW.1; go_simp⟩) hHeld ?_
          refine wpAnyH_take (i := 2) (oi := ⟨some 27, .move (.tmp 3), _, _, _, none⟩) (v := i64 kk) rfl (by kernel_rfl) (by kernel_rfl) (by kernel_rfl) (fun _ _ _ h => h) (Or.inl ⟨by kernel_rfl, by intro W hW; go_simp⟩) hHeld ?_
          refine wpAnyH_take (i := 3) (oi := ⟨some 28, .indexAddr 22 (.tmp 26) (.tmp 27), _, _, _, none⟩) (v := .pointer (some ⟨b, o + kk * 42, none⟩)) rfl (by kernel_rfl) (by kernel_rfl) (by kernel_rfl) (fun _ _ _ h => h) (Or.inl ⟨by kernel_rfl, by intro W hW; go_simp⟩) hHeld ?_
          refine wpAnyH_take (i := 4) (oi := ⟨some 29, .load 45 (.tmp 28), _, _, _, none⟩) (v := .agg x.r.cs) rfl (by kernel_rfl) (by kernel_rfl) (by kernel_rfl) (fun _ _ _ h => h) (Or.inl ⟨by kernel_rfl, fun W hW => exec_load rfl (by kernel_rfl) hW.2.1⟩) hHeld ?_
          refine wpAnyH_ready (rs := [5]) (by kernel_rfl) (by simp) ?_
          refine AllReadyH.cons rfl (fun K hK => ?_) AllReadyH.nil
          go_simp
          refine (HCK.out _ (below_on BW0.out HD.out)).mono ?_
          rintro e x5 ⟨rfl, hb⟩
          replace HD := hid (below_on HD.out hb)
          clear hb
          go_wp2_with fail
          refine hK.out _ _ (HSF.out _ HD.out) (fun hHeld => ?_)
          clear hK K
          refine wpAnyH_take (i := 6) (oi := ⟨some 31, .binOp .neq 29 (.tmp 30) (.const (.int .i64 0)) 29, _, _, _, none⟩) (v := .bool false) rfl (by kernel_rfl) (by kernel_rfl) (by kernel_rfl) (fun _ _ _ h => h) (Or.inl ⟨by kernel_rfl, by intro W hW; go_simp⟩) hHeld ?_
          refine wpAnyH_take (i := 7) (oi := ⟨some 32, .move (.tmp 31), _, _, _, none⟩) (v := .bool false) rfl (by kernel_rfl) (by kernel_rfl) (by kernel_rfl) (fun _ _ _ h => h) (Or.inl ⟨by kernel_rfl, by intro W hW; go_simp⟩) hHeld ?_
          refine wpAnyH_take (i := 8) (oi := ⟨some 33, .load 24 (.tmp 1), _, _, _, some (7, false)⟩) (v := .agg (jC s (.slice (some ⟨b, o, none⟩) n c))) rfl (by kernel_rfl) (by kernel_rfl) (by kernel_rfl) (fun _ _ _ h => h) (Or.inl ⟨by kernel_rfl, fun W hW => exec_load rfl (by kernel_rfl) hW.2.2.1⟩) hHeld ?_
          refine wpAnyH_take (i := 9) (oi := ⟨some 34, .fieldAddr 24 (.tmp 1) 1, _, _, _, some (7, false)⟩) (v := .pointer (some ⟨g1, 1, none⟩)) rfl (by kernel_rfl) (by kernel_rfl) (by kernel_rfl) (fun _ _ _ h => h) (Or.inl ⟨by kernel_rfl, by intro W hW; go_simp⟩) hHeld ?_
          refine wpAnyH_take (i := 10) (oi := ⟨some 35, .load 22 (.tmp 34), _, _, _, some (7, false)⟩) (v := .slice (some ⟨b, o, none⟩) n c) rfl (by kernel_rfl) (by kernel_rfl) (by kernel_rfl) (fun _ _ _ h => h) (Or.inl ⟨by kernel_rfl, by intro W hW; have q0 := hW.1; go_simp⟩) hHeld ?_
          refine wpAnyH_take (i := 11) (oi := ⟨some 36, .move (.tmp 3), _, _, _, some (7, false)⟩) (v := i64 kk) rfl (by kernel_rfl) (by kernel_rfl) (by kernel_rfl) (fun _ _ _ h => h) (Or.inl ⟨by kernel_rfl, by intro W hW; go_simp⟩) hHeld ?_
          refine wpAnyH_take (i := 12) (oi := ⟨some 37, .indexAddr 22 (.tmp 35) (.tmp 36), _, _, _, some (7, false)⟩) (v := .pointer (some ⟨b, o + kk * 42, none⟩)) rfl (by kernel_rfl) (by kernel_rfl) (by kernel_rfl) (fun _ _ _ h => h) (Or.inl ⟨by kernel_rfl, by intro W hW; go_simp⟩) hHeld ?_
          refine wpAnyH_take (i := 13) (oi := ⟨some 38, .fieldAddr 45 (.tmp 37) 0, _, _, _, some (7, false)⟩) (v := .pointer (some ⟨b, o + kk * 42, none⟩)) rfl (by kernel_rfl) (by kernel_rfl) (by kernel_rfl) (fun _ _ _ h => h) (Or.inl ⟨by kernel_rfl, by intro W hW; go_simp⟩) hHeld ?_
          refine wpAnyH_take (i := 14) (oi := ⟨some 39, .load 9 (.tmp 38), _, _, _, some (7, false)⟩) (v := .string x.r.id) rfl (by kernel_rfl) (by kernel_rfl) (by kernel_rfl) (fun _ _ _ h => h) (Or.inl ⟨by kernel_rfl, by intro W hW; have q0 := hW.2.2.2; go_simp⟩) hHeld ?_
          refine wpAnyH_take (i := 16) (oi := ⟨some 41, .move (.tmp 3), _, _, _, some (7, false)⟩) (v := i64 kk) rfl (by kernel_rfl) (by kernel_rfl) (by kernel_rfl) (fun _ _ _ h => h) (Or.inl ⟨by kernel_rfl, by intro W hW; go_simp⟩) hHeld ?_
          refine wpAnyH_ready (rs := [15]) (by kernel_rfl) (by simp) ?_
          refine AllReadyH.cons rfl (fun K hK => ?_) AllReadyH.nil
          go_simp
          refine (HAT.out _ (below_on BW0.out HD.out)).mono ?_
          rintro e x15 ⟨rfl, hb⟩
          replace HD := hid (below_on HD.out hb)
          clear hb
          go_wp2_with fail
          refine hK.out _ _ (HSF.out _ HD.out) (fun hHeld => ?_)
          clear hK K
          refine wpAnyH_take (i := 17) (oi := ⟨some 42, .binOp .neq 3 (.tmp 40) (.tmp 41) 3, _, _, _, some (7, false)⟩) (v := .bool true) rfl (by kernel_rfl) (by kernel_rfl) (by kernel_rfl) (fun _ _ _ h => h) (Or.inl ⟨by kernel_rfl, by intro W hW; go_simp⟩) hHeld ?_
          refine wpAnyH_take (i := 18) (oi := ⟨some 43, .pick (.tmp 32) (.const (.bool true)) (.tmp 42), _, _, _, none⟩) (v := .bool true) rfl (by kernel_rfl) (by kernel_rfl) (by kernel_rfl) (fun _ _ _ h => h) (Or.inl ⟨by kernel_rfl, by intro W hW; go_simp⟩) hHeld ?_
          refine wpAnyH_done (by kernel_rfl) ?_ _
          simp only [Act.put, List.setIfInBounds_toArray, List.set_cons_zero, List.set_cons_succ]
          clear hHeld c1
          go_wp2
          go_ret
          refine ⟨?_, below_on BW0.out HD.out⟩
          rw [← HRR.out, okJ_not HXR.out (Or.inr fun e => he (by rw [← HQ.out, ← rc_id, e]; rfl))]
          rfl
    · have hltz : ¬ (kk : Int) < (n : Int) := by omega
      go_wp2
      go_ret
      refine ⟨?_, BW0.out⟩
      rw [← HRR.out, okJ_of h1 h2 (by rw [rcs_len, HN.out]; exact h3) (fun j x hx => A.out j x hx (by have := (List.getElem?_eq_some_iff.1 hx).1; rw [rcs_len, HN.out] at this; omega))]
      rfl
theorem rjcheck_any (s : Int) (v : Value) (l : List Rp) (w : World) (hl : RL w v l) : Calls Tryz.prog 9 #[.agg (jC s v)] w fun e w' => e = .returned (i64 (if okJ ⟨s, rcs l⟩ = true then 0 else 2)) ∧ Below w.heap.size w w' := by
  by_cases h : s < 1 ∨ 1099511627776 < s ∨ 64 < l.length
  · rw [okJ_out (by rw [rcs_len]; exact h)]
    exact rjcheck_out s v l w hl h
  · exact rjcheck_in s v l w hl (by omega) (by omega) (by omega)
#print axioms rjcheck_any
end Go.Proofs.YtcbmimjjpkkoeaaGreatDoor

/- The document's Find, Newest and Remove. -/
namespace Go.Proofs.YtcbmimjjpkkoeaaGreatDoor
open Go Go.RowKit




end Go.Proofs.YtcbmimjjpkkoeaaGreatDoor

/- The document's Add. -/
namespace Go.Proofs.YtcbmimjjpkkoeaaGreatDoor
open Go Go.RowKit

/-- A record ahead of the others: append of a literal of one. -/
theorem Rs.fore {B g : Nat} {W : World} {v : Value} {m : List Rp} {y : Rp} (hc : CAt W g y.r.cs 45) (hy : RpX B W y) (hm : Rs B W v m) (hn : m.length ≤ 100000) (hg : B ≤ g) (hB : B ≤ W.heap.size) :
    ∃ v' W2, (Builtin.append_ #[22, 22] 22 #[.slice (some ⟨g, 0, none⟩) 1 1, v]).run Tryz.prog W = .ok v' W2 ∧ Rs B W2 v' (y :: m) ∧ Only (fun b => b = g) W W2 := by
  have hb1 : RBuf B W (.slice (some ⟨g, 0, none⟩) 1 1) [y] := by
    refine ⟨?_, Or.inr ⟨g, 1, y.r.cs, rfl, hg, hc, Nat.le_refl _, by unfold maxLen; omega, by rw [hy.ok.size], ?_⟩⟩
    · simp [flatR, hy.ok.size]
    · simp [flatR]
      exact List.take_of_length_le (Nat.le_of_eq (sizeR42 hy.ok))
  obtain ⟨v', W2, hr, hbf, hgr⟩ := hb1.app _ m (hm.rl hn) (by simp; omega) hB
  refine ⟨v', W2, hr, ⟨hbf, fun x hx => ?_⟩, Only.of_grown hgr fun k e _ => ?_⟩
  · rcases List.mem_cons.1 hx with rfl | hx
    · exact hy.grown hb1 hgr
    · exact (hm.each x hx).grown hb1 hgr
  · simpa [Value.ownBlock] using e.symm


end Go.Proofs.YtcbmimjjpkkoeaaGreatDoor

/- What over writes over: records in memory of their own, and their parts. -/
namespace Go.Proofs.YtcbmimjjpkkoeaaGreatDoor
open Go Go.RowKit

/-- Parts that may be written: they lie in a block from B on, below H. -/
def Pw (B H : Nat) (w : World) (v : Value) : Prop := ∃ po n c, v = .slice po n c ∧ n ≤ 100000 ∧ (n = 0 ∨ ∃ b o cs, po = some ⟨b, o, none⟩ ∧ CAt w b cs 59 ∧ o + n * 2 ≤ cs.size ∧ B ≤ b ∧ b < H)
theorem PLF.pw {B : Nat} {w : World} {v : Value} {ps : Ps} (h : PLF B w v ps) : Pw B w.heap.size w v := by
  obtain ⟨⟨po, c, h1, h2, h3, h4⟩, hB, hz⟩ := h
  refine ⟨po, ps.length, c, h1, h3, ?_⟩
  rcases h4 with h4 | ⟨b, o, hp, h4⟩
  · left; rw [h4]; rfl
  · by_cases h0 : ps = []
    · left; rw [h0]; rfl
    · right
      obtain ⟨k1, cs, k2⟩ := hB ⟨b, o, none⟩ _ _ (by rw [h1, hp]) h0
      refine ⟨b, o, cs, hp, k2, ?_, k1, k2.lt⟩
      have hl : 0 < ps.length := List.length_pos_iff.2 h0
      have h5 := (h4 (ps.length - 1) (by omega)).2
      rw [k2.cell] at h5
      have := (Array.getElem?_eq_some_iff.1 h5).1
      omega
/-- A block keeps its type and its room. -/
def Shp (w w' : World) : Prop := ∀ b cs t, CAt w b cs t → ∃ ds : Array Value, CAt w' b ds t ∧ ds.size = cs.size
theorem Shp.of_below {w w' : World} (h : Below w.heap.size w w') : Shp w w' := fun _ cs _ hc => ⟨cs, hc.below h, rfl⟩
theorem setAll_len8 (vs : List Value) : ∀ (cs : List Value) (o : Nat), (setAll cs o vs).length = cs.length := by
  induction vs with
  | nil => intro cs o; rfl
  | cons v vs ih => intro cs o; rw [setAll, ih, List.length_set]
theorem Shp.setCells (w : World) (g o : Nat) (vs : List Value) : Shp w (w.setCells g o vs) := fun b cs t hc => by
  by_cases e : b = g
  · subst e
    exact ⟨_, CAt.setCells vs o cs w hc, by rw [List.size_toArray, setAll_len8, Array.length_toList]⟩
  · exact ⟨cs, hc.keep ((only_setCells (S := fun k => k = g) w g o vs rfl).block b hc.lt e), rfl⟩
theorem Pw.shp {B H : Nat} {w w' : World} {v : Value} (h : Pw B H w v) (hs : Shp w w') : Pw B H w' v := by
  obtain ⟨po, n, c, h1, h2, h⟩ := h
  refine ⟨po, n, c, h1, h2, ?_⟩
  rcases h with h | ⟨b, o, cs, hp, hc, hn, hB, hH⟩
  · exact Or.inl h
  · obtain ⟨ds, hd, hds⟩ := hs b cs _ hc
    exact Or.inr ⟨b, o, ds, hp, hd, by omega, hB, hH⟩
theorem Pw.only {B H : Nat} {w w' : World} {v : Value} {S : Nat → Prop} (h : Pw B H w v) (hO : Only S w w') (hS : ∀ i, S i → i < B ∨ H ≤ i) : Pw B H w' v := by
  obtain ⟨po, n, c, h1, h2, h⟩ := h
  refine ⟨po, n, c, h1, h2, ?_⟩
  rcases h with h | ⟨b, o, cs, hp, hc, hn, hB, hH⟩
  · exact Or.inl h
  · exact Or.inr ⟨b, o, cs, hp, hc.keep (hO.block b hc.lt fun e => by have := hS b e; omega), hn, hB, hH⟩
theorem Pw.wide {B B' H H' : Nat} {w : World} {v : Value} (h : Pw B H w v) (hB : B' ≤ B) (hH : H ≤ H') : Pw B' H' w v := by
  obtain ⟨po, n, c, h1, h2, h⟩ := h
  refine ⟨po, n, c, h1, h2, ?_⟩
  rcases h with h | ⟨b, o, cs, hp, hc, hn, k1, k2⟩
  · exact Or.inl h
  · exact Or.inr ⟨b, o, cs, hp, hc, hn, by omega, by omega⟩
theorem Pw.nil (B H : Nat) (w : World) : Pw B H w (.slice none 0 0) := ⟨none, 0, 0, rfl, by omega, Or.inl rfl⟩
/-- The slice v leads to the records l; they and their parts may be written over. -/
def OvL (B H : Nat) (w : World) (v : Value) (l : List Rp) : Prop := ∃ po c, v = .slice po l.length c ∧ l.length ≤ 100000 ∧ (l = [] ∨ ∃ g cs, po = some ⟨g, 0, none⟩ ∧ CAt w g cs 45 ∧ l.length * 42 ≤ cs.size ∧ B ≤ g ∧ g < H ∧ ∀ i x, l[i]? = some x → ∀ j v, x.r.cs[j]? = some v → cs[i * 42 + j]? = some v) ∧ ∀ x ∈ l, x.r.ok ∧ Pw B H w x.r.pv
theorem RBuf.rg {B : Nat} {w : World} {v : Value} {l : List Rp} (h : RBuf B w v l) (hk : ∀ x ∈ l, x.r.ok) : l = [] ∨ ∃ g c cs, v = .slice (some ⟨g, 0, none⟩) l.length c ∧ CAt w g cs 45 ∧ l.length * 42 ≤ cs.size ∧ B ≤ g ∧ ∀ i x, l[i]? = some x → ∀ j v, x.r.cs[j]? = some v → cs[i * 42 + j]? = some v := by
  rcases h.2 with ⟨rfl, h0⟩ | ⟨g, cap, cur, rfl, hB, hg, h1, hm, h3, h4⟩
  · exact Or.inl (List.eq_nil_of_length_eq_zero h0)
  · right
    have hc : CAt w g cur 45 := hg
    have hlen := flatR_len hk
    have htk : l.length * 42 ≤ cur.size := by
      have := congrArg List.length h4
      rw [List.length_take, hlen, Array.length_toList] at this
      omega
    refine ⟨g, cap, cur, rfl, hc, htk, hB, fun i x e j u hu => ?_⟩
    have hi := (List.getElem?_eq_some_iff.1 e).1
    have hj : j < 42 := by
      rcases Nat.lt_or_ge j 42 with q | q
      · exact q
      · rw [Array.getElem?_eq_none (by rw [(hk x (List.mem_of_getElem? e)).size]; exact q)] at hu; cases hu
    have := flatR_get hk e hj
    rw [← h4, List.getElem?_take, if_pos (by omega), Array.getElem?_toList] at this
    rw [this]; exact hu
theorem Rs.ov {B : Nat} {w : World} {v : Value} {l : List Rp} (h : Rs B w v l) (hn : l.length ≤ 100000) : OvL B w.heap.size w v l := by
  obtain ⟨po, c, hv, _⟩ := h.buf.form
  refine ⟨po, c, hv, hn, ?_, fun x hx => ⟨(h.each x hx).ok, (h.each x hx).pl.pw⟩⟩
  rcases h.buf.rg (fun x hx => (h.each x hx).ok) with e | ⟨g, c', cs, e, hc, h1, h2, h3⟩
  · exact Or.inl e
  · rw [hv] at e
    cases e
    exact Or.inr ⟨g, cs, rfl, hc, h1, h2, hc.lt, h3⟩
theorem OvL.only {B H : Nat} {w w' : World} {v : Value} {l : List Rp} {S : Nat → Prop} (h : OvL B H w v l) (hO : Only S w w') (hS : ∀ i, S i → i < B ∨ H ≤ i) : OvL B H w' v l := by
  obtain ⟨po, c, h1, h2, h3, h4⟩ := h
  refine ⟨po, c, h1, h2, ?_, fun x hx => ⟨(h4 x hx).1, (h4 x hx).2.only hO hS⟩⟩
  rcases h3 with h3 | ⟨g, cs, hp, hc, k1, k2, k3, k4⟩
  · exact Or.inl h3
  · exact Or.inr ⟨g, cs, hp, hc.keep (hO.block g hc.lt fun e => by have := hS g e; omega), k1, k2, k3, k4⟩
theorem OvL.below {B H : Nat} {w w' : World} {v : Value} {l : List Rp} (h : OvL B H w v l) (hb : Below w.heap.size w w') : OvL B H w' v l := h.only (S := fun _ => False) (Only.of_below hb) (fun _ e => e.elim)
theorem OvL.nil (B H : Nat) (w : World) : OvL B H w (.slice none 0 0) [] := ⟨none, 0, rfl, by simp, Or.inl rfl, fun x hx => by cases hx⟩
/-- In the midst of over: the records from kk on are as they were. -/
structure Ov (B H g : Nat) (l : List Rp) (kk : Nat) (w W : World) : Prop where
  cur : ∃ cs, CAt W g cs 45 ∧ l.length * 42 ≤ cs.size ∧ ∀ i x, kk ≤ i → l[i]? = some x → ∀ j v, x.r.cs[j]? = some v → cs[i * 42 + j]? = some v
  lo : B ≤ g
  hi : g < H
  parts : ∀ x ∈ l, Pw B H W x.r.pv
  only : Only (fun b => B ≤ b ∧ b < H) w W
theorem Ov.on {B H g : Nat} {l : List Rp} {kk : Nat} {w W W' : World} (h : Ov B H g l kk w W) (hb : Below W.heap.size W W') : Ov B H g l kk w W' := by
  obtain ⟨cs, hc, h1, h2⟩ := h.cur
  exact ⟨⟨cs, hc.below hb, h1, h2⟩, h.lo, h.hi, fun x hx => (h.parts x hx).shp (Shp.of_below hb), h.only.trans (Only.of_below hb)⟩
/-- A part is written over. -/
theorem Ov.part {B H g : Nat} {l : List Rp} {kk : Nat} {w W : World} (h : Ov B H g l kk w W) {b o : Nat} {cs : Array Value} {vs : List Value} (hc : CAt W b cs 59) (hB : B ≤ b) (hH : b < H) : Ov B H g l kk w (W.setCells b o vs) := by
  obtain ⟨ds, hd, h1, h2⟩ := h.cur
  have hO := only_setCells (S := fun k => k = b) W b o vs rfl
  refine ⟨⟨ds, hd.keep (hO.block g hd.lt fun e => ?_), h1, h2⟩, h.lo, h.hi, fun x hx => (h.parts x hx).shp (Shp.setCells W b o vs), h.only.trans (hO.mono fun i e => by subst e; exact ⟨hB, hH⟩)⟩
  exact hd.apart hc (by decide) e
/-- A record is written over. -/
theorem Ov.nextR {B H g : Nat} {l : List Rp} {kk : Nat} {w W : World} (h : Ov B H g l kk w W) {vs : List Value} (hv : vs.length = 42) (hk : kk < l.length) (hok : ∀ x ∈ l, x.r.ok) : W.there g (kk * 42) 42 ∧ Ov B H g l (kk + 1) w (W.setCells g (kk * 42) vs) := by
  obtain ⟨ds, hd, h1, h2⟩ := h.cur
  have hO := only_setCells (S := fun k => k = g) W g (kk * 42) vs rfl
  refine ⟨fun j hj => ⟨?_, hd.free _⟩, ⟨_, CAt.setCells vs (kk * 42) ds W hd, ?_, ?_⟩, h.lo, h.hi, fun x hx => (h.parts x hx).shp (Shp.setCells W g _ vs), h.only.trans (hO.mono fun i e => by subst e; exact ⟨h.lo, h.hi⟩)⟩
  · rw [hd.cell, Array.getElem?_eq_getElem (by omega)]; rfl
  · rw [List.size_toArray, setAll_len8, Array.length_toList]; exact h1
  · intro i x hi hx j v hj
    have hj42 : j < 42 := by
      rcases Nat.lt_or_ge j 42 with q | q
      · exact q
      · rw [Array.getElem?_eq_none (by rw [(hok x (List.mem_of_getElem? hx)).size]; exact q)] at hj; cases hj
    have hlt := (List.getElem?_eq_some_iff.1 hx).1
    have e := h2 i x (by omega) hx j v hj
    rw [List.getElem?_toArray, setAll_splice (by rw [hv, Array.length_toList]; omega), hv]
    have l1 : (ds.toList.take (kk * 42)).length = kk * 42 := by rw [List.length_take, Array.length_toList]; omega
    rw [List.getElem?_append_right (by omega), l1, List.getElem?_append_right (by omega), hv, List.getElem?_drop, Array.getElem?_toList, show kk * 42 + 42 + (i * 42 + j - kk * 42 - 42) = i * 42 + j by omega]
    exact e
/-- The cells of a record that is still as it was. -/
theorem Ov.cell {B H g : Nat} {l : List Rp} {kk : Nat} {w W : World} (h : Ov B H g l kk w W) {x : Rp} (hx : l[kk]? = some x) (j : Nat) (v : Value) (hj : x.r.cs[j]? = some v) : W.cell? ⟨g, kk * 42 + j, none⟩ = some v := by
  obtain ⟨ds, hd, _, h2⟩ := h.cur
  rw [hd.cell]
  exact h2 kk x (Nat.le_refl _) hx j v hj
#print axioms Ov.nextR
#print axioms Rs.ov
end Go.Proofs.YtcbmimjjpkkoeaaGreatDoor
