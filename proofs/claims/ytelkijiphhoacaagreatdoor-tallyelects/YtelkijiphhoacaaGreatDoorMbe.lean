/- Texts laid into one, cut to what is needed: the remark ahead of each part says what is proved there. -/
import Derived.Test.YtelkijiphhoacaaGreatDoorMbd
import Derived.Deep.Cut
import Derived.Test.YtelkijiphhoacaaGreatDoorMba
/- JournalKnown. -/
namespace Go.Proofs.YtelkijiphhoacaaGreatDoor
open Go Go.RowKit

/-- What is carried: journals in variables, bytes of the call's own. -/
structure Kn (w : World) (js : List (Nat × Int × Value)) (bs : List (Value × List Nat)) (W : World) : Prop where
  below : Below w.heap.size w W
  cj : ∀ q ∈ js, CAt W q.1 (jC q.2.1 q.2.2) 27
  cb : ∀ q ∈ bs, Buf w.heap.size W q.1 q.2
theorem Kn.on {w W W' : World} {js : List (Nat × Int × Value)} {bs : List (Value × List Nat)} (h : Kn w js bs W) (hb : Below W.heap.size W W') : Kn w js bs W' := ⟨below_on h.below hb, fun q hq => (h.cj q hq).below hb, fun q hq => (h.cb q hq).below hb⟩
theorem Kn.addJ {w W : World} {js : List (Nat × Int × Value)} {bs : List (Value × List Nat)} (h : Kn w js bs W) {g : Nat} {s : Int} {v : Value} (hc : CAt W g (jC s v) 27) : Kn w ((g, s, v) :: js) bs W := ⟨h.below, fun q hq => by rcases List.mem_cons.1 hq with rfl | hq; exact hc; exact h.cj q hq, h.cb⟩
theorem Buf.set {B : Nat} {w : World} {po : Option Addr} {n c : Nat} {L : List Nat} (h : Buf B w (.slice po n c) L) {i : Nat} (hi : i < L.length) (k : Nat) : ∃ g, po = some ⟨g, 0, none⟩ ∧ B ≤ g ∧ w.cell? ⟨g, i, none⟩ = some (u8 (L.getD i 0)) ∧ w.frozen? ⟨g, i, none⟩ = false ∧ Buf B (w.setCell ⟨g, i, none⟩ (u8 k)) (.slice po n c) (L.set i k) := by
  rcases h.2 with ⟨e, h0⟩ | ⟨g, cap, cur, e, hB, hg, h1, hm, h3, h4⟩
  · omega
  cases e
  have hc : CAt w g cur 5 := hg
  refine ⟨g, rfl, hB, ?_, hc.free _, by simp, Or.inr ⟨g, c, _, by rw [List.length_set], hB, hc.set i (u8 k), by rw [List.length_set]; exact h1, hm, by simp; omega, ?_⟩⟩
  · have := congrArg (·[i]?) h4
    simp [hi] at this
    rw [hc.cell, this]
    simp [u8, List.getD, List.getElem?_eq_getElem hi]
  · rw [Array.toList_setIfInBounds, List.length_set, List.take_set, h4, List.map_set]
end Go.Proofs.YtelkijiphhoacaaGreatDoor

/- JournalBack: what is carried; early ends. -/
namespace Go.Proofs.YtelkijiphhoacaaGreatDoor
open Go Go.RowKit

/-- Two journals in boxes. -/
structure Bk (w : World) (ga gc : Nat) (sa sc : Int) (va vc : Value) (W : World) : Prop where
  below : Below w.heap.size w W
  ca : CAt W ga (jC sa va) 27
  cc : CAt W gc (jC sc vc) 27
theorem Bk.on {w W W' : World} {ga gc : Nat} {sa sc : Int} {va vc : Value} (h : Bk w ga gc sa sc va vc W) (hb : Below W.heap.size W W') : Bk w ga gc sa sc va vc W' := ⟨below_on h.below hb, h.ca.below hb, h.cc.below hb⟩
theorem Buf.room {B : Nat} {w : World} {n c : Nat} {L : List Nat} (h : Buf B w (.slice none n c) L) : c = 0 := by
  rcases h.2 with ⟨e, h0⟩ | ⟨g, cap, cur, e, _⟩
  · cases e; rfl
  · cases e
theorem IsJ.form {w : World} {v : Value} {l : List Rp} (h : IsJ w v l) : ∃ p n c, v = .slice p n c := by obtain ⟨p, c, e, _⟩ := h; exact ⟨p, _, c, e⟩
end Go.Proofs.YtelkijiphhoacaaGreatDoor

/- JournalBack: loading a journal. -/
namespace Go.Proofs.YtelkijiphhoacaaGreatDoor
open Go Go.RowKit

theorem run_loadJ {w : World} {g : Nat} {s : Int} {v : Value} (h : CAt w g (jC s v) 27) : (Instr.loadAt 27 (.pointer (some ⟨g, 0, none⟩))).run Tryz.prog w = .ok (.agg (jC s v)) w := by
  have hl := run_loadVar_row (P := Tryz.prog) w g 27 27 (jC s v) (0, 0) _ h underJrn rfl (by rw [jC_size]; exact sizeJ)
  simp only [Instr.loadAt, Instr.sureAddr, Sem.run_bind, Sem.run_pure, Result.andThen_ok, hl]

end Go.Proofs.YtelkijiphhoacaaGreatDoor

/- The document's Check. -/
namespace Go.Proofs.YtelkijiphhoacaaGreatDoor
open Go Go.RowKit

set_option maxRecDepth 100000 in
theorem rjcheck_out (s : Int) (v : Value) (l : List Rp) (w : World) (hl : RL w v l) (h : s < 1 ∨ 1099511627776 < s ∨ 64 < l.length) : Calls Tryz.prog 34 #[.agg (jC s v)] w fun e w' => e = .returned (i64 2) ∧ Below w.heap.size w w' := by
  obtain ⟨po, c, rfl, _⟩ := hl
  by_cases h1 : s < 1
  · go_enter Tryz.func34, Tryz.ntmps34
    go_wp2_with (((with_reducible refine wpList_boxT 27 rfl _ rfl (jC s (.slice po l.length c)) ?_ ?_); exact rfl; intro w1 g1 hc1 hb1 hg1; have c0 := hc1.j0; have c1 := hc1.j1; have HJ := hid hc1; have HB := hid hb1; clear hb1 hc1))
    go_ret
    exact ⟨rfl, HB.out⟩
  · by_cases h2 : 1099511627776 < s
    · go_enter Tryz.func34, Tryz.ntmps34
      go_wp2_with (((with_reducible refine wpList_boxT 27 rfl _ rfl (jC s (.slice po l.length c)) ?_ ?_); exact rfl; intro w1 g1 hc1 hb1 hg1; have c0 := hc1.j0; have c1 := hc1.j1; have HJ := hid hc1; have HB := hid hb1; clear hb1 hc1))
      go_ret
      exact ⟨rfl, HB.out⟩
    · have h3 : 64 < (l.length : Int) := by omega
      go_enter Tryz.func34, Tryz.ntmps34
      go_wp2_with (((with_reducible refine wpList_boxT 27 rfl _ rfl (jC s (.slice po l.length c)) ?_ ?_); exact rfl; intro w1 g1 hc1 hb1 hg1; have c0 := hc1.j0; have c1 := hc1.j1; have HJ := hid hc1; have HB := hid hb1; clear hb1 hc1))
      go_ret
      exact ⟨rfl, HB.out⟩
set_option maxRecDepth 100000 in
set_option maxHeartbeats 4000000 in
theorem rjcheck_in (s : Int) (v : Value) (l : List Rp) (w : World) (hl : RL w v l) (h1 : 1 ≤ s) (h2 : s ≤ 1099511627776) (h3 : l.length ≤ 64) : Calls Tryz.prog 34 #[.agg (jC s v)] w fun e w' => e = .returned (i64 (if okJ ⟨s, rcs l⟩ = true then 0 else 2)) ∧ Below w.heap.size w w' := by
  have HL := hid hl
  obtain ⟨R, hR⟩ : ∃ R : Int, (if okJ ⟨s, rcs l⟩ = true then (0 : Int) else 2) = R := ⟨_, rfl⟩
  rw [hR]
  have HRR := hid hR
  clear hR
  obtain ⟨po, c, rfl, hc1, hn, _⟩ := hl
  obtain ⟨n, hN⟩ : ∃ n, l.length = n := ⟨_, rfl⟩
  have HN := hid hN
  rw [hN] at h3 hn ⊢
  have h3' : (n : Int) ≤ 64 := by omega
  clear hN hc1
  go_enter Tryz.func34, Tryz.ntmps34
  go_wp2_with (((with_reducible refine wpList_boxT 27 rfl _ rfl (jC s (.slice po n c)) ?_ ?_); exact rfl; intro w1 g1 hc1 hb1 hg1; have c0 := hc1.j0; have c1 := hc1.j1; have HJ := hid hc1; have HB := hid hb1; clear hb1 hc1))
  clear c0 c1
  go_loopg [3] n (fun gg s3 wr => ∃ kk : Nat, kk ≤ n ∧ n - kk ≤ gg ∧ s3 = i64 kk ∧ Hid (Below w1.heap.size w1 wr) ∧ Hid (∀ j x, (rcs l)[j]? = some x → j < kk → okRc x = true ∧ atI (rcs l) x.id = some j))
  case atStart => exact ⟨0, Nat.zero_le _, by omega, rfl, Below.refl _ _, fun j x _ hj => absurd hj (Nat.not_lt_zero _)⟩
  case round =>
    obtain ⟨kk, hkk, hg, rfl, BW, A⟩ := hrel
    have c1 := (HJ.out.below BW.out).j1
    have BW0 := hid (below_on HB.out BW.out)
    by_cases hlt : kk < n
    · have hltz : (kk : Int) < (n : Int) := by omega
      obtain ⟨x, hx⟩ : ∃ x, l[kk]? = some x := ⟨_, List.getElem?_eq_getElem (by have := HN.out; omega)⟩
      obtain ⟨b, o, c', e, _, hcl⟩ := HL.out.where hx
      rw [HN.out] at e
      cases e
      have hxo := HL.out.each x (List.mem_of_getElem? hx)
      have hok := hxo.ok
      have HXR : Hid ((rcs l)[kk]? = some x.rc) := hid (by rw [rcs_get, hx]; rfl)
      obtain ⟨q, hQ⟩ : ∃ q, plI (atI (rcs l) (lst x.r.id)) = q := ⟨_, rfl⟩
      have HAT : Hid (∀ W, Below w.heap.size w W → Calls Tryz.prog 47 #[.agg (jC s (.slice (some ⟨b, o, none⟩) n c)), .string x.r.id] W fun e w' => e = .returned (i64 q) ∧ Below W.heap.size W w') := hid (fun W hW => by have := rat_any s _ l x.r.id W (HL.out.below hW); rw [HN.out, hQ] at this; exact this)
      have HCK : Hid (∀ W, Below w.heap.size w W → Calls Tryz.prog 46 #[.agg x.r.cs] W fun e w' => e = .returned (i64 (if okRc x.rc = true then 0 else 2)) ∧ Below W.heap.size W w') := hid fun W hW => rcheck_any x.r hok x.ps W (hxo.pl.below hW)
      have HSF : Hid (∀ W, Below wr.heap.size wr W → (fun W => W.cell? ⟨g1, 1, none⟩ = some (.slice (some ⟨b, o, none⟩) n c) ∧ (Instr.loadAt 74 (.pointer (some ⟨b, o + kk * 42, none⟩))).run Tryz.prog W = .ok (.agg x.r.cs) W ∧ (Instr.loadAt 27 (.pointer (some ⟨g1, 0, none⟩))).run Tryz.prog W = .ok (.agg (jC s (.slice (some ⟨b, o, none⟩) n c))) W ∧ W.cell? ⟨b, o + kk * 42, none⟩ = some (.string x.r.id)) W) := hid (fun W hW => ⟨(HJ.out.below (below_on BW.out hW)).j1, run_loadM hok ((hcl.below (below_on BW0.out hW)).range hx), run_loadJ (HJ.out.below (below_on BW.out hW)), by have := (hcl.below (below_on BW0.out hW)) kk x hx 0 (.string x.r.id) (by rw [x.r.get8 0 (by omega)]; rfl); exact this⟩)
      have HQ := hid hQ
      clear hxo hcl hx hQ
      cases hq : okRc x.rc with
      | false =>
        rw [hq] at HCK
        simp only [Bool.false_eq_true, if_false] at HCK
        go_upto_region 6 with fail
        refine wp_region_held_drew (S := (fun W => W.cell? ⟨g1, 1, none⟩ = some (.slice (some ⟨b, o, none⟩) n c) ∧ (Instr.loadAt 74 (.pointer (some ⟨b, o + kk * 42, none⟩))).run Tryz.prog W = .ok (.agg x.r.cs) W ∧ (Instr.loadAt 27 (.pointer (some ⟨g1, 0, none⟩))).run Tryz.prog W = .ok (.agg (jC s (.slice (some ⟨b, o, none⟩) n c))) W ∧ W.cell? ⟨b, o + kk * 42, none⟩ = some (.string x.r.id))) (by kernel_rfl) (HSF.out _ (below_drew _)) (fun hHeld => ?_)
        have HD := hid (below_drew wr)
        refine wpAnyH_take (i := 0) (oi := ⟨some 25, .fieldAddr 27 (.tmp 1) 1, _, _, _, none⟩) (v := .pointer (some ⟨g1, 1, none⟩)) rfl (by kernel_rfl) (by kernel_rfl) (by kernel_rfl) (fun _ _ _ h => h) (Or.inl ⟨by kernel_rfl, by intro W hW; go_simp⟩) hHeld ?_
        refine wpAnyH_take (i := 1) (oi := ⟨some 26, .load 25 (.tmp 25), _, _, _, none⟩) (v := .slice (some ⟨b, o, none⟩) n c) rfl (by kernel_rfl) (by kernel_rfl) (by kernel_rfl) (fun _ _ _ h => h) (Or.inl ⟨by kernel_rfl, by intro W hW; have q0 := hW.1; go_simp⟩) hHeld ?_
        refine wpAnyH_take (i := 2) (oi := ⟨some 27, .move (.tmp 3), _, _, _, none⟩) (v := i64 kk) rfl (by kernel_rfl) (by kernel_rfl) (by kernel_rfl) (fun _ _ _ h => h) (Or.inl ⟨by kernel_rfl, by intro W hW; go_simp⟩) hHeld ?_
        refine wpAnyH_take (i := 3) (oi := ⟨some 28, .indexAddr 25 (.tmp 26) (.tmp 27), _, _, _, none⟩) (v := .pointer (some ⟨b, o + kk * 42, none⟩)) rfl (by kernel_rfl) (by kernel_rfl) (by kernel_rfl) (fun _ _ _ h => h) (Or.inl ⟨by kernel_rfl, by intro W hW; go_simp⟩) hHeld ?_
        refine wpAnyH_take (i := 4) (oi := ⟨some 29, .load 74 (.tmp 28), _, _, _, none⟩) (v := .agg x.r.cs) rfl (by kernel_rfl) (by kernel_rfl) (by kernel_rfl) (fun _ _ _ h => h) (Or.inl ⟨by kernel_rfl, fun W hW => exec_load rfl (by kernel_rfl) hW.2.1⟩) hHeld ?_
        refine wpAnyH_ready (rs := [5]) (by kernel_rfl) (by simp) ?_
        refine AllReadyH.cons rfl (fun K hK => ?_) AllReadyH.nil
        go_simp
        refine (HCK.out _ (below_on BW0.out HD.out)).mono ?_
        rintro e x5 ⟨rfl, hb⟩
        replace HD := hid (below_on HD.out hb)
        clear hb
        go_wp2_with fail
        refine hK.out _ _ (HSF.out _ HD.out) (fun hHeld => ?_)
        clear hK K
        refine wpAnyH_take (i := 6) (oi := ⟨some 31, .binOp .neq 32 (.tmp 30) (.const (.int .i64 0)) 32, _, _, _, none⟩) (v := .bool true) rfl (by kernel_rfl) (by kernel_rfl) (by kernel_rfl) (fun _ _ _ h => h) (Or.inl ⟨by kernel_rfl, by intro W hW; go_simp⟩) hHeld ?_
        refine wpAnyH_take (i := 7) (oi := ⟨some 32, .move (.tmp 31), _, _, _, none⟩) (v := .bool true) rfl (by kernel_rfl) (by kernel_rfl) (by kernel_rfl) (fun _ _ _ h => h) (Or.inl ⟨by kernel_rfl, by intro W hW; go_simp⟩) hHeld ?_
        refine wpAnyH_take (i := 8) (oi := ⟨some 33, .load 27 (.tmp 1), _, _, _, some (7, false)⟩) (v := undef) rfl (by kernel_rfl) (by kernel_rfl) (by kernel_rfl) (fun _ _ _ h => h) (Or.inr ⟨by kernel_rfl, rfl⟩) hHeld ?_
        refine wpAnyH_take (i := 9) (oi := ⟨some 34, .fieldAddr 27 (.tmp 1) 1, _, _, _, some (7, false)⟩) (v := undef) rfl (by kernel_rfl) (by kernel_rfl) (by kernel_rfl) (fun _ _ _ h => h) (Or.inr ⟨by kernel_rfl, rfl⟩) hHeld ?_
        refine wpAnyH_take (i := 10) (oi := ⟨some 35, .load 25 (.tmp 34), _, _, _, some (7, false)⟩) (v := undef) rfl (by kernel_rfl) (by kernel_rfl) (by kernel_rfl) (fun _ _ _ h => h) (Or.inr ⟨by kernel_rfl, rfl⟩) hHeld ?_
        refine wpAnyH_take (i := 11) (oi := ⟨some 36, .move (.tmp 3), _, _, _, some (7, false)⟩) (v := undef) rfl (by kernel_rfl) (by kernel_rfl) (by kernel_rfl) (fun _ _ _ h => h) (Or.inr ⟨by kernel_rfl, rfl⟩) hHeld ?_
        refine wpAnyH_take (i := 12) (oi := ⟨some 37, .indexAddr 25 (.tmp 35) (.tmp 36), _, _, _, some (7, false)⟩) (v := undef) rfl (by kernel_rfl) (by kernel_rfl) (by kernel_rfl) (fun _ _ _ h => h) (Or.inr ⟨by kernel_rfl, rfl⟩) hHeld ?_
        refine wpAnyH_take (i := 13) (oi := ⟨some 38, .fieldAddr 74 (.tmp 37) 0, _, _, _, some (7, false)⟩) (v := undef) rfl (by kernel_rfl) (by kernel_rfl) (by kernel_rfl) (fun _ _ _ h => h) (Or.inr ⟨by kernel_rfl, rfl⟩) hHeld ?_
        refine wpAnyH_take (i := 14) (oi := ⟨some 39, .load 9 (.tmp 38), _, _, _, some (7, false)⟩) (v := undef) rfl (by kernel_rfl) (by kernel_rfl) (by kernel_rfl) (fun _ _ _ h => h) (Or.inr ⟨by kernel_rfl, rfl⟩) hHeld ?_
        refine wpAnyH_take (i := 15) (oi := ⟨some 40, .call { callee := .value (.func 47), args := #[.tmp 33, .tmp 39], argTypes := #[27, 9] }, _, _, _, some (7, false)⟩) (v := undef) rfl (by kernel_rfl) (by kernel_rfl) (by kernel_rfl) (fun _ _ _ h => h) (Or.inr ⟨by kernel_rfl, rfl⟩) hHeld ?_
        refine wpAnyH_take (i := 16) (oi := ⟨some 41, .move (.tmp 3), _, _, _, some (7, false)⟩) (v := undef) rfl (by kernel_rfl) (by kernel_rfl) (by kernel_rfl) (fun _ _ _ h => h) (Or.inr ⟨by kernel_rfl, rfl⟩) hHeld ?_
        refine wpAnyH_take (i := 17) (oi := ⟨some 42, .binOp .neq 3 (.tmp 40) (.tmp 41) 3, _, _, _, some (7, false)⟩) (v := undef) rfl (by kernel_rfl) (by kernel_rfl) (by kernel_rfl) (fun _ _ _ h => h) (Or.inr ⟨by kernel_rfl, rfl⟩) hHeld ?_
        refine wpAnyH_take (i := 18) (oi := ⟨some 43, .pick (.tmp 32) (.const (.bool true)) (.tmp 42), _, _, _, none⟩) (v := .bool true) rfl (by kernel_rfl) (by kernel_rfl) (by kernel_rfl) (fun _ _ _ h => h) (Or.inl ⟨by kernel_rfl, by intro W hW; go_simp⟩) hHeld ?_
        refine wpAnyH_done (by kernel_rfl) ?_ _
        simp only [Act.put, List.setIfInBounds_toArray, List.set_cons_zero, List.set_cons_succ]
        clear hHeld c1
        go_wp2
        go_ret
        refine ⟨?_, below_on BW0.out HD.out⟩
        rw [← HRR.out, okJ_not HXR.out (Or.inl hq)]
        rfl
      | true =>
        rw [hq] at HCK
        simp only [if_true] at HCK
        by_cases he : q = (kk : Int)
        · subst he
          go_upto_region 6 with fail
          refine wp_region_held_drew (S := (fun W => W.cell? ⟨g1, 1, none⟩ = some (.slice (some ⟨b, o, none⟩) n c) ∧ (Instr.loadAt 74 (.pointer (some ⟨b, o + kk * 42, none⟩))).run Tryz.prog W = .ok (.agg x.r.cs) W ∧ (Instr.loadAt 27 (.pointer (some ⟨g1, 0, none⟩))).run Tryz.prog W = .ok (.agg (jC s (.slice (some ⟨b, o, none⟩) n c))) W ∧ W.cell? ⟨b, o + kk * 42, none⟩ = some (.string x.r.id))) (by kernel_rfl) (HSF.out _ (below_drew _)) (fun hHeld => ?_)
          have HD := hid (below_drew wr)
          refine wpAnyH_take (i := 0) (oi := ⟨some 25, .fieldAddr 27 (.tmp 1) 1, _, _, _, none⟩) (v := .pointer (some ⟨g1, 1, none⟩)) rfl (by kernel_rfl) (by kernel_rfl) (by kernel_rfl) (fun _ _ _ h => h) (Or.inl ⟨by kernel_rfl, by intro W hW; go_simp⟩) hHeld ?_
          refine wpAnyH_take (i := 1) (oi := ⟨some 26, .load 25 (.tmp 25), _, _, _, none⟩) (v := .slice (some ⟨b, o, none⟩) n c) rfl (by kernel_rfl) (by kernel_rfl) (by kernel_rfl) (fun _ _ _ h => h) (Or.inl ⟨by kernel_rfl, by intro W hW; have q0 := hW.1; go_simp⟩) hHeld ?_
          refine wpAnyH_take (i := 2) (oi := ⟨some 27, .move (.tmp 3), _, _, _, none⟩) (v := i64 kk) rfl (by kernel_rfl) (by kernel_rfl) (by kernel_rfl) (fun _ _ _ h => h) (Or.inl ⟨by kernel_rfl, by intro W hW; go_simp⟩) hHeld ?_
          refine wpAnyH_take (i := 3) (oi := ⟨some 28, .indexAddr 25 (.tmp 26) (.tmp 27), _, _, _, none⟩) (v := .pointer (some ⟨b, o + kk * 42, none⟩)) rfl (by kernel_rfl) (by kernel_rfl) (by kernel_rfl) (fun _ _ _ h => h) (Or.inl ⟨by kernel_rfl, by intro W hW; go_simp⟩) hHeld ?_
          refine wpAnyH_take (i := 4) (oi := ⟨some 29, .load 74 (.tmp 28), _, _, _, none⟩) (v := .agg x.r.cs) rfl (by kernel_rfl) (by kernel_rfl) (by kernel_rfl) (fun _ _ _ h => h) (Or.inl ⟨by kernel_rfl, fun W hW => exec_load rfl (by kernel_rfl) hW.2.1⟩) hHeld ?_
          refine wpAnyH_ready (rs := [5]) (by kernel_rfl) (by simp) ?_
          refine AllReadyH.cons rfl (fun K hK => ?_) AllReadyH.nil
          go_simp
          refine (HCK.out _ (below_on BW0.out HD.out)).mono ?_
          rintro e x5 ⟨rfl, hb⟩
          replace HD := hid (below_on HD.out hb)
          clear hb
          go_wp2_with fail
          refine hK.out _ _ (HSF.out _ HD.out) (fun hHeld => ?_)
          clear hK K
          refine wpAnyH_take (i := 6) (oi := ⟨some 31, .binOp .neq 32 (.tmp 30) (.const (.int .i64 0)) 32, _, _, _, none⟩) (v := .bool false) rfl (by kernel_rfl) (by kernel_rfl) (by kernel_rfl) (fun _ _ _ h => h) (Or.inl ⟨by kernel_rfl, by intro W hW; go_simp⟩) hHeld ?_
          refine wpAnyH_take (i := 7) (oi := ⟨some 32, .move (.tmp 31), _, _, _, none⟩) (v := .bool false) rfl (by kernel_rfl) (by kernel_rfl) (by kernel_rfl) (fun _ _ _ h => h) (Or.inl ⟨by kernel_rfl, by intro W hW; go_simp⟩) hHeld ?_
          refine wpAnyH_take (i := 8) (oi := ⟨some 33, .load 27 (.tmp 1), _, _, _, some (7, false)⟩) (v := .agg (jC s (.slice (some ⟨b, o, none⟩) n c))) rfl (by kernel_rfl) (by kernel_rfl) (by kernel_rfl) (fun _ _ _ h => h) (Or.inl ⟨by kernel_rfl, fun W hW => exec_load rfl (by kernel_rfl) hW.2.2.1⟩) hHeld ?_
          refine wpAnyH_take (i := 9) (oi := ⟨some 34, .fieldAddr 27 (.tmp 1) 1, _, _, _, some (7, false)⟩) (v := .pointer (some ⟨g1, 1, none⟩)) rfl (by kernel_rfl) (by kernel_rfl) (by kernel_rfl) (fun _ _ _ h => h) (Or.inl ⟨by kernel_rfl, by intro W hW; go_simp⟩) hHeld ?_
          refine wpAnyH_take (i := 10) (oi := ⟨some 35, .load 25 (.tmp 34), _, _, _, some (7, false)⟩) (v := .slice (some ⟨b, o, none⟩) n c) rfl (by kernel_rfl) (by kernel_rfl) (by kernel_rfl) (fun _ _ _ h => h) (Or.inl ⟨by kernel_rfl, by intro W hW; have q0 := hW.1; go_simp⟩) hHeld ?_
          refine wpAnyH_take (i := 11) (oi := ⟨some 36, .move (.tmp 3), _, _, _, some (7, false)⟩) (v := i64 kk) rfl (by kernel_rfl) (by kernel_rfl) (by kernel_rfl) (fun _ _ _ h => h) (Or.inl ⟨by kernel_rfl, by intro W hW; go_simp⟩) hHeld ?_
          refine wpAnyH_take (i := 12) (oi := ⟨some 37, .indexAddr 25 (.tmp 35) (.tmp 36), _, _, _, some (7, false)⟩) (v := .pointer (some ⟨b, o + kk * 42, none⟩)) rfl (by kernel_rfl) (by kernel_rfl) (by kernel_rfl) (fun _ _ _ h => h) (Or.inl ⟨by kernel_rfl, by intro W hW; go_simp⟩) hHeld ?_
          refine wpAnyH_take (i := 13) (oi := ⟨some 38, .fieldAddr 74 (.tmp 37) 0, _, _, _, some (7, false)⟩) (v := .pointer (some ⟨b, o + kk * 42, none⟩)) rfl (by kernel_rfl) (by kernel_rfl) (by kernel_rfl) (fun _ _ _ h => h) (Or.inl ⟨by kernel_rfl, by intro W hW; go_simp⟩) hHeld ?_
          refine wpAnyH_take (i := 14) (oi := ⟨some 39, .load 9 (.tmp 38), _, _, _, some (7, false)⟩) (v := .string x.r.id) rfl (by kernel_rfl) (by kernel_rfl) (by kernel_rfl) (fun _ _ _ h => h) (Or.inl ⟨by kernel_rfl, by intro W hW; have q0 := hW.2.2.2; go_simp⟩) hHeld ?_
          refine wpAnyH_take (i := 16) (oi := ⟨some 41, .move (.tmp 3), _, _, _, some (7, false)⟩) (v := i64 kk) rfl (by kernel_rfl) (by kernel_rfl) (by kernel_rfl) (fun _ _ _ h => h) (Or.inl ⟨by kernel_rfl, by intro W hW; go_simp⟩) hHeld ?_
          refine wpAnyH_ready (rs := [15]) (by kernel_rfl) (by simp) ?_
          refine AllReadyH.cons rfl (fun K hK => ?_) AllReadyH.nil
          go_simp
          refine (HAT.out _ (below_on BW0.out HD.out)).mono ?_
          rintro e x15 ⟨rfl, hb⟩
          replace HD := hid (below_on HD.out hb)
          clear hb
          go_wp2_with fail
          refine hK.out _ _ (HSF.out _ HD.out) (fun hHeld => ?_)
          clear hK K
          refine wpAnyH_take (i := 17) (oi := ⟨some 42, .binOp .neq 3 (.tmp 40) (.tmp 41) 3, _, _, _, some (7, false)⟩) (v := .bool false) rfl (by kernel_rfl) (by kernel_rfl) (by kernel_rfl) (fun _ _ _ h => h) (Or.inl ⟨by kernel_rfl, by intro W hW; go_simp⟩) hHeld ?_
          refine wpAnyH_take (i := 18) (oi := ⟨some 43, .pick (.tmp 32) (.const (.bool true)) (.tmp 42), _, _, _, none⟩) (v := .bool false) rfl (by kernel_rfl) (by kernel_rfl) (by kernel_rfl) (fun _ _ _ h => h) (Or.inl ⟨by kernel_rfl, by intro W hW; go_simp⟩) hHeld ?_
          refine wpAnyH_done (by kernel_rfl) ?_ _
          simp only [Act.put, List.setIfInBounds_toArray, List.set_cons_zero, List.set_cons_succ]
          clear hHeld c1
          go_wp2
          go_roundg (n - (kk + 1))
          case measure => omega
          case rel =>
            refine ⟨kk + 1, by omega, by omega, by go_num, below_on BW.out HD.out, (show Hid _ from fun j y hy hj => ?_)⟩
            by_cases e : j = kk
            · subst e
              rw [HXR.out] at hy; cases hy
              refine ⟨hq, ?_⟩
              have := HQ.out
              rw [rc_id]
              cases ha : atI (rcs l) (lst x.r.id) with
              | none => rw [ha] at this; exact absurd this (by show ¬ ((-1 : Int) = _); omega)
              | some i => rw [ha] at this; have h9 : ((i : Nat) : Int) = (j : Int) := this; rw [show i = j by omega]
            · exact A.out j y hy (by omega)
        · have he' : (q == (kk : Int)) = false := beq_eq_false_iff_ne.2 he
          go_upto_region 6 with fail
          refine wp_region_held_drew (S := (fun W => W.cell? ⟨g1, 1, none⟩ = some (.slice (some ⟨b, o, none⟩) n c) ∧ (Instr.loadAt 74 (.pointer (some ⟨b, o + kk * 42, none⟩))).run Tryz.prog W = .ok (.agg x.r.cs) W ∧ (Instr.loadAt 27 (.pointer (some ⟨g1, 0, none⟩))).run Tryz.prog W = .ok (.agg (jC s (.slice (some ⟨b, o, none⟩) n c))) W ∧ W.cell? ⟨b, o + kk * 42, none⟩ = some (.string x.r.id))) (by kernel_rfl) (HSF.out _ (below_drew _)) (fun hHeld => ?_)
          have HD := hid (below_drew wr)
          refine wpAnyH_take (i := 0) (oi := ⟨some 25, .fieldAddr 27 (.tmp 1) 1, _, _, _, none⟩) (v := .pointer (some ⟨g1, 1, none⟩)) rfl (by kernel_rfl) (by kernel_rfl) (by kernel_rfl) (fun _ _ _ h => h) (Or.inl ⟨by kernel_rfl, by intro W hW; go_simp⟩) hHeld ?_
          refine wpAnyH_take (i := 1) (oi := ⟨some 26, .load 25 (.tmp 25), _, _, _, none⟩) (v := .slice (some ⟨b, o, none⟩) n c) rfl (by kernel_rfl) (by kernel_rfl) (by kernel_rfl) (fun _ _ _ h => h) (Or.inl ⟨by kernel_rfl, by intro W hW; have q0 := hW.1; go_simp⟩) hHeld ?_
          refine wpAnyH_take (i := 2) (oi := ⟨some 27, .move (.tmp 3), _, _, _, none⟩) (v := i64 kk) rfl (by kernel_rfl) (by kernel_rfl) (by kernel_rfl) (fun _ _ _ h => h) (Or.inl ⟨by kernel_rfl, by intro W hW; go_simp⟩) hHeld ?_
          refine wpAnyH_take (i := 3) (oi := ⟨some 28, .indexAddr 25 (.tmp 26) (.tmp 27), _, _, _, none⟩) (v := .pointer (some ⟨b, o + kk * 42, none⟩)) rfl (by kernel_rfl) (by kernel_rfl) (by kernel_rfl) (fun _ _ _ h => h) (Or.inl ⟨by kernel_rfl, by intro W hW; go_simp⟩) hHeld ?_
          refine wpAnyH_take (i := 4) (oi := ⟨some 29, .load 74 (.tmp 28), _, _, _, none⟩) (v := .agg x.r.cs) rfl (by kernel_rfl) (by kernel_rfl) (by kernel_rfl) (fun _ _ _ h => h) (Or.inl ⟨by kernel_rfl, fun W hW => exec_load rfl (by kernel_rfl) hW.2.1⟩) hHeld ?_
          refine wpAnyH_ready (rs := [5]) (by kernel_rfl) (by simp) ?_
          refine AllReadyH.cons rfl (fun K hK => ?_) AllReadyH.nil
          go_simp
          refine (HCK.out _ (below_on BW0.out HD.out)).mono ?_
          rintro e x5 ⟨rfl, hb⟩
          replace HD := hid (below_on HD.out hb)
          clear hb
          go_wp2_with fail
          refine hK.out _ _ (HSF.out _ HD.out) (fun hHeld => ?_)
          clear hK K
          refine wpAnyH_take (i := 6) (oi := ⟨some 31, .binOp .neq 32 (.tmp 30) (.const (.int .i64 0)) 32, _, _, _, none⟩) (v := .bool false) rfl (by kernel_rfl) (by kernel_rfl) (by kernel_rfl) (fun _ _ _ h => h) (Or.inl ⟨by kernel_rfl, by intro W hW; go_simp⟩) hHeld ?_
          refine wpAnyH_take (i := 7) (oi := ⟨some 32, .move (.tmp 31), _, _, _, none⟩) (v := .bool false) rfl (by kernel_rfl) (by kernel_rfl) (by kernel_rfl) (fun _ _ _ h => h) (Or.inl ⟨by kernel_rfl, by intro W hW; go_simp⟩) hHeld ?_
          refine wpAnyH_take (i := 8) (oi := ⟨some 33, .load 27 (.tmp 1), _, _, _, some (7, false)⟩) (v := .agg (jC s (.slice (some ⟨b, o, none⟩) n c))) rfl (by kernel_rfl) (by kernel_rfl) (by kernel_rfl) (fun _ _ _ h => h) (Or.inl ⟨by kernel_rfl, fun W hW => exec_load rfl (by kernel_rfl) hW.2.2.1⟩) hHeld ?_
          refine wpAnyH_take (i := 9) (oi := ⟨some 34, .fieldAddr 27 (.tmp 1) 1, _, _, _, some (7, false)⟩) (v := .pointer (some ⟨g1, 1, none⟩)) rfl (by kernel_rfl) (by kernel_rfl) (by kernel_rfl) (fun _ _ _ h => h) (Or.inl ⟨by kernel_rfl, by intro W hW; go_simp⟩) hHeld ?_
          refine wpAnyH_take (i := 10) (oi := ⟨some 35, .load 25 (.tmp 34), _, _, _, some (7, false)⟩) (v := .slice (some ⟨b, o, none⟩) n c) rfl (by kernel_rfl) (by kernel_rfl) (by kernel_rfl) (fun _ _ _ h => h) (Or.inl ⟨by kernel_rfl, by intro W hW; have q0 := hW.1; go_simp⟩) hHeld ?_
          refine wpAnyH_take (i := 11) (oi := ⟨some 36, .move (.tmp 3), _, _, _, some (7, false)⟩) (v := i64 kk) rfl (by kernel_rfl) (by kernel_rfl) (by kernel_rfl) (fun _ _ _ h => h) (Or.inl ⟨by kernel_rfl, by intro W hW; go_simp⟩) hHeld ?_
          refine wpAnyH_take (i := 12) (oi := ⟨some 37, .indexAddr 25 (.tmp 35) (.tmp 36), _, _, _, some (7, false)⟩) (v := .pointer (some ⟨b, o + kk * 42, none⟩)) rfl (by kernel_rfl) (by kernel_rfl) (by kernel_rfl) (fun _ _ _ h => h) (Or.inl ⟨by kernel_rfl, by intro W hW; go_simp⟩) hHeld ?_
          refine wpAnyH_take (i := 13) (oi := ⟨some 38, .fieldAddr 74 (.tmp 37) 0, _, _, _, some (7, false)⟩) (v := .pointer (some ⟨b, o + kk * 42, none⟩)) rfl (by kernel_rfl) (by kernel_rfl) (by kernel_rfl) (fun _ _ _ h => h) (Or.inl ⟨by kernel_rfl, by intro W hW; go_simp⟩) hHeld ?_
          refine wpAnyH_take (i := 14) (oi := ⟨some 39, .load 9 (.tmp 38), _, _, _, some (7, false)⟩) (v := .string x.r.id) rfl (by kernel_rfl) (by kernel_rfl) (by kernel_rfl) (fun _ _ _ h => h) (Or.inl ⟨by kernel_rfl, by intro W hW; have q0 := hW.2.2.2; go_simp⟩) hHeld ?_
          refine wpAnyH_take (i := 16) (oi := ⟨some 41, .move (.tmp 3), _, _, _, some (7, false)⟩) (v := i64 kk) rfl (by kernel_rfl) (by kernel_rfl) (by kernel_rfl) (fun _ _ _ h => h) (Or.inl ⟨by kernel_rfl, by intro W hW; go_simp⟩) hHeld ?_
          refine wpAnyH_ready (rs := [15]) (by kernel_rfl) (by simp) ?_
          refine AllReadyH.cons rfl (fun K hK => ?_) AllReadyH.nil
          go_simp
          refine (HAT.out _ (below_on BW0.out HD.out)).mono ?_
          rintro e x15 ⟨rfl, hb⟩
          replace HD := hid (below_on HD.out hb)
          clear hb
          go_wp2_with fail
          refine hK.out _ _ (HSF.out _ HD.out) (fun hHeld => ?_)
          clear hK K
          refine wpAnyH_take (i := 17) (oi := ⟨some 42, .binOp .neq 3 (.tmp 40) (.tmp 41) 3, _, _, _, some (7, false)⟩) (v := .bool true) rfl (by kernel_rfl) (by kernel_rfl) (by kernel_rfl) (fun _ _ _ h => h) (Or.inl ⟨by kernel_rfl, by intro W hW; go_simp⟩) hHeld ?_
          refine wpAnyH_take (i := 18) (oi := ⟨some 43, .pick (.tmp 32) (.const (.bool true)) (.tmp 42), _, _, _, none⟩) (v := .bool true) rfl (by kernel_rfl) (by kernel_rfl) (by kernel_rfl) (fun _ _ _ h => h) (Or.inl ⟨by kernel_rfl, by intro W hW; go_simp⟩) hHeld ?_
          refine wpAnyH_done (by kernel_rfl) ?_ _
          simp only [Act.put, List.setIfInBounds_toArray, List.set_cons_zero, List.set_cons_succ]
          clear hHeld c1
          go_wp2
          go_ret
          refine ⟨?_, below_on BW0.out HD.out⟩
          rw [← HRR.out, okJ_not HXR.out (Or.inr fun e => he (by rw [← HQ.out, ← rc_id, e]; rfl))]
          rfl
    · have hltz : ¬ (kk : Int) < (n : Int) := by omega
      go_wp2
      go_ret
      refine ⟨?_, BW0.out⟩
      rw [← HRR.out, okJ_of h1 h2 (by rw [rcs_len, HN.out]; exact h3) (fun j x hx => A.out j x hx (by have := (List.getElem?_eq_some_iff.1 hx).1; rw [rcs_len, HN.out] at this; omega))]
      rfl
theorem rjcheck_any (s : Int) (v : Value) (l : List Rp) (w : World) (hl : RL w v l) : Calls Tryz.prog 34 #[.agg (jC s v)] w fun e w' => e = .returned (i64 (if okJ ⟨s, rcs l⟩ = true then 0 else 2)) ∧ Below w.heap.size w w' := by
  by_cases h : s < 1 ∨ 1099511627776 < s ∨ 64 < l.length
  · rw [okJ_out (by rw [rcs_len]; exact h)]
    exact rjcheck_out s v l w hl h
  · exact rjcheck_in s v l w hl (by omega) (by omega) (by omega)
end Go.Proofs.YtelkijiphhoacaaGreatDoor
