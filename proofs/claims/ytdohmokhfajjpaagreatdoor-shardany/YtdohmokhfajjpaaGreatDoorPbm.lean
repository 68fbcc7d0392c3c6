/- Texts laid into one, cut to what is needed: the remark ahead of each part says what is proved there. -/
import Derived.Test.YtdohmokhfajjpaaGreatDoorPbl
/- What becomes of a file: a byte turned, cut, something behind it. (Written by tools/gen_Bd15.py.) -/
namespace Go.Proofs.YtdohmokhfajjpaaGreatDoor
open Go Go.RowKit

theorem own_other15 {B e sz n : Nat} {w w' : World} {v : Value} {xs : List Value} {g : Nat} {C : Array Value} (h : w.ownsRow B e sz v n xs) (hc : CAt w g C 33) (ho : Only (fun b => b = g) w w') (ht : 33 ≠ e := by decide) : w'.ownsRow B e sz v n xs := by
 refine ownsRow_keep h fun b hb => ?_
 rcases h.2 with ⟨e2, _⟩ | ⟨g', cap, cur, e2, _, hg', _⟩
 ·rw [e2] at hb; cases hb
 ·rw [e2] at hb
  cases hb
  have h2 : CAt w g' cur e := hg'
  exact ho.block g' h2.lt (fun k => hc.apart h2 ht k.symm)
theorem copyN {B : Nat} {w : World} {p : Option Addr} {n c : Nat} {X : List Nat} (h : Buf B w (.slice p n c) X) (hn : n = X.length) (hl : X.length ≤ 1000000) : Calls Tryz.prog 6 #[.slice p n c] w fun e w' => ∃ pt ct, e = .returned (.slice pt n ct) ∧ n ≤ ct ∧ Buf w.heap.size w' (.slice pt n ct) X ∧ Below w.heap.size w w' := by
 subst hn
 refine (copyB_any ⟨p, c, rfl, h.bl, h.cap.2⟩ hl (fun n2 c2 e => ?_)).mono fun e w' hq => ?_
 ·cases e
  exact (buf_none h).2
 ·obtain ⟨v', h1, h2, h3⟩ := hq
  obtain ⟨pt, ct, hv⟩ := h2.form
  subst hv
  exact ⟨pt, ct, h1, h2.cap.2, h2, h3⟩
theorem set_lt11 {L : List Nat} (h : ∀ z ∈ L, z < 256) {i y : Nat} (hy : y < 256) : ∀ z ∈ L.set i y, z < 256 := fun z hz => by
 rcases List.mem_or_eq_of_mem_set hz with h1 | rfl
 ·exact h z h1
 ·exact hy
theorem getD_lt11 {L : List Nat} (h : ∀ z ∈ L, z < 256) {i : Nat} (hi : i < L.length) : L.getD i 0 < 256 := by
 have e : L.getD i 0 = L[i] := by simp [List.getD, hi]
 rw [e]; exact h _ (List.getElem_mem hi)
theorem xor_ne {x y : Nat} (hy : y ≠ 0) : x ^^^ y ≠ x := fun h => hy (by
 have h2 := congrArg (fun z => x ^^^ z) h
 simpa [← Nat.xor_assoc] using h2)
theorem set_ne11 {L : List Nat} {i y : Nat} (hi : i < L.length) (hy : y ≠ L.getD i 0) : L ≠ L.set i y := fun e => by
 have h := congrArg (fun q => q.getD i 0) e
 simp only [List.getD, List.getElem?_set_self hi, Option.getD_some] at h
 exact hy h.symm
set_option linter.unusedVariables false in
set_option maxRecDepth 100000 in
set_option maxHeartbeats 8000000 in
theorem befalls_turned {B : Nat} (po : Option Addr) (n c : Nat) (f : Fte) (k : Nat) (b : List Nat) (i : Nat) (w : World) (a0 a1 : Addr) (hE : ∀ W, Only (fun q => (Value.slice po n c).ownBlock = some q) w W → Ers W a0 a1) (hx : Buf B w (.slice po n c) (shF k b i)) (hn : n = (shF k b i).length) (h8 : ∀ z ∈ shF k b i, z < 256) (hl : (shF k b i).length ≤ 4000) (hkb : U.lgt b.length k ≤ 65536)
  (hk3 : f.kd = 3) (hn0 : 0 < n) (hm0 : f.msk ≠ 0) (hm8 : f.msk < 256) : Calls Tryz.prog 7 #[.agg (cC 0 (.slice po n c)), .agg f.cs] w (BfA B (.slice po n c) w k b i) := by
 obtain ⟨kd, at_, mk⟩ := f
 simp only at hk3 hm0 hm8
 subst hk3
 have hp := pkN_lt at_ n (by omega)
 have HPK := hid (fun W => pick_any at_ n W (by omega) (by omega))
 generalize pkN at_ n = p at *
 have HBAD : Hid (∀ v L W, Buf B W v L → (∀ z ∈ L, z < 256) → L.length = (shF k b i).length → shF k b i ≠ L → fgB (shF k b i) L = false → Only (fun q => (Value.slice po n c).ownBlock = some q) w W → BfA B (.slice po n c) w k b i (.returned (.tuple #[.agg (cC 0 v), .int .i64 3])) W) := hid (fun v L W h1 h2 h3 h4 h5 h6 => BfA.bad h1 h2 (by omega) (oke_turned hkb h3.symm h4 h5) h6)
 have HANY : Hid (∀ v L W, Buf B W v L → (∀ z ∈ L, z < 256) → L.length = (shF k b i).length → Only (fun q => (Value.slice po n c).ownBlock = some q) w W → BfA B (.slice po n c) w k b i (.returned (.tuple #[.agg (cC 0 v), .int .i64 0])) W) := hid (fun v L W h1 h2 h3 h6 => BfA.any h1 h2 (by omega) h6)
 generalize BfA B (.slice po n c) w k b i = PP at *
 generalize shF k b i = X at *
 obtain ⟨gx, hgx, hBx, -, -, -⟩ := hx.set (i := p) (by omega) 0
 subst hgx
 have hgw : gx < w.heap.size := (own_ge hx gx rfl).2
 obtain ⟨F, hF⟩ : ∃ F : Array Value, Fte.cs ⟨3, at_, mk⟩ = F := ⟨_, rfl⟩
 have HF0 : Hid (F[0]? = some (.int .i64 3)) := hid (by rw [← hF]; rfl)
 have HF1 : Hid (F[1]? = some (.int .i64 at_)) := hid (by rw [← hF]; rfl)
 have HF2 : Hid (F[2]? = some (.int .u8 (mk : Int))) := hid (by rw [← hF]; rfl)
 rw [hF]
 obtain ⟨x, hxp⟩ : ∃ x, X.getD p 0 = x := ⟨_, rfl⟩
 have hx8 : x < 256 := by rw [← hxp]; exact getD_lt11 h8 (by omega)
 obtain ⟨kk, hkk⟩ : ∃ kk, x ^^^ mk = kk := ⟨_, rfl⟩
 have hk8 : kk < 256 := by rw [← hkk]; exact Nat.xor_lt_two_pow (n := 8) hx8 hm8
 have hxo : bits .xor .u8 ((x : Nat) : Int) ((mk : Nat) : Int) = ((kk : Nat) : Int) := by rw [← hkk]; exact u8_xor_nat x mk hx8 hm8
 have HNE : Hid (X ≠ X.set p kk) := hid (set_ne11 (by omega) (by rw [hxp, ← hkk]; exact xor_ne hm0))
 have HX8 := hid h8
 have HK8 : Hid (∀ z ∈ X.set p kk, z < 256) := hid (set_lt11 h8 hk8)
 have HLX := hid hl
 have HNX := hid hn
 have HX := hid hx
 have HBX := hid hBx
 have HXP := hid hxp
 have HEE := hid hE
 have hmz : ((mk : Int) != 0) = true := by rw [bne_iff_ne]; omega
 have hpn : (p : Int) < (n : Int) := by omega
 have hnz : (0 : Int) < (n : Int) := by omega
 have hpc : (p : Int) < (c : Int) := by have := hx.cap.2; omega
 clear hF hkk hE hx h8 hl hBx hxp hn hkb hm8 hx8 hk8
 have T1 : Hid True := hid trivial
 go_enter Tryz.func7, Tryz.ntmps7
 go_upto_region 10 with (first
  | ((with_reducible refine wpList_boxT 33 rfl _ rfl (cC 0 (.slice (some ⟨gx, 0, none⟩) n c)) ?_ ?_); exact rfl; intro w1 g2 hc1 hb1 hg1; have HC2 := hid hc1; have HG2X := hid (show w.heap.size ≤ g2 by omega); have HB := hid hb1; clear hc1 hb1 hg1)
  | ((with_reducible refine wpList_boxT 37 rfl _ rfl F ?_ ?_); exact rfl; intro w2 g3 hc2 hb2 hg2; have z0 : w2.cell? ⟨g3, 0, none⟩ = some (.int .i64 3) := (by rw [hc2.cell]; exact HF0.out); have z2 : w2.cell? ⟨g3, 2, none⟩ = some (.int .u8 (mk : Int)) := (by rw [hc2.cell]; exact HF2.out); have HC3 := hid hc2; have HG3X := hid (show w.heap.size ≤ g3 by have := HB.out.size; omega); replace HC2 := hid (HC2.out.below hb2); replace HB := hid (below_on HB.out hb2); clear hc2 hb2 hg2)
  | ((with_reducible refine wpList_allocX 33 _ zeroCp rfl rfl ?_); intro w3 g4 hz3 hb3 hg3; replace z0 : w3.cell? ⟨g3, 0, none⟩ = some (.int .i64 3) := (by rw [(HC3.out.below hb3).cell]; exact HF0.out); replace z2 : w3.cell? ⟨g3, 2, none⟩ = some (.int .u8 (mk : Int)) := (by rw [(HC3.out.below hb3).cell]; exact HF2.out); have y1 : w3.cell? ⟨g2, 1, none⟩ = some (.slice (some ⟨gx, 0, none⟩) n c) := (HC2.out.below hb3).c1; have HZ3 := hid hz3; replace HC2 := hid (HC2.out.below hb3); replace HC3 := hid (HC3.out.below hb3); have HG4 := hid (show w.heap.size ≤ g4 by have := HB.out.size; omega); replace HB := hid (below_on HB.out hb3); have HBS := hid HB.out.size; clear hz3 hb3 hg3)
   | (go_at_call 6; refine (copyN (HX.out.below HB.out) HNX.out (by have := HLX.out; omega)).mono ?_; rintro e w5 ⟨pt, ct, rfl, hct, hbt, hb5⟩; have HBT := hid hbt; replace z0 : w5.cell? ⟨g3, 1, none⟩ = some (.int .i64 at_) := (by rw [(HC3.out.below hb5).cell]; exact HF1.out); replace z2 : w5.cell? ⟨g3, 2, none⟩ = some (.int .u8 (mk : Int)) := (by rw [(HC3.out.below hb5).cell]; exact HF2.out); replace y1 : w5.cell? ⟨g2, 1, none⟩ = some (.slice (some ⟨gx, 0, none⟩) n c) := (HC2.out.below hb5).c1; replace HZ3 := hid (HZ3.out.below hb5); replace HC2 := hid (HC2.out.below hb5); replace HC3 := hid (HC3.out.below hb5); replace HB := hid (below_on HB.out hb5); have HW5 := hid HBS.out; clear hbt hb5)
   | (go_at_call 14; refine (HPK.out _).mono ?_; rintro e w6 ⟨rfl, hq⟩; have hq2 := hq.symm; subst hq2))
 have HD := hid (below_drew w5)
 have HBD := hid (below_on HB.out HD.out)
 have HC2D := hid (HC2.out.below HD.out)
 have HC3D := hid (HC3.out.below HD.out)
 have HZ4D := hid (HZ3.out.below HD.out)
 have HBTD := hid (HBT.out.below HD.out)
 have hwt := HW5.out
 have HS0 : Hid ((fun W : World => W.cell? ⟨g2, 1, none⟩ = some (.slice (some ⟨gx, 0, none⟩) n c) ∧ W.cell? ⟨g3, 2, none⟩ = some (.int .u8 (mk : Int))) w5.drew) := hid ⟨HC2D.out.c1, by rw [HC3D.out.cell]; exact HF2.out⟩
 refine wp_region_held_drew (S := (fun W : World => W.cell? ⟨g2, 1, none⟩ = some (.slice (some ⟨gx, 0, none⟩) n c) ∧ W.cell? ⟨g3, 2, none⟩ = some (.int .u8 (mk : Int)))) (by kernel_rfl) HS0.out (fun hHeld => ?_)
 clear y1 z0 z2 HC2 HC3 HZ3 HBT HB HW5
 generalize w5.drew = wd at *
 obtain ⟨gx', hgx', hBx', cx, fx, hset⟩ := (HX.out.below HBD.out).set (i := p) (by have := HNX.out; omega) kk
 cases hgx'
 rw [HXP.out] at cx
 replace cx : wd.cell? ⟨gx, p, none⟩ = some (.int .u8 (x : Int)) := cx
 have HSET := hid hset
 clear hset
 refine wpAnyH_take (i := 0) (oi := ⟨some 36, .fieldAddr 33 (.tmp 2) 1, _, _, _, none⟩) (v := .pointer (some ⟨g2, 1, none⟩)) rfl (by kernel_rfl) (by kernel_rfl) (by kernel_rfl) (fun _ _ _ h => h) (Or.inl ⟨by kernel_rfl, by intro W hW; obtain ⟨q0, q1⟩ := hW; go_simp⟩) hHeld ?_
 refine wpAnyH_take (i := 1) (oi := ⟨some 37, .load 22 (.tmp 36), _, _, _, none⟩) (v := .slice (some ⟨gx, 0, none⟩) n c) rfl (by kernel_rfl) (by kernel_rfl) (by kernel_rfl) (fun _ _ _ h => h) (Or.inl ⟨by kernel_rfl, by intro W hW; obtain ⟨q0, q1⟩ := hW; go_simp⟩) hHeld ?_
 refine wpAnyH_take (i := 2) (oi := ⟨some 38, .move (.tmp 7), _, _, _, none⟩) (v := .int .i64 (p : Int)) rfl (by kernel_rfl) (by kernel_rfl) (by kernel_rfl) (fun _ _ _ h => h) (Or.inl ⟨by kernel_rfl, by intro W hW; obtain ⟨q0, q1⟩ := hW; go_simp⟩) hHeld ?_
 refine wpAnyH_take (i := 3) (oi := ⟨some 39, .fieldAddr 33 (.tmp 2) 1, _, _, _, none⟩) (v := .pointer (some ⟨g2, 1, none⟩)) rfl (by kernel_rfl) (by kernel_rfl) (by kernel_rfl) (fun _ _ _ h => h) (Or.inl ⟨by kernel_rfl, by intro W hW; obtain ⟨q0, q1⟩ := hW; go_simp⟩) hHeld ?_
 refine wpAnyH_take (i := 4) (oi := ⟨some 40, .load 22 (.tmp 39), _, _, _, none⟩) (v := .slice (some ⟨gx, 0, none⟩) n c) rfl (by kernel_rfl) (by kernel_rfl) (by kernel_rfl) (fun _ _ _ h => h) (Or.inl ⟨by kernel_rfl, by intro W hW; obtain ⟨q0, q1⟩ := hW; go_simp⟩) hHeld ?_
 refine wpAnyH_take (i := 5) (oi := ⟨some 41, .move (.tmp 7), _, _, _, none⟩) (v := .int .i64 (p : Int)) rfl (by kernel_rfl) (by kernel_rfl) (by kernel_rfl) (fun _ _ _ h => h) (Or.inl ⟨by kernel_rfl, by intro W hW; obtain ⟨q0, q1⟩ := hW; go_simp⟩) hHeld ?_
 refine wpAnyH_take (i := 6) (oi := ⟨some 42, .indexAddr 22 (.tmp 40) (.tmp 41), _, _, _, none⟩) (v := .pointer (some ⟨gx, p, none⟩)) rfl (by kernel_rfl) (by kernel_rfl) (by kernel_rfl) (fun _ _ _ h => h) (Or.inl ⟨by kernel_rfl, by intro W hW; obtain ⟨q0, q1⟩ := hW; go_simp⟩) hHeld ?_
 refine wpAnyH_take (i := 8) (oi := ⟨some 44, .fieldAddr 37 (.tmp 3) 2, _, _, _, none⟩) (v := .pointer (some ⟨g3, 2, none⟩)) rfl (by kernel_rfl) (by kernel_rfl) (by kernel_rfl) (fun _ _ _ h => h) (Or.inl ⟨by kernel_rfl, by intro W hW; obtain ⟨q0, q1⟩ := hW; go_simp⟩) hHeld ?_
 refine wpAnyH_take (i := 9) (oi := ⟨some 45, .load 5 (.tmp 44), _, _, _, none⟩) (v := .int .u8 (mk : Int)) rfl (by kernel_rfl) (by kernel_rfl) (by kernel_rfl) (fun _ _ _ h => h) (Or.inl ⟨by kernel_rfl, by intro W hW; obtain ⟨q0, q1⟩ := hW; go_simp⟩) hHeld ?_
 refine wpAnyH_ready (rs := [7]) (by kernel_rfl) (by simp) ?_
 refine AllReadyH.cons (o := ⟨some 43, .load 5 (.tmp 42), 5, _, _, none⟩) rfl (fun K hK => ?_) AllReadyH.nil
 with_reducible refine step_run_val ?_ (.int .u8 (x : Int)) wd ?_ ?_
 ·exact rfl
 ·go_simp
 refine hK.out _ _ HS0.out (fun hHeld => ?_)
 clear hK K
 refine wpAnyH_take (i := 10) (oi := ⟨some 46, .binOp .xor 5 (.tmp 43) (.tmp 45) 5, _, _, _, none⟩) (v := .int .u8 (kk : Int)) rfl (by kernel_rfl) (by kernel_rfl) (by kernel_rfl) (fun _ _ _ h => h) (Or.inl ⟨by kernel_rfl, by intro W hW; obtain ⟨q0, q1⟩ := hW; go_simp⟩) hHeld ?_
 refine wpAnyH_take (i := 11) (oi := ⟨some 47, .indexAddr 22 (.tmp 37) (.tmp 38), _, _, _, none⟩) (v := .pointer (some ⟨gx, p, none⟩)) rfl (by kernel_rfl) (by kernel_rfl) (by kernel_rfl) (fun _ _ _ h => h) (Or.inl ⟨by kernel_rfl, by intro W hW; obtain ⟨q0, q1⟩ := hW; go_simp⟩) hHeld ?_
 refine wpAnyH_ready (rs := [12]) (by kernel_rfl) (by simp) ?_
 refine AllReadyH.cons rfl (fun K hK => ?_) AllReadyH.nil
 with_reducible refine step_storeG 5 ?_ ?_ (.tmp 47) (.tmp 46) ?_ gx p ?_ (.int .u8 (kk : Int)) ?_ ?_ ?_ ?_ cx fx ?_
 ·exact rfl
 ·exact rfl
 ·exact rfl
 ·kernel_rfl
 ·kernel_rfl
 ·exact rfl
 ·kernel_rfl
 ·exact rfl
 have ho : Only (fun q => q = gx) wd (wd.setCell ⟨gx, p, none⟩ (.int .u8 (kk : Int))) := Only.set (S := fun q => q = gx) _ ⟨gx, p, none⟩ _ rfl
 have HFR : Hid (Only (fun q => (Value.slice (some ⟨gx, 0, none⟩) n c).ownBlock = some q) w (wd.setCell ⟨gx, p, none⟩ (.int .u8 (kk : Int)))) := hid ((Only.of_below HBD.out).trans (ho.mono fun q e => by have e9 : q = gx := e; rw [e9]; rfl))
 have hg2x : g2 ≠ gx := by have := HG2X.out; omega
 have hg3x : g3 ≠ gx := by have := HG3X.out; omega
 have hg4x : g4 ≠ gx := by have := HG4.out; omega
 have HC2E := hid (HC2D.out.keep (ho.block g2 HC2D.out.lt hg2x))
 have HC3E := hid (HC3D.out.keep (ho.block g3 HC3D.out.lt hg3x))
 have HZ4E := hid (HZ4D.out.keep (ho.block g4 HZ4D.out.lt hg4x))
 have HBTE : Hid (Buf w.heap.size (wd.setCell ⟨gx, p, none⟩ (.int .u8 (kk : Int))) (.slice pt n ct) X) := hid (ownsRow_setCell_below (own_base HBTD.out hwt) (by show gx < w.heap.size; exact hgw) _)
 have HEN := hid (HEE.out _ HFR.out)
 have HXN : Hid (Buf B (wd.setCell ⟨gx, p, none⟩ (.int .u8 (kk : Int))) (.slice (some ⟨gx, 0, none⟩) n c) (X.set p kk)) := HSET
 refine hK.out _ _ ⟨HC2E.out.c1, by rw [HC3E.out.cell]; exact HF2.out⟩ (fun _ => ?_)
 clear hK K hHeld
 refine wpAnyH_done (by kernel_rfl) ?_ _
 (try simp only [Act.put, List.setIfInBounds_toArray, List.set_cons_zero, List.set_cons_succ])
 clear cx fx HC2D HC3D HZ4D HBTD HSET HS0 HD HBD ho
 generalize wd.setCell ⟨gx, p, none⟩ (.int .u8 (kk : Int)) = ws at *
 have y1 : ws.cell? ⟨g2, 1, none⟩ = some (.slice (some ⟨gx, 0, none⟩) n c) := HC2E.out.c1
 have HFG := hid (forged_any pt (some ⟨gx, 0, none⟩) ct c X (X.set p kk) ws a0 a1 HEN.out HBTE.out.bl HXN.out.bl (by rw [List.length_set]) (by rw [List.length_set]; have := HLX.out; omega) (by rw [List.length_set, ← HNX.out]; exact hct) (by rw [List.length_set, ← HNX.out]; exact HXN.out.cap.2) (fun e => by cases e) HX8.out HK8.out)
 rw [List.length_set, ← HNX.out] at HFG
 obtain ⟨fb, hfb⟩ : ∃ fb, fgB X (X.set p kk) = fb := ⟨_, rfl⟩
 rw [hfb] at HFG
 have hlen : (X.set p kk).length = X.length := List.length_set
 cases fb with
 | true =>
  have HEND : Hid (∀ W, Only (fun q => q = g4) ws W → True) := hid (fun W h => trivial)
  go_wp2_with (first
   | (go_at_call 19; refine HFG.out.mono ?_; rintro e w9 ⟨rfl, hb9⟩; have HC2F := hid (HC2E.out.below hb9); have HZ4F := hid (HZ4E.out.below hb9); have HXF := hid (HXN.out.below hb9); have HFRF := hid (HFR.out.then (Only.of_below (S := fun _ => False) hb9) (fun q _ e => e.elim)); clear hb9)
   | ((with_reducible refine wpList_load_at 33 _ rfl ?_ g2 0 ?_ (cC 0 (.slice (some ⟨gx, 0, none⟩) n c)) _ ?_ underCp rfl ?_ ?_); exact rfl; exact rfl; exact HC2F.out.whole; exact sizeCp)
   | ((with_reducible refine wpList_storeX 33 2 sizeCp rfl rfl _ _ rfl g4 ?_ (D := cC 0 (.slice (some ⟨gx, 0, none⟩) n c)) ?_ ?_ ?_ ?_ HZ4F.out ?_); exact rfl; exact rfl; exact rfl; exact rfl; exact cC_one _ _ _ _; intro w10 h10 o10; have HC10 := hid h10; have HO10 := hid o10; clear h10 o10))
  refine ret_rowC2 rfl g4 rfl rfl rfl HC10.out ?_
  exact HANY.out _ _ _ (own_other15 HXF.out HZ4F.out HO10.out) HK8.out hlen (HFRF.out.then HO10.out (fun q h e => by have e9 : q = g4 := e; have := HG4.out; omega))
 | false =>
  go_wp2_with (first
   | (go_at_call 19; refine HFG.out.mono ?_; rintro e w9 ⟨rfl, hb9⟩; have HC2F := hid (HC2E.out.below hb9); have HZ4F := hid (HZ4E.out.below hb9); have HXF := hid (HXN.out.below hb9); have HFRF := hid (HFR.out.then (Only.of_below (S := fun _ => False) hb9) (fun q _ e => e.elim)); clear hb9)
   | ((with_reducible refine wpList_load_at 33 _ rfl ?_ g2 0 ?_ (cC 0 (.slice (some ⟨gx, 0, none⟩) n c)) _ ?_ underCp rfl ?_ ?_); exact rfl; exact rfl; exact HC2F.out.whole; exact sizeCp)
   | ((with_reducible refine wpList_storeX 33 2 sizeCp rfl rfl _ _ rfl g4 ?_ (D := cC 0 (.slice (some ⟨gx, 0, none⟩) n c)) ?_ ?_ ?_ ?_ HZ4F.out ?_); exact rfl; exact rfl; exact rfl; exact rfl; exact cC_one _ _ _ _; intro w10 h10 o10; have HC10 := hid h10; have HO10 := hid o10; clear h10 o10))
  refine ret_rowC2 rfl g4 rfl rfl rfl HC10.out ?_
  exact HBAD.out _ _ _ (own_other15 HXF.out HZ4F.out HO10.out) HK8.out hlen HNE.out hfb (HFRF.out.then HO10.out (fun q h e => by have e9 : q = g4 := e; have := HG4.out; omega))
end Go.Proofs.YtdohmokhfajjpaaGreatDoor

/- What becomes of a file: it is cut, or something stands behind it. (Written by tools/gen_Bd15.py.) -/
namespace Go.Proofs.YtdohmokhfajjpaaGreatDoor
open Go Go.RowKit

theorem Buf.take11 {B : Nat} {w : World} {po : Option Addr} {n c : Nat} {L : List Nat} (h : Buf B w (.slice po n c) L) {p : Nat} (hp : p ≤ n) : Buf B w (.slice po p c) (L.take p) := by
 have hn : n = L.length := by obtain ⟨_, _, e⟩ := h.form; cases e; rfl
 subst hn
 rcases h.2 with ⟨e, h0⟩ | ⟨g, cap, cur, e, hB, hg, h1, hm, h3, h4⟩
 ·simp only [Value.slice.injEq] at e
  obtain ⟨rfl, e1, rfl⟩ := e
  have e0 : p = 0 := by omega
  subst e0
  exact Buf.nil _ _
 ·cases e
  refine ⟨by simp, Or.inr ⟨g, c, cur, by rw [List.length_take, Nat.min_eq_left hp], hB, hg, by rw [List.length_take]; omega, hm, h3, ?_⟩⟩
  have h5 := congrArg (fun q => q.take p) h4
  simp only [List.take_take, ← List.map_take] at h5
  rw [List.length_take, Nat.min_eq_left hp, ← h5]
  congr 1
  omega
set_option linter.unusedVariables false in
set_option maxRecDepth 100000 in
set_option maxHeartbeats 8000000 in
theorem befalls_cut {B : Nat} (po : Option Addr) (n c : Nat) (f : Fte) (k : Nat) (b : List Nat) (i : Nat) (w : World) (hx : Buf B w (.slice po n c) (shF k b i)) (hn : n = (shF k b i).length) (h8 : ∀ z ∈ shF k b i, z < 256) (hl : (shF k b i).length ≤ 4000) (hkb : U.lgt b.length k ≤ 65536)
  (hk4 : f.kd = 4) (hn0 : 0 < n) : Calls Tryz.prog 7 #[.agg (cC 0 (.slice po n c)), .agg f.cs] w (BfA B (.slice po n c) w k b i) := by
 obtain ⟨kd, at_, mk⟩ := f
 simp only at hk4
 subst hk4
 have hp := pkN_lt at_ n (by omega)
 have HPK := hid (fun W => pick_any at_ n W (by omega) (by omega))
 generalize pkN at_ n = p at *
 obtain ⟨gx, hgx, hBx, -, -, -⟩ := hx.set (i := 0) (by omega) 0
 subst hgx
 have hgw : gx < w.heap.size := (own_ge hx gx rfl).2
 have HBAD : Hid (∀ v W, Buf B W v ((shF k b i).take p) → Only (fun q => (Value.slice (some ⟨gx, 0, none⟩) n c).ownBlock = some q) w W → BfA B (.slice (some ⟨gx, 0, none⟩) n c) w k b i (.returned (.tuple #[.agg (cC 0 v), .int .i64 3])) W) := hid (fun v W h1 h2 => BfA.bad h1 (fun z hz => h8 z (List.mem_of_mem_take hz)) (by rw [List.length_take]; omega) (oke_size hkb (by rw [List.length_take]; omega)) h2)
 generalize BfA B (.slice (some ⟨gx, 0, none⟩) n c) w k b i = PP at *
 have HXT := hid (fun W (hb : Below w.heap.size w W) => (hx.below hb).take11 (p := p) (by omega))
 generalize shF k b i = X at *
 obtain ⟨F, hF⟩ : ∃ F : Array Value, Fte.cs ⟨4, at_, mk⟩ = F := ⟨_, rfl⟩
 have HF0 : Hid (F[0]? = some (.int .i64 4)) := hid (by rw [← hF]; rfl)
 have HF1 : Hid (F[1]? = some (.int .i64 at_)) := hid (by rw [← hF]; rfl)
 have HF2 : Hid (F[2]? = some (.int .u8 (mk : Int))) := hid (by rw [← hF]; rfl)
 rw [hF]
 have hsl := run_head8n (some ⟨gx, 0, none⟩) n c p (by have := hx.cap.2; omega)
 have hnz : (0 : Int) < (n : Int) := by omega
 clear hF hx h8 hl hBx hn hkb
 go_enter Tryz.func7, Tryz.ntmps7
 go_upto_region 16 with (first
  | ((with_reducible refine wpList_boxT 33 rfl _ rfl (cC 0 (.slice (some ⟨gx, 0, none⟩) n c)) ?_ ?_); exact rfl; intro w1 g2 hc1 hb1 hg1; have HC2 := hid hc1; have HG2X := hid (show w.heap.size ≤ g2 by omega); have HB := hid hb1; clear hc1 hb1 hg1)
  | ((with_reducible refine wpList_boxT 37 rfl _ rfl F ?_ ?_); exact rfl; intro w2 g3 hc2 hb2 hg2; have z0 : w2.cell? ⟨g3, 0, none⟩ = some (.int .i64 4) := (by rw [hc2.cell]; exact HF0.out); have z2 : w2.cell? ⟨g3, 2, none⟩ = some (.int .u8 (mk : Int)) := (by rw [hc2.cell]; exact HF2.out); have HC3 := hid hc2; have HG23 := hid (show g2 < g3 by have := HC2.out.lt; omega); have HG3X := hid (show w.heap.size ≤ g3 by have := HB.out.size; omega); replace HC2 := hid (HC2.out.below hb2); replace HB := hid (below_on HB.out hb2); clear hc2 hb2 hg2)
  | ((with_reducible refine wpList_allocX 33 _ zeroCp rfl rfl ?_); intro w3 g4 hz3 hb3 hg3; have HG42 := hid (show g4 ≠ g2 by have := HC2.out.lt; omega); replace z0 : w3.cell? ⟨g3, 0, none⟩ = some (.int .i64 4) := (by rw [(HC3.out.below hb3).cell]; exact HF0.out); replace z2 : w3.cell? ⟨g3, 2, none⟩ = some (.int .u8 (mk : Int)) := (by rw [(HC3.out.below hb3).cell]; exact HF2.out); have y1 : w3.cell? ⟨g2, 1, none⟩ = some (.slice (some ⟨gx, 0, none⟩) n c) := (HC2.out.below hb3).c1; have HZ3 := hid hz3; replace HC2 := hid (HC2.out.below hb3); replace HC3 := hid (HC3.out.below hb3); have HG4 := hid (show w.heap.size ≤ g4 by have := HB.out.size; omega); have HG32 := hid (show g3 ≠ g2 by have := HG23.out; omega); replace HB := hid (below_on HB.out hb3); have HBS := hid HB.out.size; clear hz3 hb3 hg3))
 have HD := hid (below_drew w3)
 have HBD := hid (below_on HB.out HD.out)
 have HC2D := hid (HC2.out.below HD.out)
 have HC3D := hid (HC3.out.below HD.out)
 have HZ4D := hid (HZ3.out.below HD.out)
 have HS0 : Hid ((fun W : World => W.cell? ⟨g3, 1, none⟩ = some (.int .i64 at_)) w3.drew) := hid (by show w3.drew.cell? ⟨g3, 1, none⟩ = _; rw [HC3D.out.cell]; exact HF1.out)
 refine wp_region_held_drew (S := (fun W : World => W.cell? ⟨g3, 1, none⟩ = some (.int .i64 at_))) (by kernel_rfl) HS0.out (fun hHeld => ?_)
 clear y1 z0 z2 HC2 HC3 HZ3 HB
 generalize w3.drew = wd at *
 have y1 : wd.cell? ⟨g2, 1, none⟩ = some (.slice (some ⟨gx, 0, none⟩) n c) := HC2D.out.c1
 have fx : wd.frozen? ⟨g2, 1, none⟩ = false := HC2D.out.free 1
 have ho : Only (fun q => q = g2) wd (wd.setCell ⟨g2, 1, none⟩ (.slice (some ⟨gx, 0, none⟩) p c)) := Only.set (S := fun q => q = g2) _ ⟨g2, 1, none⟩ _ rfl
 have HFR : Hid (Only (fun q => (Value.slice (some ⟨gx, 0, none⟩) n c).ownBlock = some q) w (wd.setCell ⟨g2, 1, none⟩ (.slice (some ⟨gx, 0, none⟩) p c))) := hid ((Only.of_below HBD.out).then ho (fun q h e => by have e9 : q = g2 := e; have := HG2X.out; omega))
 have HC2E : Hid (CAt (wd.setCell ⟨g2, 1, none⟩ (.slice (some ⟨gx, 0, none⟩) p c)) g2 (cC 0 (.slice (some ⟨gx, 0, none⟩) p c)) 33) := hid (HC2D.out.set 1 (.slice (some ⟨gx, 0, none⟩) p c))
 have HZ4E := hid (HZ4D.out.keep (ho.block g4 HZ4D.out.lt (by have := HG42.out; omega)))
 have HS1 : Hid ((fun W : World => W.cell? ⟨g3, 1, none⟩ = some (.int .i64 at_)) (wd.setCell ⟨g2, 1, none⟩ (.slice (some ⟨gx, 0, none⟩) p c))) := hid (by show World.cell? _ _ = _; rw [(HC3D.out.keep (ho.block g3 HC3D.out.lt (by have := HG32.out; omega))).cell]; exact HF1.out)
 have HXE : Hid (Buf B (wd.setCell ⟨g2, 1, none⟩ (.slice (some ⟨gx, 0, none⟩) p c)) (.slice (some ⟨gx, 0, none⟩) p c) (X.take p)) := hid (own_other15 (HXT.out _ HBD.out) HC2D.out ho)
 clear HC3D HZ4D HD HBD ho HXT HC2D
 refine wpAnyH_take (i := 0) (oi := ⟨some 60, .fieldAddr 33 (.tmp 2) 1, _, _, _, none⟩) (v := .pointer (some ⟨g2, 1, none⟩)) rfl (by kernel_rfl) (by kernel_rfl) (by kernel_rfl) (fun _ _ _ h => h) (Or.inl ⟨by kernel_rfl, by intro W hW; have q0 := hW; go_simp⟩) hHeld ?_
 refine wpAnyH_take (i := 2) (oi := ⟨some 62, .fieldAddr 37 (.tmp 3) 1, _, _, _, none⟩) (v := .pointer (some ⟨g3, 1, none⟩)) rfl (by kernel_rfl) (by kernel_rfl) (by kernel_rfl) (fun _ _ _ h => h) (Or.inl ⟨by kernel_rfl, by intro W hW; have q0 := hW; go_simp⟩) hHeld ?_
 refine wpAnyH_take (i := 3) (oi := ⟨some 63, .load 3 (.tmp 62), _, _, _, none⟩) (v := .int .i64 at_) rfl (by kernel_rfl) (by kernel_rfl) (by kernel_rfl) (fun _ _ _ h => h) (Or.inl ⟨by kernel_rfl, by intro W hW; have q0 := hW; go_simp⟩) hHeld ?_
 refine wpAnyH_take (i := 4) (oi := ⟨some 64, .fieldAddr 33 (.tmp 2) 1, _, _, _, none⟩) (v := .pointer (some ⟨g2, 1, none⟩)) rfl (by kernel_rfl) (by kernel_rfl) (by kernel_rfl) (fun _ _ _ h => h) (Or.inl ⟨by kernel_rfl, by intro W hW; have q0 := hW; go_simp⟩) hHeld ?_
 refine wpAnyH_ready (rs := [1, 5]) (by kernel_rfl) (by simp) ?_
 refine AllReadyH.cons (o := ⟨some 61, .load 22 (.tmp 60), 22, _, _, none⟩) rfl (fun K hK => ?_) (AllReadyH.cons (o := ⟨some 65, .load 22 (.tmp 64), 22, _, _, none⟩) rfl (fun K hK => ?_) AllReadyH.nil)
 ·with_reducible refine step_run_val ?_ (.slice (some ⟨gx, 0, none⟩) n c) wd ?_ ?_
  ·exact rfl
  ·go_simp
  refine hK.out _ _ HS0.out (fun hHeld => ?_)
  clear hK K
  refine wpAnyH_ready (rs := [5]) (by kernel_rfl) (by simp) ?_
  refine AllReadyH.cons (o := ⟨some 65, .load 22 (.tmp 64), 22, _, _, none⟩) rfl (fun K hK => ?_) AllReadyH.nil
  with_reducible refine step_run_val ?_ (.slice (some ⟨gx, 0, none⟩) n c) wd ?_ ?_
  ·exact rfl
  ·go_simp
  refine hK.out _ _ HS0.out (fun hHeld => ?_)
  clear hK K
  refine wpAnyH_take (i := 6) (oi := ⟨some 66, .call { callee := .builtin .len, args := #[.tmp 65], argTypes := #[22] }, _, _, _, none⟩) (v := .int .i64 (n : Int)) rfl (by kernel_rfl) (by kernel_rfl) (by kernel_rfl) (fun _ _ _ h => h) (Or.inl ⟨by kernel_rfl, by intro W hW; have q0 := hW; go_simp⟩) hHeld ?_
  refine wpAnyH_ready (rs := [7]) (by kernel_rfl) (by simp) ?_
  refine AllReadyH.cons rfl (fun K hK => ?_) AllReadyH.nil
  go_simp
  refine (HPK.out _).mono ?_
  rintro e w9 ⟨rfl, hq⟩
  have hq2 := hq.symm
  subst hq2
  go_wp2_with fail
  refine hK.out _ _ HS0.out (fun hHeld => ?_)
  clear hK K
  refine wpAnyH_take (i := 8) (oi := ⟨some 68, .slice 22 (.tmp 61) none (some (.tmp 67)) none, _, _, _, none⟩) (v := .slice (some ⟨gx, 0, none⟩) p c) rfl (by kernel_rfl) (by kernel_rfl) (by kernel_rfl) (fun _ _ _ h => h) (Or.inl ⟨by kernel_rfl, by intro W hW; have q0 := hW; go_simp⟩) hHeld ?_
  refine wpAnyH_take (i := 9) (oi := ⟨some 69, .fieldAddr 33 (.tmp 2) 1, _, _, _, none⟩) (v := .pointer (some ⟨g2, 1, none⟩)) rfl (by kernel_rfl) (by kernel_rfl) (by kernel_rfl) (fun _ _ _ h => h) (Or.inl ⟨by kernel_rfl, by intro W hW; have q0 := hW; go_simp⟩) hHeld ?_
  refine wpAnyH_ready (rs := [10]) (by kernel_rfl) (by simp) ?_
  refine AllReadyH.cons rfl (fun K hK => ?_) AllReadyH.nil
  with_reducible refine step_storeG 22 ?_ ?_ (.tmp 69) (.tmp 68) ?_ g2 1 ?_ (.slice (some ⟨gx, 0, none⟩) p c) ?_ ?_ ?_ ?_ y1 fx ?_
  ·exact rfl
  ·exact rfl
  ·exact rfl
  ·kernel_rfl
  ·kernel_rfl
  ·exact rfl
  ·kernel_rfl
  ·exact rfl
  refine hK.out _ _ HS1.out (fun _ => ?_)
  clear hK K hHeld
  refine wpAnyH_done (by kernel_rfl) ?_ _
  (try simp only [Act.put, List.setIfInBounds_toArray, List.set_cons_zero, List.set_cons_succ])
  clear y1 fx hsl
  generalize wd.setCell ⟨g2, 1, none⟩ (.slice (some ⟨gx, 0, none⟩) p c) = ws at *
  go_wp2_with (first
   | ((with_reducible refine wpList_load_at 33 _ rfl ?_ g2 0 ?_ (cC 0 (.slice (some ⟨gx, 0, none⟩) p c)) _ ?_ underCp rfl ?_ ?_); exact rfl; exact rfl; exact HC2E.out.whole; exact sizeCp)
   | ((with_reducible refine wpList_storeX 33 2 sizeCp rfl rfl _ _ rfl g4 ?_ (D := cC 0 (.slice (some ⟨gx, 0, none⟩) p c)) ?_ ?_ ?_ ?_ HZ4E.out ?_); exact rfl; exact rfl; exact rfl; exact rfl; exact cC_one _ _ _ _; intro w10 h10 o10; have HC10 := hid h10; have HO10 := hid o10; clear h10 o10))
  refine ret_rowC2 rfl g4 rfl rfl rfl HC10.out ?_
  exact HBAD.out _ _ (own_other15 HXE.out HZ4E.out HO10.out) (HFR.out.then HO10.out (fun q h e => by have e9 : q = g4 := e; have := HG4.out; omega))
 ·with_reducible refine step_run_val ?_ (.slice (some ⟨gx, 0, none⟩) n c) wd ?_ ?_
  ·exact rfl
  ·go_simp
  refine hK.out _ _ HS0.out (fun hHeld => ?_)
  clear hK K
  refine wpAnyH_take (i := 6) (oi := ⟨some 66, .call { callee := .builtin .len, args := #[.tmp 65], argTypes := #[22] }, _, _, _, none⟩) (v := .int .i64 (n : Int)) rfl (by kernel_rfl) (by kernel_rfl) (by kernel_rfl) (fun _ _ _ h => h) (Or.inl ⟨by kernel_rfl, by intro W hW; have q0 := hW; go_simp⟩) hHeld ?_
  refine wpAnyH_ready (rs := [1, 7]) (by kernel_rfl) (by simp) ?_
  refine AllReadyH.cons (o := ⟨some 61, .load 22 (.tmp 60), 22, _, _, none⟩) rfl (fun K hK => ?_) (AllReadyH.cons rfl (fun K hK => ?_) AllReadyH.nil)
  ·with_reducible refine step_run_val ?_ (.slice (some ⟨gx, 0, none⟩) n c) wd ?_ ?_
   ·exact rfl
   ·go_simp
   refine hK.out _ _ HS0.out (fun hHeld => ?_)
   clear hK K
   refine wpAnyH_ready (rs := [7]) (by kernel_rfl) (by simp) ?_
   refine AllReadyH.cons rfl (fun K hK => ?_) AllReadyH.nil
   go_simp
   refine (HPK.out _).mono ?_
   rintro e w9 ⟨rfl, hq⟩
   have hq2 := hq.symm
   subst hq2
   go_wp2_with fail
   refine hK.out _ _ HS0.out (fun hHeld => ?_)
   clear hK K
   refine wpAnyH_take (i := 8) (oi := ⟨some 68, .slice 22 (.tmp 61) none (some (.tmp 67)) none, _, _, _, none⟩) (v := .slice (some ⟨gx, 0, none⟩) p c) rfl (by kernel_rfl) (by kernel_rfl) (by kernel_rfl) (fun _ _ _ h => h) (Or.inl ⟨by kernel_rfl, by intro W hW; have q0 := hW; go_simp⟩) hHeld ?_
   refine wpAnyH_take (i := 9) (oi := ⟨some 69, .fieldAddr 33 (.tmp 2) 1, _, _, _, none⟩) (v := .pointer (some ⟨g2, 1, none⟩)) rfl (by kernel_rfl) (by kernel_rfl) (by kernel_rfl) (fun _ _ _ h => h) (Or.inl ⟨by kernel_rfl, by intro W hW; have q0 := hW; go_simp⟩) hHeld ?_
   refine wpAnyH_ready (rs := [10]) (by kernel_rfl) (by simp) ?_
   refine AllReadyH.cons rfl (fun K hK => ?_) AllReadyH.nil
   with_reducible refine step_storeG 22 ?_ ?_ (.tmp 69) (.tmp 68) ?_ g2 1 ?_ (.slice (some ⟨gx, 0, none⟩) p c) ?_ ?_ ?_ ?_ y1 fx ?_
   ·exact rfl
   ·exact rfl
   ·exact rfl
   ·kernel_rfl
   ·kernel_rfl
   ·exact rfl
   ·kernel_rfl
   ·exact rfl
   refine hK.out _ _ HS1.out (fun _ => ?_)
   clear hK K hHeld
   refine wpAnyH_done (by kernel_rfl) ?_ _
   (try simp only [Act.put, List.setIfInBounds_toArray, List.set_cons_zero, List.set_cons_succ])
   clear y1 fx hsl
   generalize wd.setCell ⟨g2, 1, none⟩ (.slice (some ⟨gx, 0, none⟩) p c) = ws at *
   go_wp2_with (first
    | ((with_reducible refine wpList_load_at 33 _ rfl ?_ g2 0 ?_ (cC 0 (.slice (some ⟨gx, 0, none⟩) p c)) _ ?_ underCp rfl ?_ ?_); exact rfl; exact rfl; exact HC2E.out.whole; exact sizeCp)
    | ((with_reducible refine wpList_storeX 33 2 sizeCp rfl rfl _ _ rfl g4 ?_ (D := cC 0 (.slice (some ⟨gx, 0, none⟩) p c)) ?_ ?_ ?_ ?_ HZ4E.out ?_); exact rfl; exact rfl; exact rfl; exact rfl; exact cC_one _ _ _ _; intro w10 h10 o10; have HC10 := hid h10; have HO10 := hid o10; clear h10 o10))
   refine ret_rowC2 rfl g4 rfl rfl rfl HC10.out ?_
   exact HBAD.out _ _ (own_other15 HXE.out HZ4E.out HO10.out) (HFR.out.then HO10.out (fun q h e => by have e9 : q = g4 := e; have := HG4.out; omega))
  ·go_simp
   refine (HPK.out _).mono ?_
   rintro e w9 ⟨rfl, hq⟩
   have hq2 := hq.symm
   subst hq2
   go_wp2_with fail
   refine hK.out _ _ HS0.out (fun hHeld => ?_)
   clear hK K
   refine wpAnyH_ready (rs := [1]) (by kernel_rfl) (by simp) ?_
   refine AllReadyH.cons (o := ⟨some 61, .load 22 (.tmp 60), 22, _, _, none⟩) rfl (fun K hK => ?_) AllReadyH.nil
   with_reducible refine step_run_val ?_ (.slice (some ⟨gx, 0, none⟩) n c) wd ?_ ?_
   ·exact rfl
   ·go_simp
   refine hK.out _ _ HS0.out (fun hHeld => ?_)
   clear hK K
   refine wpAnyH_take (i := 8) (oi := ⟨some 68, .slice 22 (.tmp 61) none (some (.tmp 67)) none, _, _, _, none⟩) (v := .slice (some ⟨gx, 0, none⟩) p c) rfl (by kernel_rfl) (by kernel_rfl) (by kernel_rfl) (fun _ _ _ h => h) (Or.inl ⟨by kernel_rfl, by intro W hW; have q0 := hW; go_simp⟩) hHeld ?_
   refine wpAnyH_take (i := 9) (oi := ⟨some 69, .fieldAddr 33 (.tmp 2) 1, _, _, _, none⟩) (v := .pointer (some ⟨g2, 1, none⟩)) rfl (by kernel_rfl) (by kernel_rfl) (by kernel_rfl) (fun _ _ _ h => h) (Or.inl ⟨by kernel_rfl, by intro W hW; have q0 := hW; go_simp⟩) hHeld ?_
   refine wpAnyH_ready (rs := [10]) (by kernel_rfl) (by simp) ?_
   refine AllReadyH.cons rfl (fun K hK => ?_) AllReadyH.nil
   with_reducible refine step_storeG 22 ?_ ?_ (.tmp 69) (.tmp 68) ?_ g2 1 ?_ (.slice (some ⟨gx, 0, none⟩) p c) ?_ ?_ ?_ ?_ y1 fx ?_
   ·exact rfl
   ·exact rfl
   ·exact rfl
   ·kernel_rfl
   ·kernel_rfl
   ·exact rfl
   ·kernel_rfl
   ·exact rfl
   refine hK.out _ _ HS1.out (fun _ => ?_)
   clear hK K hHeld
   refine wpAnyH_done (by kernel_rfl) ?_ _
   (try simp only [Act.put, List.setIfInBounds_toArray, List.set_cons_zero, List.set_cons_succ])
   clear y1 fx hsl
   generalize wd.setCell ⟨g2, 1, none⟩ (.slice (some ⟨gx, 0, none⟩) p c) = ws at *
   go_wp2_with (first
    | ((with_reducible refine wpList_load_at 33 _ rfl ?_ g2 0 ?_ (cC 0 (.slice (some ⟨gx, 0, none⟩) p c)) _ ?_ underCp rfl ?_ ?_); exact rfl; exact rfl; exact HC2E.out.whole; exact sizeCp)
    | ((with_reducible refine wpList_storeX 33 2 sizeCp rfl rfl _ _ rfl g4 ?_ (D := cC 0 (.slice (some ⟨gx, 0, none⟩) p c)) ?_ ?_ ?_ ?_ HZ4E.out ?_); exact rfl; exact rfl; exact rfl; exact rfl; exact cC_one _ _ _ _; intro w10 h10 o10; have HC10 := hid h10; have HO10 := hid o10; clear h10 o10))
   refine ret_rowC2 rfl g4 rfl rfl rfl HC10.out ?_
   exact HBAD.out _ _ (own_other15 HXE.out HZ4E.out HO10.out) (HFR.out.then HO10.out (fun q h e => by have e9 : q = g4 := e; have := HG4.out; omega))
end Go.Proofs.YtdohmokhfajjpaaGreatDoor

/- What becomes of a file: something stands behind it; befalls, whole. (Written by tools/gen_Bd15.py.) -/
namespace Go.Proofs.YtdohmokhfajjpaaGreatDoor
open Go Go.RowKit

theorem Buf.push15 {B : Nat} {w : World} {v : Value} {L : List Nat} (hv : Buf B w v L) (k : Nat) (hn : L.length + 1 ≤ 2000000) (hB : B ≤ w.heap.size) :
  ∃ p n c w', (Builtin.append_ #[22, 22] 22 #[v, .slice (some ⟨w.heap.size, 0, none⟩) 1 1]).run Tryz.prog (w.alloc (.cells #[u8 k] 5)) = .ok (.slice p n c) w' ∧ Buf B w' (.slice p n c) (L ++ [k]) ∧ Only (fun q => v.ownBlock = some q) w w' := by
 have h2 := hv.below (below_al w (.cells #[u8 k] 5))
 have hc : CAt (w.alloc (.cells #[u8 k] 5)) w.heap.size #[u8 k] 5 := CAt.made w _ _
 obtain ⟨v', w', h3, h4, h5⟩ := h2.app (some ⟨w.heap.size, 0, none⟩) 1 [k] (Or.inr ⟨w.heap.size, 0, rfl, fun i hi => by
  have : i = 0 := by simpa using hi
  subst this
  rw [hc.cell]; rfl⟩) (fun e => by cases e) hn (by rw [size_al]; omega)
 obtain ⟨p, n, c, rfl⟩ := h4.form3
 exact ⟨p, n, c, w', h3, h4, (Only.alloc (S := fun q => v.ownBlock = some q) w _).trans (Only.of_grown h5 fun q e _ => e)⟩
set_option linter.unusedVariables false in
set_option maxRecDepth 100000 in
set_option maxHeartbeats 8000000 in
theorem befalls_app {B : Nat} (po : Option Addr) (n c : Nat) (f : Fte) (k : Nat) (b : List Nat) (i : Nat) (w : World) (hx : Buf B w (.slice po n c) (shF k b i)) (hn : n = (shF k b i).length) (h8 : ∀ z ∈ shF k b i, z < 256) (hl : (shF k b i).length ≤ 4000) (hB : B ≤ w.heap.size) (hkb : U.lgt b.length k ≤ 65536)
  (hk5 : f.kd = 5) (hm8 : f.msk < 256) : Calls Tryz.prog 7 #[.agg (cC 0 (.slice po n c)), .agg f.cs] w (BfA B (.slice po n c) w k b i) := by
 obtain ⟨kd, at_, mk⟩ := f
 simp only at hk5 hm8
 subst hk5
 have hgw : ∀ q, (Value.slice po n c).ownBlock = some q → q < w.heap.size := fun q e => (own_ge hx q e).2
 have HGW := hid hgw
 have HBAD : Hid (∀ v W, Buf B W v ((shF k b i) ++ [mk]) → Only (fun q => (Value.slice po n c).ownBlock = some q) w W → BfA B (.slice po n c) w k b i (.returned (.tuple #[.agg (cC 0 v), .int .i64 3])) W) := hid (fun v W h1 h2 => BfA.bad h1 (fun z hz => by
  rcases List.mem_append.1 hz with hz | hz
  ·exact h8 z hz
  ·rw [List.mem_singleton] at hz; omega) (by simp; omega) (oke_size hkb (by simp)) h2)
 generalize BfA B (.slice po n c) w k b i = PP at *
 have HPU := hid (fun W (hb : Below w.heap.size w W) => (hx.below hb).push15 mk (by omega) (Nat.le_trans hB hb.size))
 generalize shF k b i = X at *
 obtain ⟨F, hF⟩ : ∃ F : Array Value, Fte.cs ⟨5, at_, mk⟩ = F := ⟨_, rfl⟩
 have HF0 : Hid (F[0]? = some (.int .i64 5)) := hid (by rw [← hF]; rfl)
 have HF2 : Hid (F[2]? = some (.int .u8 (mk : Int))) := hid (by rw [← hF]; rfl)
 rw [hF]
 clear hF hx h8 hl hB hn hkb hgw
 go_enter Tryz.func7, Tryz.ntmps7
 go_wp2_with (first
  | ((with_reducible refine wpList_boxT 33 rfl _ rfl (cC 0 (.slice po n c)) ?_ ?_); exact rfl; intro w1 g2 hc1 hb1 hg1; have HC2 := hid hc1; have HG2X := hid (show w.heap.size ≤ g2 by omega); have HB := hid hb1; clear hc1 hb1 hg1)
  | ((with_reducible refine wpList_boxT 37 rfl _ rfl F ?_ ?_); exact rfl; intro w2 g3 hc2 hb2 hg2; have z0 : w2.cell? ⟨g3, 0, none⟩ = some (.int .i64 5) := (by rw [hc2.cell]; exact HF0.out); have z2 : w2.cell? ⟨g3, 2, none⟩ = some (.int .u8 (mk : Int)) := (by rw [hc2.cell]; exact HF2.out); have HC3 := hid hc2; replace HC2 := hid (HC2.out.below hb2); replace HB := hid (below_on HB.out hb2); clear hc2 hb2 hg2)
  | ((with_reducible refine wpList_allocX 33 _ zeroCp rfl rfl ?_); intro w3 g4 hz3 hb3 hg3; have HG42 := hid (show g4 ≠ g2 by have := HC2.out.lt; omega); replace z0 : w3.cell? ⟨g3, 0, none⟩ = some (.int .i64 5) := (by rw [(HC3.out.below hb3).cell]; exact HF0.out); replace z2 : w3.cell? ⟨g3, 2, none⟩ = some (.int .u8 (mk : Int)) := (by rw [(HC3.out.below hb3).cell]; exact HF2.out); have y1 : w3.cell? ⟨g2, 1, none⟩ = some (.slice po n c) := (HC2.out.below hb3).c1; have HZ3 := hid hz3; replace HC2 := hid (HC2.out.below hb3); replace HC3 := hid (HC3.out.below hb3); have HG4 := hid (show w.heap.size ≤ g4 by have := HB.out.size; omega); replace HB := hid (below_on HB.out hb3); obtain ⟨p', n', c', w6, hrun, hbx, hox⟩ := HPU.out w3 HB.out; have HRUN := hid hrun; have HC2X := hid (HC2.out.keep (hox.block g2 HC2.out.lt (fun e => by have := HGW.out _ e; have := HG2X.out; omega))); have HZ4X := hid (HZ3.out.keep (hox.block g4 HZ3.out.lt (fun e => by have := HGW.out _ e; have := HG4.out; omega))); have HO2 := hid (Only.set (S := fun q => q = g2) w6 ⟨g2, 1, none⟩ (.slice p' n' c') rfl); have HC2E : Hid (CAt (w6.setCell ⟨g2, 1, none⟩ (.slice p' n' c')) g2 (cC 0 (.slice p' n' c')) 33) := hid (HC2X.out.set 1 (.slice p' n' c')); have HZ4E := hid (HZ4X.out.keep (HO2.out.block g4 HZ4X.out.lt (by have := HG42.out; omega))); have HXE : Hid (Buf B (w6.setCell ⟨g2, 1, none⟩ (.slice p' n' c')) (.slice p' n' c') (X ++ [mk])) := hid (own_other15 hbx HC2X.out HO2.out); have HFR := hid (((Only.of_below HB.out).trans hox).then HO2.out (fun q h e => by have e9 : q = g2 := e; have := HG2X.out; omega)); clear hrun hbx hox hz3 hb3 hg3)
   | (at_builtin; refine wpList_append_run _ _ 22 22 rfl rfl _ _ _ rfl rfl HRUN.out ?_; have y1 : w6.cell? ⟨g2, 1, none⟩ = some (.slice po n c) := HC2X.out.c1; have f1 : w6.frozen? ⟨g2, 1, none⟩ = false := HC2X.out.free 1)
   | ((with_reducible refine wpList_load_at 33 _ rfl ?_ g2 0 ?_ (cC 0 (.slice p' n' c')) _ ?_ underCp rfl ?_ ?_); exact rfl; exact rfl; exact HC2E.out.whole; exact sizeCp)
   | ((with_reducible refine wpList_storeX 33 2 sizeCp rfl rfl _ _ rfl g4 ?_ (D := cC 0 (.slice p' n' c')) ?_ ?_ ?_ ?_ HZ4E.out ?_); exact rfl; exact rfl; exact rfl; exact rfl; exact cC_one _ _ _ _; intro w10 h10 o10; have HC10 := hid h10; have HO10 := hid o10; clear h10 o10))
 refine ret_rowC2 rfl g4 rfl rfl rfl HC10.out ?_
 exact HBAD.out _ _ (own_other15 HXE.out HZ4E.out HO10.out) (HFR.out.then HO10.out (fun q h e => by have e9 : q = g4 := e; have := HG4.out; omega))
/-- befalls, whatever the fate. -/
theorem befalls_any {B : Nat} (po : Option Addr) (n c : Nat) (f : Fte) (k : Nat) (b : List Nat) (i : Nat) (w : World) (a0 a1 : Addr) (hE : ∀ W, Only (fun q => (Value.slice po n c).ownBlock = some q) w W → Ers W a0 a1) (hx : Buf B w (.slice po n c) (shF k b i)) (hn : n = (shF k b i).length) (h8 : ∀ z ∈ shF k b i, z < 256) (hl : (shF k b i).length ≤ 4000) (hB : B ≤ w.heap.size) (hkb : U.lgt b.length k ≤ 65536) (hm8 : f.msk < 256) :
  Calls Tryz.prog 7 #[.agg (cC 0 (.slice po n c)), .agg f.cs] w (BfA B (.slice po n c) w k b i) := by
 by_cases h5 : f.kd = 5
 ·exact befalls_app po n c f k b i w hx hn h8 hl hB hkb h5 hm8
 by_cases h4 : f.kd = 4
 ·by_cases h0 : n = 0
  ·exact befalls_plain po n c f k b i w hx hn h8 hl (.inr (.inr (.inr (.inl ⟨h4, h0⟩))))
  ·exact befalls_cut po n c f k b i w hx hn h8 hl hkb h4 (by omega)
 by_cases h3 : f.kd = 3
 ·by_cases h0 : n = 0 ∨ f.msk = 0
  ·exact befalls_plain po n c f k b i w hx hn h8 hl (.inr (.inr (.inl ⟨h3, h0⟩)))
  ·exact befalls_turned po n c f k b i w a0 a1 hE hx hn h8 hl hkb h3 (by omega) (by omega) hm8
 by_cases h1 : f.kd = 1
 ·exact befalls_plain po n c f k b i w hx hn h8 hl (.inl h1)
 by_cases h2 : f.kd = 2
 ·exact befalls_plain po n c f k b i w hx hn h8 hl (.inr (.inl h2))
 exact befalls_plain po n c f k b i w hx hn h8 hl (.inr (.inr (.inr (.inr ⟨h1, h2, h3, h4, h5⟩))))
end Go.Proofs.YtdohmokhfajjpaaGreatDoor
