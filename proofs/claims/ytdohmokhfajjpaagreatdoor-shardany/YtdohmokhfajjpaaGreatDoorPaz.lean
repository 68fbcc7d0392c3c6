/- Texts laid into one, cut to what is needed: the remark ahead of each part says what is proved there. -/
import Derived.Test.YtdohmokhfajjpaaGreatDoorPay
/- readRecords. -/
namespace Go.Proofs.YtdohmokhfajjpaaGreatDoor
open Go Go.RowKit

theorem rdR_sub {L M : List Nat} {x : Rc} (h8 : ∀ z ∈ L, z < 256) (h : rdR L = some (x, M)) : M.length ≤ L.length ∧ (∀ z ∈ M, z < 256) := by
 obtain ⟨_, e⟩ := rdR_some h8 h
 subst e
 exact ⟨by rw [List.length_append]; omega, (sub256 h8).2⟩
theorem rdRs_zero (b : List Nat) : rdRs 0 b = some ([], b) := rfl
theorem rdRs_step {n : Nat} {b b' : List Nat} {r : Rc} (h : rdR b = some (r, b')) : rdRs (n + 1) b = (rdRs n b').map fun q => (r :: q.1, q.2) := by
 rw [rdRs, h]
 simp only [Option.bind_eq_bind, Option.bind_some]
 cases rdRs n b' <;> rfl
theorem rdRs_fail {n : Nat} {b : List Nat} (h : rdR b = none) : rdRs (n + 1) b = none := by rw [rdRs, h]; rfl
/-- So many records have been read; the rest is N. -/
structure RI (B p n : Nat) (s : Int) (M : List Nat) (kk : Nat) (l : List Rp) (N : List Nat) (po : Option Addr) (c : Nat) (v : Value) (W : World) : Prop where
 rd : RdC W p po N c n s v
 rs : Rs B W v l
 len : l.length = kk
 eq : rdRs n M = (rdRs (n - kk) N).map fun q => (rcs l ++ q.1, q.2)
def RecsS (w : World) (p n : Nat) (s : Int) (M : List Nat) (a1 : Addr) (e : Ending) (w' : World) : Prop := Only (fun b => b = p) w w' ∧ match rdRs n M with
 | none => e = .returned (eV a1)
 | some (rs, N) => e = .returned .nilIface ∧ ∃ po c v m, RdC w' p po N c n s v ∧ Rs w.heap.size w' v m ∧ rcs m = rs
theorem rcs_app (l m : List Rp) : rcs (l ++ m) = rcs l ++ rcs m := by simp [rcs]
theorem RI.next {n : Nat} {M : List Nat} {kk : Nat} {l : List Rp} {N : List Nat} (heq : rdRs n M = (rdRs (n - kk) N).map fun q => (rcs l ++ q.1, q.2)) (hk : kk < n) {y : Rp} {x : Rc} {N' : List Nat} (hq : rdR N = some (x, N')) (hy : y.rc = x) : rdRs n M = (rdRs (n - (kk + 1)) N').map fun q => (rcs (l ++ [y]) ++ q.1, q.2) := by
 rw [heq, show n - kk = (n - (kk + 1)) + 1 by omega, rdRs_step hq, rcs_app]
 cases rdRs (n - (kk + 1)) N' with
 | none => rfl
 | some q => simp [rcs, hy]
/-- The record is laid behind the others. -/
theorem RI.push {B p : Nat} {W W1 : World} {v : Value} {l : List Rp} {po : Option Addr} {N : List Nat} {c : Nat} {n s : Int} (hrd : RdC W p po N c n s v) (hrs : Rs B W v l) (hB : B ≤ W.heap.size) (hpB : p < B) (hb : Below W.heap.size W W1) (hl : l.length ≤ 64) {y : Rp} (hy : RpX B W1 y) :
  ∃ v' W2, (Builtin.append_ #[68, 68] 68 #[v, .slice (some ⟨W1.heap.size, 0, none⟩) 1 1]).run Tryz.prog (W1.alloc (.cells y.r.cs 44)) = .ok v' W2 ∧ Rs B W2 v' (l ++ [y]) ∧ CAt W2 p (rC (.slice po N.length c) n s v) 95 ∧ Only (fun b => v.ownBlock = some b) W1 W2 ∧ (∀ b, v.ownBlock = some b → B ≤ b ∧ b < W.heap.size) := by
 have h2 := below_on hb (below_al W1 (.cells y.r.cs 44))
 have hrs2 := hrs.below h2
 have hy2 := hy.below (below_al W1 (.cells y.r.cs 44))
 obtain ⟨v', W2, hr, hbf, hg⟩ := hrs2.buf.app _ [y] (one_rl (CAt.made W1 y.r.cs 44) hy2.one) (by simp; omega) (by rw [size_al]; have := hb.size; omega)
 have hO : Only (fun b => v.ownBlock = some b) (W1.alloc (.cells y.r.cs 44)) W2 := Only.of_grown hg fun k e _ => e
 refine ⟨v', W2, hr, ⟨hbf, fun x hx => ?_⟩, ?_, (Only.alloc W1 _).trans hO, own_ge hrs.buf⟩
 ·rcases List.mem_append.1 hx with hx | hx
  ·exact (hrs2.each x hx).grown hrs2.buf hg
  ·simp at hx; subst hx; exact hy2.grown hrs2.buf hg
 ·exact ((hrd.below h2).at_).keep (hO.block p (hrd.below h2).at_.lt (fun e => by have := (own_ge hrs.buf p e).1; omega))
set_option maxRecDepth 100000 in
set_option maxHeartbeats 1000000 in
theorem recs_many (p : Nat) (po : Option Addr) (M : List Nat) (c n : Nat) (s : Int) (r : Value) (w : World) (a0 a1 : Addr) (h : RdC w p po M c n s r) (he : Ers w a0 a1) (hn : 64 < n) : Calls Tryz.prog 67 #[ptr p] w fun e w' => e = .returned (eV a1) ∧ Below w.heap.size w w' := by
 have c1 := h.c1
 have e1 := he.c1
 have hn' : (64 : Int) < (n : Int) := by omega
 clear h he
 go_enter Tryz.func67, Tryz.ntmps67
 go_wp2
 go_ret
 exact ⟨rfl, Below.refl _ _⟩
set_option maxRecDepth 100000 in
set_option maxHeartbeats 4000000 in
theorem recs_few (p : Nat) (po : Option Addr) (M : List Nat) (c n : Nat) (s : Int) (w : World) (a0 a1 : Addr) (h : RdC w p po M c n s (.slice none 0 0)) (hE : ∀ W, Only (fun b => b = p) w W → Ers W a0 a1) (hn : n ≤ 64) : Calls Tryz.prog 67 #[ptr p] w (RecsS w p n s M a1) := by
 have c1 := h.c1
 have hn' : ¬ (64 : Int) < (n : Int) := by omega
 have HER := hid hE
 have HPW := hid h.at_.lt
 have HI : Hid (RI w.heap.size p n s M 0 [] M po c (.slice none 0 0) w) := hid ⟨h, Rs.nil _ _, rfl, by rw [Nat.sub_zero]; cases rdRs n M <;> simp [rcs]⟩
 clear h hE
 go_enter Tryz.func67, Tryz.ntmps67
 go_wp2
 go_loopg [3, 4, 5, 16] n (fun gg _ _ _ s16 wr => ∃ (kk : Nat) (l : List Rp) (N : List Nat) (pn : Option Addr) (cn : Nat) (v : Value), kk ≤ n ∧ n - kk ≤ gg ∧ s16 = i64 kk ∧ Hid (Only (fun b => b = p) w wr) ∧ Hid (RI w.heap.size p n s M kk l N pn cn v wr))
 case atStart => exact ⟨0, [], M, po, c, _, Nat.zero_le _, by omega, rfl, Only.refl _ _, HI.out⟩
 case round =>
  obtain ⟨kk, l, N, pn, cn, v, hkk, hg, rfl, HO, I⟩ := hrel
  clear HI c1
  by_cases hlt : kk < n
  ·have hltz : (kk : Int) < (n : Int) := by omega
   have c0 := I.out.rd.c0
   cases hq : rdR N with
   | none =>
    have HRB := hid (read_bad pn cn N wr I.out.rd.bl I.out.rd.le I.out.rd.lt I.out.rd.b8 hq)
    obtain ⟨Z, hZ⟩ : ∃ Z, zR = Z := ⟨_, rfl⟩
    rw [hZ] at HRB
    have HZ := hid hZ
    have HQ := hid hq
    clear hZ hq
    go_wp2_with (first
     | (go_at_call 87; refine HRB.out.mono ?_; rintro e w1 ⟨rfl, hb1⟩; have HB1 := hid hb1; clear hb1)
     | ((with_reducible refine wpList_allocR rfl rfl ?_); intro w2 g2 hz2 hb2 hg2; have HZ2 := hid hz2; have HB2 := hid hb2; have HG2 := hid hg2; clear hz2 hb2 hg2)
     | ((with_reducible refine wpList_storeR rfl rfl _ _ rfl g2 ?_ (r := Z) ?_ zR_ok ?_ ?_ HZ2.out ?_); exact rfl; exact rfl; (rw [← HZ.out]; exact zR_ok); (rw [← HZ.out]; rfl); intro w3 h3 o3; have HB3 := hid (below_on HB1.out (Own1.mk1 HB2.out HG2.out h3 o3).below); have HO3 := hid (HO.out.trans (Only.of_below HB3.out)); have e1 := (HER.out _ HO3.out).c1; clear h3 o3 HZ2))
    go_ret
    refine ⟨HO3.out, ?_⟩
    rw [I.out.eq, show n - kk = (n - (kk + 1)) + 1 by omega, rdRs_fail HQ.out]
    rfl
   | some q =>
    obtain ⟨x, N'⟩ := q
    have HRB := hid (read_ok pn cn N wr I.out.rd.bl I.out.rd.le I.out.rd.lt I.out.rd.b8 hq)
    have HSB := hid (rdR_sub I.out.rd.b8 hq)
    have HQ := hid hq
    clear hq
    go_upto_region 8 with (first
     | (go_at_call 87; refine HRB.out.mono ?_; rintro e w1 ⟨ry, ps, out, rfl, hyk, hyx, hypl, hout, hb1⟩; obtain ⟨qo, hqo, _, _⟩ := hout.form; subst hqo; have hyo : ry.pv.oneCell' = true := (by obtain ⟨p0, n0, c0, e0⟩ := hypl.form; rw [e0]; rfl); have HY : Hid (RpX wr.heap.size w1 ⟨ry, ps⟩) := hid ⟨hyk, hypl⟩; have HYX := hid hyx; have HOUT := hid hout; have HB1 := hid hb1; clear hb1 hypl hyx hout c0)
     | ((with_reducible refine wpList_allocR rfl rfl ?_); intro w2 g2 hz2 hb2 hg2; have HZ2 := hid hz2; have HB2 := hid hb2; have HG2 := hid hg2; clear hz2 hb2 hg2)
     | ((with_reducible refine wpList_storeR rfl rfl _ _ rfl g2 ?_ (r := ry) ?_ zR_ok hyk hyo HZ2.out ?_); exact rfl; exact rfl; intro w3 h3 o3; have HO3 := hid (Own1.mk1 HB2.out HG2.out h3 o3); clear h3 o3 HZ2))
    have HB3 := hid (below_on HB1.out HO3.out.below)
    have HOUT3 := hid (HOUT.out.below HO3.out.below)
    have HY3 := hid ((HY.out.below HO3.out.below).base HO.out.size)
    obtain ⟨v9, w9, hr9, hrs9, hc9, ho9, hown9⟩ := RI.push I.out.rd I.out.rs HO.out.size HPW.out (below_on HB3.out (below_drew w3)) (by have := I.out.len; omega) (HY3.out.below (below_drew w3))
    have hok9 : Only (fun b => v.ownBlock = some b) w3 w9 := (Only.of_below (below_drew w3)).trans ho9
    obtain ⟨pv, nv, cv, hvv⟩ : ∃ a b c, v = .slice a b c := by obtain ⟨a, c, e, _⟩ := I.out.rs.buf.form; exact ⟨a, _, c, e⟩
    obtain ⟨p9, n9, c9, hv9⟩ : ∃ a b c, v9 = .slice a b c := by obtain ⟨a, c, e, _⟩ := hrs9.buf.form; exact ⟨a, _, c, e⟩
    have d3 := (I.out.rd.below HB3.out).c3
    have df := (I.out.rd.below HB3.out).at_.free
    have hgp : p < g2 := by have := HPW.out; have := HO.out.size; have := HB1.out.size; have := HG2.out; omega
    have hwp : p < w3.heap.size := by have := HPW.out; have := HO.out.size; have := HB3.out.size; omega
    have hout9 : OutB w.heap.size w9 (.slice qo N'.length N'.length) N' := ((HOUT3.out.only hok9 (fun b e k => by have := (HOUT.out.blk b e).1; have := (hown9 b k).2; omega))).base HO.out.size
    have hstore := hc9.r3 v9
    have hos := Only.set (S := fun b => b = p) w9 ⟨p, 3, none⟩ v9 rfl
    obtain ⟨qo2, hqe, hn9⟩ := RdC.mkN hstore HPW.out (hout9.only hos (fun b e k => by have := (hout9.blk b e).1; have := HPW.out; omega)) (by have := HSB.out.1; have := I.out.rd.lt; omega) HSB.out.2
    cases hqe
    have hon : Only (fun b => b = p) w9 ((w9.setCell ⟨p, 3, none⟩ v9).setCell ⟨p, 0, none⟩ (.slice qo N'.length N'.length)) := hos.trans (Only.set (S := fun b => b = p) _ ⟨p, 0, none⟩ _ rfl)
    have hrsn := hrs9.only hon (fun i e => by have := HPW.out; omega)
    have HIN : Hid (RI w.heap.size p n s M (kk + 1) (l ++ [⟨ry, ps⟩]) N' qo N'.length v9 ((w9.setCell ⟨p, 3, none⟩ v9).setCell ⟨p, 0, none⟩ (.slice qo N'.length N'.length))) := hid ⟨hn9, hrsn, by rw [List.length_append, I.out.len]; rfl, RI.next I.out.eq hlt HQ.out HYX.out⟩
    have HON : Hid (Only (fun b => b = p) w ((w9.setCell ⟨p, 3, none⟩ v9).setCell ⟨p, 0, none⟩ (.slice qo N'.length N'.length))) := hid (((HO.out.trans (Only.of_below HB3.out)).then hok9 (fun i hi e => by have := (hown9 i e).1; omega)).trans hon)
    have k3 : w9.cell? ⟨p, 3, none⟩ = some v := by rw [hc9.cell]; rfl
    have k0 : (w9.setCell ⟨p, 3, none⟩ v9).cell? ⟨p, 0, none⟩ = some (.slice pn N.length cn) := by rw [hstore.cell]; rfl
    have kf := hc9.free
    have kf2 := hstore.free
    have hgv : v.ownBlock ≠ some g2 := fun e => by have := (hown9 g2 e).2; have := HB1.out.size; have := HG2.out; omega
    have HSF : Hid (∀ W, W.heap[g2]? = w3.heap[g2]? → (Instr.loadAt 44 (.pointer (some ⟨g2, 0, none⟩))).run Tryz.prog W = .ok (.agg ry.cs) W) := hid fun W hW => run_loadR hyk (RBox.mk' hyk (HO3.out.box.at_.keep hW))
    have HK9 := hid (hok9.block g2 HO3.out.box.at_.lt hgv)
    have HKA := hid (show (w3.drew.alloc (.cells ry.cs 44)).heap[g2]? = w3.heap[g2]? from heap_alloc_old w3.drew _ HO3.out.box.at_.lt)
    have HKS := hid (show (w9.setCell ⟨p, 3, none⟩ v9).heap[g2]? = w3.heap[g2]? from (heap_setCell_ne _ _ _ _ (show g2 ≠ p by omega)).trans HK9.out)
    have HKT := hid (show ((w9.setCell ⟨p, 3, none⟩ v9).setCell ⟨p, 0, none⟩ (.slice qo N'.length N'.length)).heap[g2]? = w3.heap[g2]? from (heap_setCell_ne _ _ _ _ (show g2 ≠ p by omega)).trans HKS.out)
    have da : (w3.drew.alloc (.cells ry.cs 44)).cell? ⟨p, 3, none⟩ = some v := (World.cell?_of_block (a := ⟨p, 3, none⟩) (heap_alloc_old w3.drew _ (show p < w3.drew.heap.size from hwp))).trans d3
    have HRUN := hid hr9
    subst hvv hv9
    clear hr9 hrs9 hc9 ho9 hown9 hok9 hstore hos hn9 hon hrsn hout9
    (try simp only [Act.put, List.setIfInBounds_toArray, List.set_cons_zero, List.set_cons_succ])
    refine wp_region_held_drew (S := fun W => (Instr.loadAt 44 (.pointer (some ⟨g2, 0, none⟩))).run Tryz.prog W = .ok (.agg ry.cs) W) (by kernel_rfl) (HSF.out _ rfl) (fun hHeld => ?_)
    refine wpAnyH_take (i := 0) (oi := ⟨some 30, .move (.tmp 0), _, _, _, none⟩) (v := ptr p) rfl (by kernel_rfl) (by kernel_rfl) (by kernel_rfl) (fun _ _ _ h => h) (Or.inl ⟨by kernel_rfl, by intro W hW; go_simp⟩) hHeld ?_
    refine wpAnyH_take (i := 1) (oi := ⟨some 31, .move (.tmp 0), _, _, _, none⟩) (v := ptr p) rfl (by kernel_rfl) (by kernel_rfl) (by kernel_rfl) (fun _ _ _ h => h) (Or.inl ⟨by kernel_rfl, by intro W hW; go_simp⟩) hHeld ?_
    refine wpAnyH_take (i := 2) (oi := ⟨some 32, .move (.tmp 0), _, _, _, none⟩) (v := ptr p) rfl (by kernel_rfl) (by kernel_rfl) (by kernel_rfl) (fun _ _ _ h => h) (Or.inl ⟨by kernel_rfl, by intro W hW; go_simp⟩) hHeld ?_
    refine wpAnyH_take (i := 3) (oi := ⟨some 33, .nilCheck (.tmp 32), _, _, _, none⟩) (v := ptr p) rfl (by kernel_rfl) (by kernel_rfl) (by kernel_rfl) (fun _ _ _ h => h) (Or.inl ⟨by kernel_rfl, by intro W hW; go_simp⟩) hHeld ?_
    refine wpAnyH_take (i := 4) (oi := ⟨some 34, .fieldAddr 95 (.tmp 33) 2, _, _, _, none⟩) (v := .pointer (some ⟨p, 2, none⟩)) rfl (by kernel_rfl) (by kernel_rfl) (by kernel_rfl) (fun _ _ _ h => h) (Or.inl ⟨by kernel_rfl, by intro W hW; go_simp⟩) hHeld ?_
    refine wpAnyH_take (i := 5) (oi := ⟨some 35, .fieldAddr 70 (.tmp 34) 1, _, _, _, none⟩) (v := .pointer (some ⟨p, 3, none⟩)) rfl (by kernel_rfl) (by kernel_rfl) (by kernel_rfl) (fun _ _ _ h => h) (Or.inl ⟨by kernel_rfl, by intro W hW; go_simp⟩) hHeld ?_
    refine wpAnyH_take (i := 7) (oi := ⟨some 37, .load 44 (.tmp 3), _, _, _, none⟩) (v := .agg ry.cs) rfl (by kernel_rfl) (by kernel_rfl) (by kernel_rfl) (fun _ _ _ h => h) (Or.inl ⟨by kernel_rfl, fun W hW => exec_load rfl (by kernel_rfl) hW⟩) hHeld ?_
    refine wpAnyH_take (i := 10) (oi := ⟨some 40, .move (.tmp 4), _, _, _, none⟩) (v := .slice qo N'.length N'.length) rfl (by kernel_rfl) (by kernel_rfl) (by kernel_rfl) (fun _ _ _ h => h) (Or.inl ⟨by kernel_rfl, by intro W hW; go_simp⟩) hHeld ?_
    refine wpAnyH_ready (rs := [6, 8]) (by kernel_rfl) (by simp) ?_
    refine AllReadyH.cons rfl (fun K hK => ?_) (AllReadyH.cons (o := ⟨some 38, .buildSlice 68 1 #[(0, .tmp 37)], _, _, _, none⟩) rfl (fun K hK => ?_) AllReadyH.nil)
    ·go_simp
     refine hK.out _ _ (HSF.out _ rfl) (fun hHeld => ?_)
     clear hK K
     refine wpAnyH_ready (rs := [8]) (by kernel_rfl) (by simp) ?_
     refine AllReadyH.cons (o := ⟨some 38, .buildSlice 68 1 #[(0, .tmp 37)], _, _, _, none⟩) rfl (fun K hK => ?_) AllReadyH.nil
     with_reducible refine step_run_val ?_ (.slice (some ⟨w3.drew.heap.size, 0, none⟩) 1 1) (w3.drew.alloc (.cells ry.cs 44)) ?_ ?_
     ·exact rfl
     ·exact exec_buildOne hyk rfl (by kernel_rfl)
     refine hK.out _ _ (HSF.out _ HKA.out) (fun hHeld => ?_)
     clear hK K
     refine wpAnyH_ready (rs := [9]) (by kernel_rfl) (by simp) ?_
     refine AllReadyH.cons (o := ⟨some 39, .call { callee := .builtin .append, args := #[.tmp 36, .tmp 38], argTypes := #[68, 68] }, 68, _, _, none⟩) rfl (fun K hK => ?_) AllReadyH.nil
     with_reducible refine step_append_ex (R := fun v' w' => v' = .slice p9 n9 c9 ∧ w' = w9) ?_ (.tmp 36) (.tmp 38) 68 ?_ (.slice pv nv cv) (.slice (some ⟨w3.drew.heap.size, 0, none⟩) 1 1) ?_ ?_ ?_ ?_
     ·exact rfl
     ·exact rfl
     ·kernel_rfl
     ·kernel_rfl
     ·exact ⟨_, _, HRUN.out, rfl, rfl⟩
     rintro v' w' ⟨hv9, hw9⟩
     subst hv9 hw9
     refine hK.out _ _ (HSF.out _ HK9.out) (fun hHeld => ?_)
     clear hK K
     refine wpAnyH_take (i := 11) (oi := ⟨some 41, .nilCheck (.tmp 30), _, _, _, none⟩) (v := ptr p) rfl (by kernel_rfl) (by kernel_rfl) (by kernel_rfl) (fun _ _ _ h => h) (Or.inl ⟨by kernel_rfl, by intro W hW; go_simp⟩) hHeld ?_
     refine wpAnyH_take (i := 12) (oi := ⟨some 42, .fieldAddr 95 (.tmp 41) 2, _, _, _, none⟩) (v := .pointer (some ⟨p, 2, none⟩)) rfl (by kernel_rfl) (by kernel_rfl) (by kernel_rfl) (fun _ _ _ h => h) (Or.inl ⟨by kernel_rfl, by intro W hW; go_simp⟩) hHeld ?_
     refine wpAnyH_take (i := 13) (oi := ⟨some 43, .fieldAddr 70 (.tmp 42) 1, _, _, _, none⟩) (v := .pointer (some ⟨p, 3, none⟩)) rfl (by kernel_rfl) (by kernel_rfl) (by kernel_rfl) (fun _ _ _ h => h) (Or.inl ⟨by kernel_rfl, by intro W hW; go_simp⟩) hHeld ?_
     refine wpAnyH_ready (rs := [14]) (by kernel_rfl) (by simp) ?_
     refine AllReadyH.cons rfl (fun K hK => ?_) AllReadyH.nil
     go_simp
     refine hK.out _ _ (HSF.out _ HKS.out) (fun hHeld => ?_)
     clear hK K
     refine wpAnyH_take (i := 15) (oi := ⟨some 44, .nilCheck (.tmp 31), _, _, _, none⟩) (v := ptr p) rfl (by kernel_rfl) (by kernel_rfl) (by kernel_rfl) (fun _ _ _ h => h) (Or.inl ⟨by kernel_rfl, by intro W hW; go_simp⟩) hHeld ?_
     refine wpAnyH_take (i := 16) (oi := ⟨some 45, .fieldAddr 95 (.tmp 44) 0, _, _, _, none⟩) (v := .pointer (some ⟨p, 0, none⟩)) rfl (by kernel_rfl) (by kernel_rfl) (by kernel_rfl) (fun _ _ _ h => h) (Or.inl ⟨by kernel_rfl, by intro W hW; go_simp⟩) hHeld ?_
     refine wpAnyH_ready (rs := [17]) (by kernel_rfl) (by simp) ?_
     refine AllReadyH.cons rfl (fun K hK => ?_) AllReadyH.nil
     go_simp
     refine hK.out _ _ (HSF.out _ HKT.out) (fun hHeld => ?_)
     clear hK K
     refine wpAnyH_done (by kernel_rfl) ?_ _
     (try simp only [Act.put, List.setIfInBounds_toArray, List.set_cons_zero, List.set_cons_succ])
     go_wp2
     go_roundg (n - (kk + 1))
     case measure => omega
     case rel => exact ⟨kk + 1, _, N', qo, N'.length, _, by omega, by omega, by go_num, HON.out, HIN.out⟩
    ·with_reducible refine step_run_val ?_ (.slice (some ⟨w3.drew.heap.size, 0, none⟩) 1 1) (w3.drew.alloc (.cells ry.cs 44)) ?_ ?_
     ·exact rfl
     ·exact exec_buildOne hyk rfl (by kernel_rfl)
     refine hK.out _ _ (HSF.out _ HKA.out) (fun hHeld => ?_)
     clear hK K
     refine wpAnyH_ready (rs := [6]) (by kernel_rfl) (by simp) ?_
     refine AllReadyH.cons rfl (fun K hK => ?_) AllReadyH.nil
     go_simp
     refine hK.out _ _ (HSF.out _ HKA.out) (fun hHeld => ?_)
     clear hK K
     refine wpAnyH_ready (rs := [9]) (by kernel_rfl) (by simp) ?_
     refine AllReadyH.cons (o := ⟨some 39, .call { callee := .builtin .append, args := #[.tmp 36, .tmp 38], argTypes := #[68, 68] }, 68, _, _, none⟩) rfl (fun K hK => ?_) AllReadyH.nil
     with_reducible refine step_append_ex (R := fun v' w' => v' = .slice p9 n9 c9 ∧ w' = w9) ?_ (.tmp 36) (.tmp 38) 68 ?_ (.slice pv nv cv) (.slice (some ⟨w3.drew.heap.size, 0, none⟩) 1 1) ?_ ?_ ?_ ?_
     ·exact rfl
     ·exact rfl
     ·kernel_rfl
     ·kernel_rfl
     ·exact ⟨_, _, HRUN.out, rfl, rfl⟩
     rintro v' w' ⟨hv9, hw9⟩
     subst hv9 hw9
     refine hK.out _ _ (HSF.out _ HK9.out) (fun hHeld => ?_)
     clear hK K
     refine wpAnyH_take (i := 11) (oi := ⟨some 41, .nilCheck (.tmp 30), _, _, _, none⟩) (v := ptr p) rfl (by kernel_rfl) (by kernel_rfl) (by kernel_rfl) (fun _ _ _ h => h) (Or.inl ⟨by kernel_rfl, by intro W hW; go_simp⟩) hHeld ?_
     refine wpAnyH_take (i := 12) (oi := ⟨some 42, .fieldAddr 95 (.tmp 41) 2, _, _, _, none⟩) (v := .pointer (some ⟨p, 2, none⟩)) rfl (by kernel_rfl) (by kernel_rfl) (by kernel_rfl) (fun _ _ _ h => h) (Or.inl ⟨by kernel_rfl, by intro W hW; go_simp⟩) hHeld ?_
     refine wpAnyH_take (i := 13) (oi := ⟨some 43, .fieldAddr 70 (.tmp 42) 1, _, _, _, none⟩) (v := .pointer (some ⟨p, 3, none⟩)) rfl (by kernel_rfl) (by kernel_rfl) (by kernel_rfl) (fun _ _ _ h => h) (Or.inl ⟨by kernel_rfl, by intro W hW; go_simp⟩) hHeld ?_
     refine wpAnyH_ready (rs := [14]) (by kernel_rfl) (by simp) ?_
     refine AllReadyH.cons rfl (fun K hK => ?_) AllReadyH.nil
     go_simp
     refine hK.out _ _ (HSF.out _ HKS.out) (fun hHeld => ?_)
     clear hK K
     refine wpAnyH_take (i := 15) (oi := ⟨some 44, .nilCheck (.tmp 31), _, _, _, none⟩) (v := ptr p) rfl (by kernel_rfl) (by kernel_rfl) (by kernel_rfl) (fun _ _ _ h => h) (Or.inl ⟨by kernel_rfl, by intro W hW; go_simp⟩) hHeld ?_
     refine wpAnyH_take (i := 16) (oi := ⟨some 45, .fieldAddr 95 (.tmp 44) 0, _, _, _, none⟩) (v := .pointer (some ⟨p, 0, none⟩)) rfl (by kernel_rfl) (by kernel_rfl) (by kernel_rfl) (fun _ _ _ h => h) (Or.inl ⟨by kernel_rfl, by intro W hW; go_simp⟩) hHeld ?_
     refine wpAnyH_ready (rs := [17]) (by kernel_rfl) (by simp) ?_
     refine AllReadyH.cons rfl (fun K hK => ?_) AllReadyH.nil
     go_simp
     refine hK.out _ _ (HSF.out _ HKT.out) (fun hHeld => ?_)
     clear hK K
     refine wpAnyH_done (by kernel_rfl) ?_ _
     (try simp only [Act.put, List.setIfInBounds_toArray, List.set_cons_zero, List.set_cons_succ])
     go_wp2
     go_roundg (n - (kk + 1))
     case measure => omega
     case rel => exact ⟨kk + 1, _, N', qo, N'.length, _, by omega, by omega, by go_num, HON.out, HIN.out⟩
  ·have hltz : ¬ (kk : Int) < (n : Int) := by omega
   have hke : kk = n := by omega
   go_wp2
   go_ret
   refine ⟨HO.out, ?_⟩
   have e := I.out.eq
   rw [show n - kk = 0 by omega, rdRs_zero] at e
   rw [e]
   exact ⟨rfl, pn, cn, v, l, I.out.rd, I.out.rs, by simp⟩
end Go.Proofs.YtdohmokhfajjpaaGreatDoor

/- lookAtEnd; what Read needs. -/
namespace Go.Proofs.YtdohmokhfajjpaaGreatDoor
open Go Go.RowKit

set_option maxRecDepth 100000 in
set_option maxHeartbeats 1000000 in
theorem end_any (p : Nat) (po : Option Addr) (N : List Nat) (c : Nat) (n s : Int) (v : Value) (l : List Rp) (w : World) (a0 a1 : Addr) (h : RdC w p po N c n s v) (hl : RL w v l) (he : ∀ W, Below w.heap.size w W → Ers W a0 a1) : Calls Tryz.prog 68 #[ptr p] w fun e w' => e = .returned (if N ≠ [] ∨ okJ ⟨s, rcs l⟩ = false then eV a1 else .nilIface) ∧ Below w.heap.size w w' := by
 obtain ⟨R, hR⟩ : ∃ R : Value, (if N ≠ [] ∨ okJ ⟨s, rcs l⟩ = false then eV a1 else .nilIface) = R := ⟨_, rfl⟩
 rw [hR]
 have HRR := hid hR
 clear hR
 have c0 := h.c0
 have HER := hid he
 have HL := hid hl
 have HRG := hid (show ∀ j u, (jC s v)[j]? = some u → w.cell? ⟨p, 2 + j, none⟩ = some u from fun j u hu => by
  match j, hu with
  | 0, hu => simp [jC] at hu; subst hu; exact h.c2
  | 1, hu => simp [jC] at hu; subst hu; exact h.c3)
 obtain ⟨pv, cv, hv, _⟩ := hl
 clear h he
 by_cases hN : N = []
 ·subst hN
  have HCK := hid (jcheck_any s v l w HL.out)
  subst hv
  cases hj : okJ ⟨s, rcs l⟩ with
  | true =>
   rw [hj] at HCK
   simp only [if_true] at HCK
   go_enter Tryz.func68, Tryz.ntmps68
   go_wp2_with (first
    | ((with_reducible refine wpList_load_at 70 _ rfl ?_ p 2 ?_ (jC s (.slice pv l.length cv)) (.struct (Tryz.prog.fieldsOf 70)) ?_ underJrn rfl ?_ ?_); exact rfl; exact rfl; exact HRG.out; exact sizeJ)
    | (go_at_call 88; refine HCK.out.mono ?_; rintro e w1 ⟨rfl, hb1⟩; have HB1 := hid hb1; clear hb1))
   go_ret
   exact ⟨by rw [← HRR.out, hj, if_neg (by simp)]; rfl, HB1.out⟩
  | false =>
   rw [hj] at HCK
   simp only [Bool.false_eq_true, if_false] at HCK
   go_enter Tryz.func68, Tryz.ntmps68
   go_wp2_with (first
    | ((with_reducible refine wpList_load_at 70 _ rfl ?_ p 2 ?_ (jC s (.slice pv l.length cv)) (.struct (Tryz.prog.fieldsOf 70)) ?_ underJrn rfl ?_ ?_); exact rfl; exact rfl; exact HRG.out; exact sizeJ)
    | (go_at_call 88; refine HCK.out.mono ?_; rintro e w1 ⟨rfl, hb1⟩; have HB1 := hid hb1; have e1 := (HER.out _ hb1).c1; clear hb1))
   go_ret
   exact ⟨by rw [← HRR.out, hj, if_pos (by simp)]; rfl, HB1.out⟩
 ·have hpos : 0 < N.length := List.length_pos_iff.2 hN
  have hpos' : (0 : Int) < (N.length : Int) := by omega
  have e1 := (HER.out w (Below.refl _ _)).c1
  go_enter Tryz.func68, Tryz.ntmps68
  go_wp2
  go_ret
  exact ⟨by rw [← HRR.out, if_pos (Or.inl hN)]; rfl, Below.refl _ _⟩
abbrev fV (k : Nat) : Value := .func (.func k) #[] #[]
abbrev lkC : Array Value := #[fV 63, fV 64, fV 65, fV 66, fV 67, fV 68]
theorem looks_any (w : World) : Calls Tryz.prog 44 #[] w fun e w' => e = .returned (.slice (some ⟨w.heap.size, 0, none⟩) 6 6) ∧ CAt w' w.heap.size lkC 98 ∧ Below w.heap.size w w' := by
 go_enter Tryz.func44, Tryz.ntmps44
 go_wp2
 go_ret
 exact ⟨rfl, CAt.made w _ _, below_al w _⟩
theorem zeroRd : (Tryz.prog.info? 95).map (·.zero) = some (some (.agg (rC (.slice none 0 0) 0 0 (.slice none 0 0)))) := by kernel_rfl
theorem sizeRd : (Tryz.prog.info? 95).map (·.size) = some 4 := by kernel_rfl
theorem builtRd (po : Option Addr) (n c : Nat) : Tryz.prog.built 95 [(0, .slice po n c)] = some (rC (.slice po n c) 0 0 (.slice none 0 0)) := by kernel_rfl
theorem wpList_allocX (t : TypeId) (C : Array Value) (hz : (Tryz.prog.info? t).map (·.zero) = some (some (.agg C))) {ops : Array Oper} {rest : List Oper} {o : Oper} {a : Act} {w : World} {Q : Exit → Act → World → Prop} (hg : o.guard = none) (ho : o.op = .alloc t)
  (h : ∀ w1 g, CAt w1 g C t → Below w.heap.size w w1 → w.heap.size = g → wpList Tryz.prog ops Q rest (a.put o.dst (ptr g)) w1) : wpList Tryz.prog ops Q (o :: rest) a w := by
 refine wpList_plain hg fun _ hK => ?_
 obtain ⟨i, hq, hz'⟩ := Option.map_eq_some_iff.1 hz
 unfold Oper.wp execOp
 simp only [ho, Instr.alloc, zeroValue, typeInfo, Sem.run_bind, newVar, newRow]
 simp [hq, hz', Value.cells]
 exact hK _ _ (h _ _ (CAt.made _ _ _) (below_al _ _) rfl)
theorem wpList_storeX (t : TypeId) (k : Nat) (hs : (Tryz.prog.info? t).map (·.size) = some k) {ops : Array Oper} {rest : List Oper} {o : Oper} {a : Act} {w : World} {Q : Exit → Act → World → Prop} (hg : o.guard = none) (hdst : o.dst = none) (x y : Operand) (ho : o.op = .store t x y) (g : Nat) (hx : a.eval x = ptr g) {C D : Array Value} (hy : a.eval y = .agg D) (hC : C.size = k) (hD : D.size = k) (h1 : D.all (·.oneCell') = true) (hb : CAt w g C t)
  (h : ∀ w1, CAt w1 g D t → Only (fun b => b = g) w w1 → wpList Tryz.prog ops Q rest a w1) : wpList Tryz.prog ops Q (o :: rest) a w := by
 refine wpList_plain hg fun _ hK => ?_
 have e := run_storeVar_row (P := Tryz.prog) w g t t C D hb (by rw [hD]; exact hs) (by rw [hC, hD]) h1
 have e1 : (Instr.storeAt t (.pointer (some ⟨g, 0, none⟩)) (.agg D)).run Tryz.prog w = .ok () (w.setRow g D) := by simp only [Instr.storeAt, Instr.sureAddr, Sem.run_bind, Sem.run_pure, Result.andThen_ok, e]
 unfold Oper.wp execOp
 simp only [ho, hx, hy, ptr, Sem.run_bind, e1, Result.andThen_ok, Sem.run_pure]
 refine hK (a.put o.dst undef) _ ?_
 rw [hdst]
 exact h _ (setRow_heap w g C D _ _ hb) (only_setRow _ _ _ rfl)
/-- What is carried through Read. -/
structure Rq (w : World) (g2 p gl : Nat) (W : World) : Prop where
 below : Below w.heap.size w W
 cr : CAt W g2 (jC 0 (.slice none 0 0)) 70
 lk : CAt W gl lkC 98
 h1 : w.heap.size ≤ g2
 h2 : g2 < p
 h3 : p < gl
theorem Rq.onP {w W W' : World} {g2 p gl : Nat} (h : Rq w g2 p gl W) (ho : Only (fun b => b = p) W W') : Rq w g2 p gl W' :=
 ⟨below_tr h.below (ho.below h.below.size (fun i e => by have := h.h1; have := h.h2; omega)), h.cr.keep (ho.block g2 h.cr.lt (by have := h.h2; omega)), h.lk.keep (ho.block gl h.lk.lt (by have := h.h3; omega)), h.h1, h.h2, h.h3⟩
end Go.Proofs.YtdohmokhfajjpaaGreatDoor
