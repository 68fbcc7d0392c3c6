/- Texts laid into one, cut to what is needed: the remark ahead of each part says what is proved there. -/
import Derived.Test.YtdohmokhfajjpaaGreatDoorPbd
/- Contract of Mend of package shard: all shard files of a version and how each drive's is, in new memory, or the error's number; what was there is as it was. -/
namespace Go.Proofs.YtdohmokhfajjpaaGreatDoor
open Go Go.RowKit

theorem flL_lt {s : List Nat} (h8 : ∀ z ∈ s, z < 256) : ∀ z ∈ flL s, z < 256 := fun z hz => by
 unfold flL H.fileL at hz
 obtain ⟨i, _, hz⟩ := List.mem_flatMap.1 hz
 unfold H.blkL at hz
 rcases List.mem_append.1 hz with hz | hz
 ·obtain ⟨j, _, rfl⟩ := List.mem_map.1 hz; exact H.sha_lt _ _ _
 ·obtain ⟨j, _, rfl⟩ := List.mem_map.1 hz; exact getD_lt8 h8 _
/-- Numbers in memory of the call's own. -/
def NL (B : Nat) (w : World) (v : Value) (ns : List Int) : Prop := ∃ (g : Nat), v = .slice (some ⟨g, 0, none⟩) ns.length ns.length ∧ B ≤ g ∧ CAt w g (ns.map fun z => Value.int .i64 z).toArray 3
/-- What Mend tells of the drives. -/
def stts (l : List Cp) (fs : List (List Nat)) : List Int := (List.range l.length).map fun i => sttN (l.getD i ⟨0, []⟩) (fs.getD i [])
def MdU (w : World) (E : Int) (Ls : List (List Nat)) (ns : List Int) (e : Ending) (w' : World) : Prop := ∃ u v, e = .returned (.tuple #[u, v, .int .i64 E]) ∧ Below w.heap.size w w' ∧ ((E ≠ 0 ∧ u = .slice none 0 0 ∧ v = .slice none 0 0) ∨ (E = 0 ∧ LL w.heap.size w' u Ls ∧ NL w.heap.size w' v ns))
theorem info_int : (Tryz.prog.info? 3).map (fun i => (i.zero, i.size, i.bytes)) = some (some (.int .i64 0), 1, 8) := by kernel_rfl
theorem run_makeI (n : Nat) (hn : n ≤ 1000) (w : World) : (Instr.makeSlice 30 (.int .i64 (n : Int)) (.int .i64 (n : Int))).run Tryz.prog w = .ok (.slice (some ⟨w.heap.size, 0, none⟩) n n) (w.alloc (.cells (madeCells #[.int .i64 0] n) 3)) := by
 obtain ⟨i0, hi, hz0, hz1, hz2⟩ := info_parts info_int
 have h := run_make (P := Tryz.prog) w 30 3 i0 (.int .i64 0) Tryz.underlying30 hi hz0 .i64 .i64 n n (by omega) (Int.le_refl _) (by rw [hz2]; omega) (by omega)
 rw [hz1] at h
 simpa [Value.cells] using h
set_option maxRecDepth 100000 in
set_option maxHeartbeats 2000000 in
theorem mend_bad (r : Rv) (hr : r.ok) (ps : Ps) (v : Value) (l : List Cv) (w : World) (hp : PL w r.pv ps) (hl : CL w v l) (hE : rdrE r ps (cps l) ≠ 0) : Calls Tryz.prog 10 #[v, .agg r.cs] w (MdU w (rdrE r ps (cps l)) [] []) := by
 have HRD := hid (fun (w' : World) (hb : Below w.heap.size w w') => sread_any r hr ps v l w' (hp.below hb) (hl.below hb))
 obtain ⟨po, c, rfl, _⟩ := hl
 have HR := hid hr
 generalize rdrE r ps (cps l) = E at hE HRD ⊢
 have HE := hid hE
 have hE' : (E != 0) = true := by simpa using hE
 clear hr hp hE
 go_enter Tryz.func10, Tryz.ntmps10
 go_wp2_with (first
  | ((with_reducible refine wpList_boxR rfl _ rfl r.cs ?_ ?_); exact rfl; intro w1 g1 hc1 hb1 hg1; have HA := hid (RBox.mk' HR.out hc1); have HB := hid hb1; clear hc1 hb1)
  | ((with_reducible refine wpList_load_at 44 _ rfl ?_ g1 0 ?_ r.cs (.struct (Tryz.prog.fieldsOf 44)) ?_ underRec rfl ?_ ?_); exact rfl; exact rfl; exact HA.out.whole; (rw [HR.out.size]; exact sizeR))
  | (go_at_call 8; refine (HRD.out _ HB.out).mono ?_; rintro e w5 ⟨pq, rfl, ho, hb5⟩; have HB5 := hid (below_on HB.out hb5); clear ho hb5))
 go_ret3
 exact ⟨_, _, rfl, HB5.out, .inl ⟨HE.out, rfl, rfl⟩⟩
/-- What Mend's loop carries. -/
structure MI (w2 : World) (gi N : Nat) (f : Nat → Int) (i : Nat) (W : World) : Prop where
 at_ : CAt W gi (rowF N fun j => .int .i64 (if j < i then f j else 0)) 3
 be : Below w2.heap.size w2 W
theorem MI.next {w2 : World} {gi N i : Nat} {f : Nat → Int} {W W3 : World} (h : MI w2 gi N f i W) (hb : Below W.heap.size W W3) (hg : w2.heap.size ≤ gi) : MI w2 gi N f (i + 1) (W3.setCell ⟨gi, i, none⟩ (.int .i64 (f i))) where
 at_ := by
  have e : (rowF N fun j => Value.int .i64 (if j < i + 1 then f j else 0)) = (rowF N fun j => Value.int .i64 (if j < i then f j else 0)).setIfInBounds i (.int .i64 (f i)) := by
   rw [rowF_set]
   apply rowF_congr
   intro j _
   by_cases q : j = i
   ·subst q; simp
   ·have : (j < i + 1) = (j < i) := propext ⟨fun _ => by omega, fun _ => by omega⟩
    simp only [this, if_neg q]
  rw [e]
  exact (h.at_.below hb).set i _
 be := below_tr h.be (below_tr (below_less hb h.be.size) ⟨rfl, rfl, rfl, by rw [setCell_size]; exact Nat.le_refl _, fun x hx => heap_setCell_ne _ _ _ _ (by show x ≠ gi; omega)⟩)
theorem run_copyAt {w : World} {g : Nat} {u v : Value} (h : CAt w g #[u, v] 33) : (Instr.loadAt 33 (.pointer (some ⟨g, 0, none⟩))).run Tryz.prog w = .ok (.agg #[u, v]) w := by
 have := run_loadVar_at w g 0 33 #[u, v] _ (fun j x hx => by rw [Nat.zero_add, h.cell]; exact hx) Tryz.underlying33 rfl (by kernel_rfl)
 simp only [Instr.loadAt, Instr.sureAddr, Sem.run_bind, Sem.run_pure, Result.andThen_ok, this]
set_option maxRecDepth 100000 in
set_option maxHeartbeats 4000000 in
theorem mend_good (r : Rv) (hr : r.ok) (ps : Ps) (v : Value) (l : List Cv) (w : World) (k m : Nat) (L : List Nat) (hp : PL w r.pv ps) (hl : CL w v l) (hE : rdrE r ps (cps l) = 0) (hL : rdrB r ps (cps l) = L) (hk : r.k = k) (hm : r.m = m) (h0 : 1 ≤ k) (h1 : 1 ≤ m) (h : k + m ≤ 16) (hn : L.length ≤ 65536) (h8 : ∀ z ∈ L, z < 256) (hll : l.length = k + m) :
  Calls Tryz.prog 10 #[v, .agg r.cs] w (MdU w 0 (fls k m L) (stts (cps l) (fls k m L))) := by
 have HRD := hid (fun (w' : World) (hb : Below w.heap.size w w') => sread_any r hr ps v l w' (hp.below hb) (hl.below hb))
 rw [hE, hL] at HRD
 have HL := hid hl
 obtain ⟨po, c, rfl, _⟩ := hl
 have HR := hid hr
 have HLAY := hid (fun (W : World) (pq : Option Addr) (hb : BL W pq L) => lay_ok pq L.length k m L W h0 h1 h hn (Nat.le_refl _) hb h8)
 obtain ⟨fs, hfs⟩ : ∃ fs, fls k m L = fs := ⟨_, rfl⟩
 obtain ⟨f, hf⟩ : ∃ f : Nat → Int, f = fun i => sttN ((cps l).getD i ⟨0, []⟩) (fs.getD i []) := ⟨_, rfl⟩
 obtain ⟨N, hN⟩ : ∃ N, N = k + m := ⟨_, rfl⟩
 have HFS := hid (show fs.length = N by rw [← hfs, fls_len, hN])
 have HF8 := hid (show ∀ F ∈ fs, ∀ z ∈ F, z < 256 by
  intro F hF
  rw [← hfs] at hF
  unfold fls at hF
  obtain ⟨i, _, rfl⟩ := List.mem_map.1 hF
  exact flL_lt (shd_lt k L i))
 have hlN : l.length = N := by omega
 have HLN := hid hlN
 have HF := hid hf
 have hst : stts (cps l) fs = (List.range N).map f := by unfold stts; rw [cps_len, hlN, hf]
 rw [hfs, hst]
 rw [hfs] at HLAY
 have HMI := run_makeI N (by omega)
 have hN16 : N ≤ 16 := by omega
 have HK := hid hk
 have HM := hid hm
 unfold WhU at HRD
 rw [hlN] at HL HRD ⊢
 clear hr hp hE hL hk hm h0 h1 h h8 hll hfs hN hlN hst hf
 go_enter Tryz.func10, Tryz.ntmps10
 go_wp2_with (first
  | ((with_reducible refine wpList_boxR rfl _ rfl r.cs ?_ ?_); exact rfl; intro w1 g1 hc1 hb1 hg1; have HA := hid (RBox.mk' HR.out hc1); have HB := hid hb1; clear hc1 hb1)
  | ((with_reducible refine wpList_load_at 44 _ rfl ?_ g1 0 ?_ r.cs (.struct (Tryz.prog.fieldsOf 44)) ?_ underRec rfl ?_ ?_); exact rfl; exact rfl; exact HA.out.whole; (rw [HR.out.size]; exact sizeR))
  | (go_at_call 8; refine (HRD.out _ HB.out).mono ?_; rintro e w5 ⟨pq, rfl, ho, hb5⟩; replace HA := hid (HA.out.below HR.out hb5); have HO := hid ho; have HB5 := hid (below_on HB.out hb5); have c5 := HA.out.c5; have c6 := HA.out.c6; rw [HK.out] at c5; rw [HM.out] at c6; clear ho hb5)
  | (go_at_call 5; refine (HLAY.out w5 pq HO.out.bl).mono ?_; rintro e w6 ⟨v6, rfl, hv6, hb6⟩; obtain ⟨gf, vs, rfl, hgf, hcf, hsf, hrf⟩ := hv6; have HCF := hid hcf; have HSF := hid hsf; have HRF := hid hrf; have HGF := hid hgf; have HB6 := hid (below_on HB5.out hb6); clear hcf hsf hrf hgf hb6))
 have HI0 : Hid (MI w6 w6.heap.size N f 0 (w6.alloc (.cells (madeCells #[.int .i64 0] N) 3))) := by
  refine ⟨?_, below_al _ _⟩
  have := CAt.made w6 (madeCells #[.int .i64 0] N) 3
  rw [rowF_made] at this ⊢
  have e : (rowF N fun j => Value.int .i64 (if j < 0 then f j else 0)) = rowF N (fun _ => .int .i64 0) := by apply rowF_congr; intro j _; simp
  rw [e]; exact this
 have hfN := HFS.out
 rw [hfN]
 clear HMI HRD HLAY c5 c6 hfN
 go_loopw [37] (fun q wr => ∃ i : Nat, i ≤ N ∧ q = .int .i64 (i : Int) ∧ Hid (MI w6 w6.heap.size N f i wr)) (fun q _ => (1000000 - intOf q).toNat)
 case atStart => exact ⟨0, Nat.zero_le _, rfl, HI0⟩
 case round =>
  obtain ⟨i, hi, rfl, HI⟩ := hrel
  by_cases hlt : i < N
  ·have hlw := HL.out.below (below_on HB6.out HI.out.be)
   obtain ⟨⟨er, xv, bs⟩, hx⟩ : ∃ x, l[i]? = some x := ⟨_, List.getElem?_eq_getElem (by rw [HLN.out]; exact hlt)⟩
   obtain ⟨b, o, c', e1, _, hcc, hok⟩ := hlw.where hx
   rw [HLN.out] at e1
   cases e1
   obtain ⟨F, hF⟩ : ∃ F, fs[i]? = some F := ⟨_, List.getElem?_eq_getElem (by rw [HFS.out]; exact hlt)⟩
   obtain ⟨u, hu⟩ : ∃ u, vs[i]? = some u := ⟨_, Array.getElem?_eq_getElem (by rw [HSF.out, HFS.out]; exact hlt)⟩
   have hbu := (HRF.out i u F hu hF).1
   obtain ⟨pu, cu, rfl⟩ := Buf.form hbu
   have cF : wr.cell? ⟨gf, i, none⟩ = some (.slice pu F.length cu) := by rw [(HCF.out.below HI.out.be).cell]; exact hu
   have hsx := hok
   obtain ⟨⟨px, cx, hxv, hbl, hlc, hnc⟩, hxs, hx8⟩ := hok
   obtain ⟨q1, q2⟩ := hcc i _ hx
   simp only at hxv hbl hlc hxs hx8 q1 q2
   subst hxv
   have hfi : f i = sttN (Cv.cp ⟨er, .slice px bs.length cx, bs⟩) F := by
    rw [HF.out]
    show sttN ((cps l).getD i ⟨0, []⟩) (fs.getD i []) = _
    rw [List.getD_eq_getElem?_getD, cps_get, hx, List.getD_eq_getElem?_getD, hF]
    rfl
   have HST := hid (fun (W : World) (hb : Below wr.heap.size wr W) => state_any ⟨er, .slice px bs.length cx, bs⟩ F (.slice pu F.length cu) W (hsx.below hb) ((hbu.sl.below HI.out.be).below hb) (HF8.out F (List.mem_of_getElem? hF)))
   rw [← hfi] at HST
   have hi' : (i : Int) < (N : Int) := by omega
   have hw : IntKind.i64.wrap ((i : Int) + 1) = (i : Int) + 1 := IntWalk.i64_in _ ⟨by omega, by omega⟩
   have HCX := hid (CAt.made wr #[.int .i64 er, .slice px bs.length cx] 33)
   have HCL := hid ((HCF.out.below HI.out.be).below (below_al wr (.cells #[.int .i64 er, .slice px bs.length cx] 33)))
   have HBX := hid (below_al wr (.cells #[.int .i64 er, .slice px bs.length cx] 33))
   have HU := hid hu
   clear hlw hcc hsx hbl hlc hnc hxs hx8 hbu hx hF hu hfi
   go_wp2
   have HSS : Hid (∀ W', Below (wr.alloc (.cells #[.int .i64 er, .slice px bs.length cx] 33)).heap.size (wr.alloc (.cells #[.int .i64 er, .slice px bs.length cx] 33)) W' → (fun W' : World => (Instr.loadAt 33 (.pointer (some ⟨wr.heap.size, 0, none⟩))).run Tryz.prog W' = .ok (.agg #[.int .i64 er, .slice px bs.length cx]) W' ∧ W'.cell? ⟨gf, i, none⟩ = some (.slice pu F.length cu)) W') := fun W' hb => ⟨run_copyAt (HCX.out.below hb), by rw [(HCL.out.below hb).cell]; exact HU.out⟩
   refine wp_region_held_drew (S := (fun W' : World => (Instr.loadAt 33 (.pointer (some ⟨wr.heap.size, 0, none⟩))).run Tryz.prog W' = .ok (.agg #[.int .i64 er, .slice px bs.length cx]) W' ∧ W'.cell? ⟨gf, i, none⟩ = some (.slice pu F.length cu))) (by kernel_rfl) (HSS.out _ (below_drew _)) ?_
   have HBD := hid (below_drew (wr.alloc (.cells #[.int .i64 er, .slice px bs.length cx] 33)))
   generalize (wr.alloc (.cells #[.int .i64 er, .slice px bs.length cx] 33)) = wa at HBD HSS HBX HCX HCL ⊢
   generalize wa.drew = wd at HBD ⊢
   clear q1 q2 cF
   intro hHeld
   refine wpAnyH_take (i := 0) (oi := ⟨some 42, .move (.tmp 11), _, _, _, none⟩) (v := .slice (some ⟨w6.heap.size, 0, none⟩) N N) rfl (by kernel_rfl) (by kernel_rfl) (by kernel_rfl) (fun _ _ _ h => h) (Or.inl ⟨by kernel_rfl, by intro W hW; obtain ⟨q0, q1⟩ := hW; go_simp⟩) hHeld ?_
   refine wpAnyH_take (i := 1) (oi := ⟨some 43, .move (.tmp 12), _, _, _, none⟩) (v := .int .i64 (i : Int)) rfl (by kernel_rfl) (by kernel_rfl) (by kernel_rfl) (fun _ _ _ h => h) (Or.inl ⟨by kernel_rfl, by intro W hW; obtain ⟨q0, q1⟩ := hW; go_simp⟩) hHeld ?_
   refine wpAnyH_take (i := 2) (oi := ⟨some 44, .load 33 (.tmp 13), _, _, _, none⟩) (v := .agg #[.int .i64 er, .slice px bs.length cx]) rfl (by kernel_rfl) (by kernel_rfl) (by kernel_rfl) (fun _ _ _ h => h) (Or.inl ⟨by kernel_rfl, fun W hW => exec_load rfl (by kernel_rfl) hW.1⟩) hHeld ?_
   refine wpAnyH_take (i := 3) (oi := ⟨some 45, .move (.tmp 9), _, _, _, none⟩) (v := .slice (some ⟨gf, 0, none⟩) N N) rfl (by kernel_rfl) (by kernel_rfl) (by kernel_rfl) (fun _ _ _ h => h) (Or.inl ⟨by kernel_rfl, by intro W hW; obtain ⟨q0, q1⟩ := hW; go_simp⟩) hHeld ?_
   refine wpAnyH_take (i := 4) (oi := ⟨some 46, .move (.tmp 12), _, _, _, none⟩) (v := .int .i64 (i : Int)) rfl (by kernel_rfl) (by kernel_rfl) (by kernel_rfl) (fun _ _ _ h => h) (Or.inl ⟨by kernel_rfl, by intro W hW; obtain ⟨q0, q1⟩ := hW; go_simp⟩) hHeld ?_
   refine wpAnyH_take (i := 5) (oi := ⟨some 47, .indexAddr 25 (.tmp 45) (.tmp 46), _, _, _, none⟩) (v := .pointer (some ⟨gf, i, none⟩)) rfl (by kernel_rfl) (by kernel_rfl) (by kernel_rfl) (fun _ _ _ h => h) (Or.inl ⟨by kernel_rfl, by intro W hW; obtain ⟨q0, q1⟩ := hW; go_simp⟩) hHeld ?_
   refine wpAnyH_take (i := 6) (oi := ⟨some 48, .load 22 (.tmp 47), _, _, _, none⟩) (v := .slice pu F.length cu) rfl (by kernel_rfl) (by kernel_rfl) (by kernel_rfl) (fun _ _ _ h => h) (Or.inl ⟨by kernel_rfl, by intro W hW; obtain ⟨q0, q1⟩ := hW; go_simp⟩) hHeld ?_
   refine wpAnyH_ready (rs := [7]) (by kernel_rfl) (by simp) ?_
   refine AllReadyH.cons (o := ⟨some 49, .call { callee := .value (.func 23), args := #[.tmp 44, .tmp 48], argTypes := #[33, 22] }, _, _, _, none⟩) rfl (fun K hK => ?_) AllReadyH.nil
   refine step_call rfl 23 #[.agg #[.int .i64 er, .slice px bs.length cx], .slice pu F.length cu] (by kernel_rfl) ((HST.out wd (below_on HBX.out HBD.out)).mono ?_)
   rintro e w9 ⟨rfl, hb9⟩
   refine ⟨_, rfl, hK.out _ _ (HSS.out _ (below_on HBD.out hb9)) (fun hHeld => ?_)⟩
   clear hK K
   have HB9 := hid (below_on (below_on HBX.out HBD.out) hb9)
   have HCX9 := hid (HCX.out.below (below_on HBD.out hb9))
   have HCL9 := hid (HCL.out.below (below_on HBD.out hb9))
   have HI9 := hid (HI.out.at_.below HB9.out)
   have HNX := hid (HI.out.next HB9.out (Nat.le_refl _))
   clear hb9
   refine wpAnyH_take (i := 8) (oi := ⟨some 50, .indexAddr 30 (.tmp 42) (.tmp 43), _, _, _, none⟩) (v := .pointer (some ⟨w6.heap.size, i, none⟩)) rfl (by kernel_rfl) (by kernel_rfl) (by kernel_rfl) (fun _ _ _ h => h) (Or.inl ⟨by kernel_rfl, by intro W hW; obtain ⟨q0, q1⟩ := hW; go_simp⟩) hHeld ?_
   refine wpAnyH_ready (rs := [9]) (by kernel_rfl) (by simp) ?_
   refine AllReadyH.cons (o := ⟨none, .store 3 (.tmp 50) (.tmp 49), _, _, _, none⟩) rfl (fun K hK => ?_) AllReadyH.nil
   with_reducible refine step_store1 3 ?_ ?_ (.tmp 50) (.tmp 49) ?_ w6.heap.size i ?_ (.int .i64 (f i)) ?_ ?_ ?_ ?_ (t := 3) (cs := rowF N fun j => .int .i64 (if j < i then f j else 0)) ?_ ?_ ?_
   ·exact rfl
   ·exact rfl
   ·exact rfl
   ·kernel_rfl
   ·kernel_rfl
   ·exact rfl
   ·kernel_rfl
   ·exact rfl
   ·exact HI9.out
   ·rw [rowF_size]; exact hlt
   have hne : gf ≠ w6.heap.size := by have := HCF.out.lt; omega
   have hne2 : wr.heap.size ≠ w6.heap.size := by have := HI.out.be.size; have := HI.out.at_.lt; omega
   have hS3 : (fun W' : World => (Instr.loadAt 33 (.pointer (some ⟨wr.heap.size, 0, none⟩))).run Tryz.prog W' = .ok (.agg #[.int .i64 er, .slice px bs.length cx]) W' ∧ W'.cell? ⟨gf, i, none⟩ = some (.slice pu F.length cu)) (w9.setCell ⟨w6.heap.size, i, none⟩ (.int .i64 (f i))) :=
    ⟨run_copyAt (HCX9.out.keep (heap_setCell_ne _ _ _ _ hne2)), by rw [(HCL9.out.keep (heap_setCell_ne _ _ _ _ hne)).cell]; exact HU.out⟩
   refine hK.out _ _ hS3 (fun _ => ?_)
   clear hK K hS3 hHeld
   refine wpAnyH_done (by kernel_rfl) ?_ _
   generalize w9.setCell ⟨w6.heap.size, i, none⟩ (.int .i64 (f i)) = wf at HNX ⊢
   go_wp2
   go_roundw
   case rel => exact ⟨i + 1, hlt, by congr 1, HNX⟩
   case measure => simp [intOf]; omega
  ·have hq : ¬ (i : Int) < (N : Int) := by omega
   have hk' : i = N := by omega
   subst hk'
   go_wp2
   go_ret3
   refine ⟨_, _, rfl, below_on HB6.out HI.out.be, .inr ⟨rfl, ⟨gf, vs, by rw [HFS.out]; rfl, ?_, HCF.out.below HI.out.be, HSF.out, fun j u L hu hL => ⟨own_base ((HRF.out j u L hu hL).1.below HI.out.be) HB5.out.size, (HRF.out j u L hu hL).2.below HI.out.be⟩⟩, ⟨w6.heap.size, by rw [List.length_map, List.length_range]; rfl, HB6.out.size, ?_⟩⟩⟩
   ·have := HB5.out.size; have := HGF.out; omega
   ·have h2 := HI.out.at_
    have e : (rowF i fun j => Value.int .i64 (if j < i then f j else 0)) = (((List.range i).map f).map fun z => Value.int .i64 z).toArray := by
     unfold rowF
     congr 1
     rw [List.map_map]
     apply List.map_congr_left
     intro j hj
     simp [List.mem_range.1 hj]
    rw [e] at h2
    exact h2
/-- What Mend tells. -/
theorem mend_any (r : Rv) (hr : r.ok) (ps : Ps) (v : Value) (l : List Cv) (w : World) (hp : PL w r.pv ps) (hl : CL w v l) : Calls Tryz.prog 10 #[v, .agg r.cs] w (MdU w (rdrE r ps (cps l)) (if rdrE r ps (cps l) = 0 then fls r.k.toNat r.m.toNat (rdrB r ps (cps l)) else []) (if rdrE r ps (cps l) = 0 then stts (cps l) (fls r.k.toNat r.m.toNat (rdrB r ps (cps l))) else [])) := by
 by_cases hE : rdrE r ps (cps l) = 0
 ·rw [if_pos hE, if_pos hE, hE]
  have hq : mayB r ps l.length = true := by
   unfold rdrE at hE
   rw [cps_len] at hE
   cases q : mayB r ps l.length
   ·rw [q] at hE; simp at hE
   ·rfl
  obtain ⟨k, m, s, hk, hm, hs, h0, h1, h, hs', hn⟩ := mayB_parts hq
  have e1 : whE k m s r.sum (cps l) = 0 := by
   unfold rdrE at hE
   rw [cps_len, hq, hk, hm, hs] at hE
   simpa using hE
  have e2 : rdrB r ps (cps l) = jnB k m s (cps l) := by
   unfold rdrB
   rw [cps_len, hq, hk, hm, hs]
   simp only [if_true, Int.toNat_natCast]
   unfold whB
   rw [if_pos e1]
  rw [hk, hm]
  simp only [Int.toNat_natCast]
  exact mend_good r hr ps v l w k m _ hp hl hE rfl hk hm h0 h1 h (by rw [e2, jnB_len]; exact hs') (by rw [e2]; exact jnB_lt _ _ _ _) hn
 ·rw [if_neg hE, if_neg hE]
  exact mend_bad r hr ps v l w hp hl hE
end Go.Proofs.YtdohmokhfajjpaaGreatDoor
