/- Texts laid into one, cut to what is needed: the remark ahead of each part says what is proved there. -/
import Derived.Test.YtopibkoklagceaaGreatQba
import Derived.Test.YtopibkoklagceaaGreatQal
import Derived.Test.YtopibkoklagceaaGreatQag
/- Contract of Mend of package shard: all shard files of a version and how each drive's is, in new memory, or the error's number; what was there is as it was. -/
namespace Go.Proofs.YtopibkoklagceaaGreat
open Go Go.RowKit

theorem flL_lt {s : List Nat} (h8 : ∀ z ∈ s, z < 256) : ∀ z ∈ flL s, z < 256 := fun z hz => by
 unfold flL H.fileL at hz
 obtain ⟨i, _, hz⟩ := List.mem_flatMap.1 hz
 unfold H.blkL at hz
 rcases List.mem_append.1 hz with hz | hz
 ·obtain ⟨j, _, rfl⟩ := List.mem_map.1 hz; exact H.sha_lt _ _ _
 ·obtain ⟨j, _, rfl⟩ := List.mem_map.1 hz; exact getD_lt8 h8 _
/-- Numbers in memory of the call's own. -/
def NL (B : Nat) (w : World) (v : Value) (ns : List Int) : Prop := ∃ (g : Nat), v = .slice (some ⟨g, 0, none⟩) ns.length ns.length ∧ B ≤ g ∧ CAt w g (ns.map fun z => Value.int .i64 z).toArray 3
/-- What Mend tells of the drives. -/
def stts (l : List Cp) (fs : List (List Nat)) : List Int := (List.range l.length).map fun i => sttN (l.getD i ⟨0, []⟩) (fs.getD i [])
def MdU (w : World) (E : Int) (Ls : List (List Nat)) (ns : List Int) (e : Ending) (w' : World) : Prop := ∃ u v, e = .returned (.tuple #[u, v, .int .i64 E]) ∧ Below w.heap.size w w' ∧ ((E ≠ 0 ∧ u = .slice none 0 0 ∧ v = .slice none 0 0) ∨ (E = 0 ∧ LL w.heap.size w' u Ls ∧ NL w.heap.size w' v ns))
theorem info_int : (Tryz.prog.info? 3).map (fun i => (i.zero, i.size, i.bytes)) = some (some (.int .i64 0), 1, 8) := by kernel_rfl
theorem run_makeI (n : Nat) (hn : n ≤ 1000) (w : World) : (Instr.makeSlice 47 (.int .i64 (n : Int)) (.int .i64 (n : Int))).run Tryz.prog w = .ok (.slice (some ⟨w.heap.size, 0, none⟩) n n) (w.alloc (.cells (madeCells #[.int .i64 0] n) 3)) := by
 obtain ⟨i0, hi, hz0, hz1, hz2⟩ := info_parts info_int
 have h := run_make (P := Tryz.prog) w 47 3 i0 (.int .i64 0) Tryz.underlying47 hi hz0 .i64 .i64 n n (by omega) (Int.le_refl _) (by rw [hz2]; omega) (by omega)
 rw [hz1] at h
 simpa [Value.cells] using h
set_option maxRecDepth 100000 in
set_option maxHeartbeats 2000000 in
theorem mend_bad (r : Rv) (hr : r.ok) (ps : Ps) (v : Value) (l : List Cv) (w : World) (hp : PL w r.pv ps) (hl : CL w v l) (hE : rdrE r ps (cps l) ≠ 0) : Calls Tryz.prog 21 #[v, .agg r.cs] w (MdU w (rdrE r ps (cps l)) [] []) := by
 have HRD := hid (fun (w' : World) (hb : Below w.heap.size w w') => sread_any r hr ps v l w' (hp.below hb) (hl.below hb))
 obtain ⟨po, c, rfl, _⟩ := hl
 have HR := hid hr
 generalize rdrE r ps (cps l) = E at hE HRD ⊢
 have HE := hid hE
 have hE' : (E != 0) = true := by simpa using hE
 clear hr hp hE
 go_enter Tryz.func21, Tryz.ntmps21
 go_wp2_with (first
  | ((with_reducible refine wpList_boxR rfl _ rfl r.cs ?_ ?_); exact rfl; intro w1 g1 hc1 hb1 hg1; have HA := hid (RBox.mk' HR.out hc1); have HB := hid hb1; clear hc1 hb1)
  | ((with_reducible refine wpList_load_at 40 _ rfl ?_ g1 0 ?_ r.cs (.struct (Tryz.prog.fieldsOf 40)) ?_ underRec rfl ?_ ?_); exact rfl; exact rfl; exact HA.out.whole; (rw [HR.out.size]; exact sizeR))
  | (go_at_call 17; refine (HRD.out _ HB.out).mono ?_; rintro e w5 ⟨pq, rfl, ho, hb5⟩; have HB5 := hid (below_on HB.out hb5); clear ho hb5))
 go_ret3
 exact ⟨_, _, rfl, HB5.out, .inl ⟨HE.out, rfl, rfl⟩⟩
/-- What Mend's loop carries. -/
structure MI (w2 : World) (gi N : Nat) (f : Nat → Int) (i : Nat) (W : World) : Prop where
 at_ : CAt W gi (rowF N fun j => .int .i64 (if j < i then f j else 0)) 3
 be : Below w2.heap.size w2 W
theorem MI.next {w2 : World} {gi N i : Nat} {f : Nat → Int} {W W3 : World} (h : MI w2 gi N f i W) (hb : Below W.heap.size W W3) (hg : w2.heap.size ≤ gi) : MI w2 gi N f (i + 1) (W3.setCell ⟨gi, i, none⟩ (.int .i64 (f i))) where
 at_ := by
  have e : (rowF N fun j => Value.int .i64 (if j < i + 1 then f j else 0)) = (rowF N fun j => Value.int .i64 (if j < i then f j else 0)).setIfInBounds i (.int .i64 (f i)) := by
   rw [rowF_set]
   apply rowF_congr
   intro j _
   by_cases q : j = i
   ·subst q; simp
   ·have : (j < i + 1) = (j < i) := propext ⟨fun _ => by omega, fun _ => by omega⟩
    simp only [this, if_neg q]
  rw [e]
  exact (h.at_.below hb).set i _
 be := below_tr h.be (below_tr (below_less hb h.be.size) ⟨rfl, rfl, rfl, by rw [setCell_size]; exact Nat.le_refl _, fun x hx => heap_setCell_ne _ _ _ _ (by show x ≠ gi; omega)⟩)
theorem run_copyAt {w : World} {g : Nat} {u v : Value} (h : CAt w g #[u, v] 59) : (Instr.loadAt 59 (.pointer (some ⟨g, 0, none⟩))).run Tryz.prog w = .ok (.agg #[u, v]) w := by
 have := run_loadVar_at w g 0 59 #[u, v] _ (fun j x hx => by rw [Nat.zero_add, h.cell]; exact hx) Tryz.underlying59 rfl (by kernel_rfl)
 simp only [Instr.loadAt, Instr.sureAddr, Sem.run_bind, Sem.run_pure, Result.andThen_ok, this]
set_option maxRecDepth 100000 in
set_option maxHeartbeats 4000000 in
theorem mend_good (r : Rv) (hr : r.ok) (ps : Ps) (v : Value) (l : List Cv) (w : World) (k m : Nat) (L : List Nat) (hp : PL w r.pv ps) (hl : CL w v l) (hE : rdrE r ps (cps l) = 0) (hL : rdrB r ps (cps l) = L) (hk : r.k = k) (hm : r.m = m) (h0 : 1 ≤ k) (h1 : 1 ≤ m) (h : k + m ≤ 16) (hn : L.length ≤ 65536) (h8 : ∀ z ∈ L, z < 256) (hll : l.length = k + m) :
  Calls Tryz.prog 21 #[v, .agg r.cs] w (MdU w 0 (fls k m L) (stts (cps l) (fls k m L))) := by
 have HRD := hid (fun (w' : World) (hb : Below w.heap.size w w') => sread_any r hr ps v l w' (hp.below hb) (hl.below hb))
 rw [hE, hL] at HRD
 have HL := hid hl
 obtain ⟨po, c, rfl, _⟩ := hl
 have HR := hid hr
 have HLAY := hid (fun (W : World) (pq : Option Addr) (hb : BL W pq L) => lay_ok pq L.length k m L W h0 h1 h hn (Nat.le_refl _) hb h8)
 obtain ⟨fs, hfs⟩ : ∃ fs, fls k m L = fs := ⟨_, rfl⟩
 obtain ⟨f, hf⟩ : ∃ f : Nat → Int, f = fun i => sttN ((cps l).getD i ⟨0, []⟩) (fs.getD i []) := ⟨_, rfl⟩
 obtain ⟨N, hN⟩ : ∃ N, N = k + m := ⟨_, rfl⟩
 have HFS := hid (show fs.length = N by rw [← hfs, fls_len, hN])
 have HF8 := hid (show ∀ F ∈ fs, ∀ z ∈ F, z < 256 by
  intro F hF
  rw [← hfs] at hF
  unfold fls at hF
  obtain ⟨i, _, rfl⟩ := List.mem_map.1 hF
  exact flL_lt (shd_lt k L i))
 have hlN : l.length = N := by omega
 have HLN := hid hlN
 have HF := hid hf
 have hst : stts (cps l) fs = (List.range N).map f := by unfold stts; rw [cps_len, hlN, hf]
 rw [hfs, hst]
 rw [hfs] at HLAY
 have HMI := run_makeI N (by omega)
 have hN16 : N ≤ 16 := by omega
 have HK := hid hk
 have HM := hid hm
 unfold WhU at HRD
 rw [hlN] at HL HRD ⊢
 clear hr hp hE hL hk hm h0 h1 h h8 hll hfs hN hlN hst hf
 go_enter Tryz.func21, Tryz.ntmps21
 go_wp2_with (first
  | ((with_reducible refine wpList_boxR rfl _ rfl r.cs ?_ ?_); exact rfl; intro w1 g1 hc1 hb1 hg1; have HA := hid (RBox.mk' HR.out hc1); have HB := hid hb1; clear hc1 hb1)
  | ((with_reducible refine wpList_load_at 40 _ rfl ?_ g1 0 ?_ r.cs (.struct (Tryz.prog.fieldsOf 40)) ?_ underRec rfl ?_ ?_); exact rfl; exact rfl; exact HA.out.whole; (rw [HR.out.size]; exact sizeR))
  | (go_at_call 17; refine (HRD.out _ HB.out).mono ?_; rintro e w5 ⟨pq, rfl, ho, hb5⟩; replace HA := hid (HA.out.below HR.out hb5); have HO := hid ho; have HB5 := hid (below_on HB.out hb5); have c5 := HA.out.c5; have c6 := HA.out.c6; rw [HK.out] at c5; rw [HM.out] at c6; clear ho hb5)
  | (go_at_call 6; refine (HLAY.out w5 pq HO.out.bl).mono ?_; rintro e w6 ⟨v6, rfl, hv6, hb6⟩; obtain ⟨gf, vs, rfl, hgf, hcf, hsf, hrf⟩ := hv6; have HCF := hid hcf; have HSF := hid hsf; have HRF := hid hrf; have HGF := hid hgf; have HB6 := hid (below_on HB5.out hb6); clear hcf hsf hrf hgf hb6))
 have HI0 : Hid (MI w6 w6.heap.size N f 0 (w6.alloc (.cells (madeCells #[.int .i64 0] N) 3))) := by
  refine ⟨?_, below_al _ _⟩
  have := CAt.made w6 (madeCells #[.int .i64 0] N) 3
  rw [rowF_made] at this ⊢
  have e : (rowF N fun j => Value.int .i64 (if j < 0 then f j else 0)) = rowF N (fun _ => .int .i64 0) := by apply rowF_congr; intro j _; simp
  rw [e]; exact this
 have hfN := HFS.out
 rw [hfN]
 clear HMI HRD HLAY c5 c6 hfN
 go_loopw [37] (fun q wr => ∃ i : Nat, i ≤ N ∧ q = .int .i64 (i : Int) ∧ Hid (MI w6 w6.heap.size N f i wr)) (fun q _ => (1000000 - intOf q).toNat)
 case atStart => exact ⟨0, Nat.zero_le _, rfl, HI0⟩
 case round =>
  obtain ⟨i, hi, rfl, HI⟩ := hrel
  by_cases hlt : i < N
  ·have hlw := HL.out.below (below_on HB6.out HI.out.be)
   obtain ⟨⟨er, xv, bs⟩, hx⟩ : ∃ x, l[i]? = some x := ⟨_, List.getElem?_eq_getElem (by rw [HLN.out]; exact hlt)⟩
   obtain ⟨b, o, c', e1, _, hcc, hok⟩ := hlw.where hx
   rw [HLN.out] at e1
   cases e1
   obtain ⟨F, hF⟩ : ∃ F, fs[i]? = some F := ⟨_, List.getElem?_eq_getElem (by rw [HFS.out]; exact hlt)⟩
   obtain ⟨u, hu⟩ : ∃ u, vs[i]? = some u := ⟨_, Array.getElem?_eq_getElem (by rw [HSF.out, HFS.out]; exact hlt)⟩
   have hbu := (HRF.out i u F hu hF).1
   obtain ⟨pu, cu, rfl⟩ := Buf.form hbu
   have cF : wr.cell? ⟨gf, i, none⟩ = some (.slice pu F.length cu) := by rw [(HCF.out.below HI.out.be).cell]; exact hu
   have hsx := hok
   obtain ⟨⟨px, cx, hxv, hbl, hlc, hnc⟩, hxs, hx8⟩ := hok
   obtain ⟨q1, q2⟩ := hcc i _ hx
   simp only at hxv hbl hlc hxs hx8 q1 q2
   subst hxv
   have hfi : f i = sttN (Cv.cp ⟨er, .slice px bs.length cx, bs⟩) F := by
    rw [HF.out]
    show sttN ((cps l).getD i ⟨0, []⟩) (fs.getD i []) = _
    rw [List.getD_eq_getElem?_getD, cps_get, hx, List.getD_eq_getElem?_getD, hF]
    rfl
   have HST := hid (fun (W : World) (hb : Below wr.heap.size wr W) => state_any ⟨er, .slice px bs.length cx, bs⟩ F (.slice pu F.length cu) W (hsx.below hb) ((hbu.sl.below HI.out.be).below hb) (HF8.out F (List.mem_of_getElem? hF)))
   rw [← hfi] at HST
   have hi' : (i : Int) < (N : Int) := by omega
   have hw : IntKind.i64.wrap ((i : Int) + 1) = (i : Int) + 1 := IntWalk.i64_in _ ⟨by omega, by omega⟩
   have HCX := hid (CAt.made wr #[.int .i64 er, .slice px bs.length cx] 59)
   have HCL := hid ((HCF.out.below HI.out.be).below (below_al wr (.cells #[.int .i64 er, .slice px bs.length cx] 59)))
   have HBX := hid (below_al wr (.cells #[.int .i64 er, .slice px bs.length cx] 59))
   have HU := hid hu
   clear hlw hcc hsx hbl hlc hnc hxs hx8 hbu hx hF hu hfi
   go_wp2
   have HSS : Hid (∀ W', Below (wr.alloc (.cells #[.int .i64 er, .slice px bs.length cx] 59)).heap.size (wr.alloc (.cells #[.int .i64 er, .slice px bs.length cx] 59)) W' → (fun W' : World => (Instr.loadAt 59 (.pointer (some ⟨wr.heap.size, 0, none⟩))).run Tryz.prog W' = .ok (.agg #[.int .i64 er, .slice px bs.length cx]) W' ∧ W'.cell? ⟨gf, i, none⟩ = some (.slice pu F.length cu)) W') := fun W' hb => ⟨run_copyAt (HCX.out.below hb), by rw [(HCL.out.below hb).cell]; exact HU.out⟩
   refine wp_region_held_drew (S := (fun W' : World => (Instr.loadAt 59 (.pointer (some ⟨wr.heap.size, 0, none⟩))).run Tryz.prog W' = .ok (.agg #[.int .i64 er, .slice px bs.length cx]) W' ∧ W'.cell? ⟨gf, i, none⟩ = some (.slice pu F.length cu))) (by kernel_rfl) (HSS.out _ (below_drew _)) ?_
   have HBD := hid (below_drew (wr.alloc (.cells #[.int .i64 er, .slice px bs.length cx] 59)))
   generalize (wr.alloc (.cells #[.int .i64 er, .slice px bs.length cx] 59)) = wa at HBD HSS HBX HCX HCL ⊢
   generalize wa.drew = wd at HBD ⊢
   clear q1 q2 cF
   intro hHeld
   refine wpAnyH_take (i := 0) (oi := ⟨some 42, .move (.tmp 11), _, _, _, none⟩) (v := .slice (some ⟨w6.heap.size, 0, none⟩) N N) rfl (by kernel_rfl) (by kernel_rfl) (by kernel_rfl) (fun _ _ _ h => h) (Or.inl ⟨by kernel_rfl, by intro W hW; obtain ⟨q0, q1⟩ := hW; go_simp⟩) hHeld ?_
   refine wpAnyH_take (i := 1) (oi := ⟨some 43, .move (.tmp 12), _, _, _, none⟩) (v := .int .i64 (i : Int)) rfl (by kernel_rfl) (by kernel_rfl) (by kernel_rfl) (fun _ _ _ h => h) (Or.inl ⟨by kernel_rfl, by intro W hW; obtain ⟨q0, q1⟩ := hW; go_simp⟩) hHeld ?_
   refine wpAnyH_take (i := 2) (oi := ⟨some 44, .load 59 (.tmp 13), _, _, _, none⟩) (v := .agg #[.int .i64 er, .slice px bs.length cx]) rfl (by kernel_rfl) (by kernel_rfl) (by kernel_rfl) (fun _ _ _ h => h) (Or.inl ⟨by kernel_rfl, fun W hW => exec_load rfl (by kernel_rfl) hW.1⟩) hHeld ?_
   refine wpAnyH_take (i := 3) (oi := ⟨some 45, .move (.tmp 9), _, _, _, none⟩) (v := .slice (some ⟨gf, 0, none⟩) N N) rfl (by kernel_rfl) (by kernel_rfl) (by kernel_rfl) (fun _ _ _ h => h) (Or.inl ⟨by kernel_rfl, by intro W hW; obtain ⟨q0, q1⟩ := hW; go_simp⟩) hHeld ?_
   refine wpAnyH_take (i := 4) (oi := ⟨some 46, .move (.tmp 12), _, _, _, none⟩) (v := .int .i64 (i : Int)) rfl (by kernel_rfl) (by kernel_rfl) (by kernel_rfl) (fun _ _ _ h => h) (Or.inl ⟨by kernel_rfl, by intro W hW; obtain ⟨q0, q1⟩ := hW; go_simp⟩) hHeld ?_
   refine wpAnyH_take (i := 5) (oi := ⟨some 47, .indexAddr 24 (.tmp 45) (.tmp 46), _, _, _, none⟩) (v := .pointer (some ⟨gf, i, none⟩)) rfl (by kernel_rfl) (by kernel_rfl) (by kernel_rfl) (fun _ _ _ h => h) (Or.inl ⟨by kernel_rfl, by intro W hW; obtain ⟨q0, q1⟩ := hW; go_simp⟩) hHeld ?_
   refine wpAnyH_take (i := 6) (oi := ⟨some 48, .load 22 (.tmp 47), _, _, _, none⟩) (v := .slice pu F.length cu) rfl (by kernel_rfl) (by kernel_rfl) (by kernel_rfl) (fun _ _ _ h => h) (Or.inl ⟨by kernel_rfl, by intro W hW; obtain ⟨q0, q1⟩ := hW; go_simp⟩) hHeld ?_
   refine wpAnyH_ready (rs := [7]) (by kernel_rfl) (by simp) ?_
   refine AllReadyH.cons (o := ⟨some 49, .call { callee := .value (.func 44), args := #[.tmp 44, .tmp 48], argTypes := #[59, 22] }, _, _, _, none⟩) rfl (fun K hK => ?_) AllReadyH.nil
   refine step_call rfl 44 #[.agg #[.int .i64 er, .slice px bs.length cx], .slice pu F.length cu] (by kernel_rfl) ((HST.out wd (below_on HBX.out HBD.out)).mono ?_)
   rintro e w9 ⟨rfl, hb9⟩
   refine ⟨_, rfl, hK.out _ _ (HSS.out _ (below_on HBD.out hb9)) (fun hHeld => ?_)⟩
   clear hK K
   have HB9 := hid (below_on (below_on HBX.out HBD.out) hb9)
   have HCX9 := hid (HCX.out.below (below_on HBD.out hb9))
   have HCL9 := hid (HCL.out.below (below_on HBD.out hb9))
   have HI9 := hid (HI.out.at_.below HB9.out)
   have HNX := hid (HI.out.next HB9.out (Nat.le_refl _))
   clear hb9
   refine wpAnyH_take (i := 8) (oi := ⟨some 50, .indexAddr 47 (.tmp 42) (.tmp 43), _, _, _, none⟩) (v := .pointer (some ⟨w6.heap.size, i, none⟩)) rfl (by kernel_rfl) (by kernel_rfl) (by kernel_rfl) (fun _ _ _ h => h) (Or.inl ⟨by kernel_rfl, by intro W hW; obtain ⟨q0, q1⟩ := hW; go_simp⟩) hHeld ?_
   refine wpAnyH_ready (rs := [9]) (by kernel_rfl) (by simp) ?_
   refine AllReadyH.cons (o := ⟨none, .store 3 (.tmp 50) (.tmp 49), _, _, _, none⟩) rfl (fun K hK => ?_) AllReadyH.nil
   with_reducible refine step_store1 3 ?_ ?_ (.tmp 50) (.tmp 49) ?_ w6.heap.size i ?_ (.int .i64 (f i)) ?_ ?_ ?_ ?_ (t := 3) (cs := rowF N fun j => .int .i64 (if j < i then f j else 0)) ?_ ?_ ?_
   ·exact rfl
   ·exact rfl
   ·exact rfl
   ·kernel_rfl
   ·kernel_rfl
   ·exact rfl
   ·kernel_rfl
   ·exact rfl
   ·exact HI9.out
   ·rw [rowF_size]; exact hlt
   have hne : gf ≠ w6.heap.size := by have := HCF.out.lt; omega
   have hne2 : wr.heap.size ≠ w6.heap.size := by have := HI.out.be.size; have := HI.out.at_.lt; omega
   have hS3 : (fun W' : World => (Instr.loadAt 59 (.pointer (some ⟨wr.heap.size, 0, none⟩))).run Tryz.prog W' = .ok (.agg #[.int .i64 er, .slice px bs.length cx]) W' ∧ W'.cell? ⟨gf, i, none⟩ = some (.slice pu F.length cu)) (w9.setCell ⟨w6.heap.size, i, none⟩ (.int .i64 (f i))) :=
    ⟨run_copyAt (HCX9.out.keep (heap_setCell_ne _ _ _ _ hne2)), by rw [(HCL9.out.keep (heap_setCell_ne _ _ _ _ hne)).cell]; exact HU.out⟩
   refine hK.out _ _ hS3 (fun _ => ?_)
   clear hK K hS3 hHeld
   refine wpAnyH_done (by kernel_rfl) ?_ _
   generalize w9.setCell ⟨w6.heap.size, i, none⟩ (.int .i64 (f i)) = wf at HNX ⊢
   go_wp2
   go_roundw
   case rel => exact ⟨i + 1, hlt, by congr 1, HNX⟩
   case measure => simp [intOf]; omega
  ·have hq : ¬ (i : Int) < (N : Int) := by omega
   have hk' : i = N := by omega
   subst hk'
   go_wp2
   go_ret3
   refine ⟨_, _, rfl, below_on HB6.out HI.out.be, .inr ⟨rfl, ⟨gf, vs, by rw [HFS.out]; rfl, ?_, HCF.out.below HI.out.be, HSF.out, fun j u L hu hL => ⟨own_base ((HRF.out j u L hu hL).1.below HI.out.be) HB5.out.size, (HRF.out j u L hu hL).2.below HI.out.be⟩⟩, ⟨w6.heap.size, by rw [List.length_map, List.length_range]; rfl, HB6.out.size, ?_⟩⟩⟩
   ·have := HB5.out.size; have := HGF.out; omega
   ·have h2 := HI.out.at_
    have e : (rowF i fun j => Value.int .i64 (if j < i then f j else 0)) = (((List.range i).map f).map fun z => Value.int .i64 z).toArray := by
     unfold rowF
     congr 1
     rw [List.map_map]
     apply List.map_congr_left
     intro j hj
     simp [List.mem_range.1 hj]
    rw [e] at h2
    exact h2
/-- What Mend tells. -/
theorem mend_any (r : Rv) (hr : r.ok) (ps : Ps) (v : Value) (l : List Cv) (w : World) (hp : PL w r.pv ps) (hl : CL w v l) : Calls Tryz.prog 21 #[v, .agg r.cs] w (MdU w (rdrE r ps (cps l)) (if rdrE r ps (cps l) = 0 then fls r.k.toNat r.m.toNat (rdrB r ps (cps l)) else []) (if rdrE r ps (cps l) = 0 then stts (cps l) (fls r.k.toNat r.m.toNat (rdrB r ps (cps l))) else [])) := by
 by_cases hE : rdrE r ps (cps l) = 0
 ·rw [if_pos hE, if_pos hE, hE]
  have hq : mayB r ps l.length = true := by
   unfold rdrE at hE
   rw [cps_len] at hE
   cases q : mayB r ps l.length
   ·rw [q] at hE; simp at hE
   ·rfl
  obtain ⟨k, m, s, hk, hm, hs, h0, h1, h, hs', hn⟩ := mayB_parts hq
  have e1 : whE k m s r.sum (cps l) = 0 := by
   unfold rdrE at hE
   rw [cps_len, hq, hk, hm, hs] at hE
   simpa using hE
  have e2 : rdrB r ps (cps l) = jnB k m s (cps l) := by
   unfold rdrB
   rw [cps_len, hq, hk, hm, hs]
   simp only [if_true, Int.toNat_natCast]
   unfold whB
   rw [if_pos e1]
  rw [hk, hm]
  simp only [Int.toNat_natCast]
  exact mend_good r hr ps v l w k m _ hp hl hE rfl hk hm h0 h1 h (by rw [e2, jnB_len]; exact hs') (by rw [e2]; exact jnB_lt _ _ _ _) hn
 ·rw [if_neg hE, if_neg hE]
  exact mend_bad r hr ps v l w hp hl hE
end Go.Proofs.YtopibkoklagceaaGreat

/- Contracts of of and all of the statements on shard: the record of bytes; files as drives answer them, in new memory; what was there is as it was. -/
namespace Go.Proofs.YtopibkoklagceaaGreat
open Go Go.RowKit

def dat0 : ByteArray := ⟨#[48, 49, 50, 51, 52, 53, 54, 55, 56, 57, 97, 98, 99, 100, 101, 102, 48, 49, 50, 51, 52, 53, 54, 55, 56, 57, 97, 98, 99, 100, 101, 102]⟩
/-- The record of bytes. -/
def ofR (n k m : Int) (d : List Nat) : Rv := ⟨⟨#[110, 117, 108, 108]⟩, 0, false, n, ⟨#[48]⟩, k, m, dat0, d, .slice none 0 0, ⟨#[]⟩⟩
theorem built_of (n k m : Int) (f : Nat → Nat) : Tryz.prog.built 40 [(0, .string ⟨#[110, 117, 108, 108]⟩), (3, .int .i64 n), (4, .string ⟨#[48]⟩), (5, .int .i64 k), (6, .int .i64 m), (7, .string dat0), (8, .agg (((List.range 32).map f).map u8).toArray)] = some (ofR n k m ((List.range 32).map f)).cs := by kernel_rfl
theorem ofR_ok {n k m : Int} {d : List Nat} (h : d.length = 32) (h8 : ∀ z ∈ d, z < 256) : (ofR n k m d).ok where
 sl := h
 s8 := h8
 i := by show (4 : Nat) ≤ _; omega
 e := by show (1 : Nat) ≤ _; omega
 d := by show (32 : Nat) ≤ _; omega
 u := by show (0 : Nat) ≤ _; omega
set_option maxRecDepth 100000 in
theorem of11_any (po : Option Addr) (c : Nat) (b : List Nat) (k m : Int) (w : World) (hb : BL w po b) (h8 : ∀ z ∈ b, z < 256) (hc : b.length ≤ c) (hn : b.length ≤ 1000000) :
  Calls Tryz.prog 34 #[.slice po b.length c, .int .i64 k, .int .i64 m] w fun e w' => e = .returned (.agg (ofR b.length k m (dig b)).cs) ∧ Below w.heap.size w w' := by
 have HDS := hid (fun (W : World) (h : Below w.heap.size w W) => dsum_any po c b W hn hc (hb.below h) h8)
 obtain ⟨Z, hZ⟩ : ∃ Z, ofR b.length k m (dig b) = Z := ⟨_, rfl⟩
 have zok : Z.ok := hZ ▸ ofR_ok (dig_len b) (dig_lt b)
 have hbt := built_of b.length k m (fun i => H.sha b.length (fun j => b.getD j 0) i)
 have hbt2 : Tryz.prog.built 40 [(0, .string ⟨#[110, 117, 108, 108]⟩), (3, .int .i64 b.length), (4, .string ⟨#[48]⟩), (5, .int .i64 k), (6, .int .i64 m), (7, .string dat0), (8, .agg ((dig b).map u8).toArray)] = some Z.cs := by rw [← hZ]; exact hbt
 have hone : Z.pv.oneCell' = true := hZ ▸ rfl
 rw [hZ]
 generalize ((dig b).map u8).toArray = D at hbt2 HDS
 have HB := hid hbt2
 clear hZ hbt hbt2 hb h8
 obtain ⟨n, hn2⟩ : ∃ n, b.length = n := ⟨_, rfl⟩
 rw [hn2] at HDS HB hc hn ⊢
 clear hn2 hc
 go_enter Tryz.func34, Tryz.ntmps34
 go_wp2_with (first
  | ((with_reducible refine wpList_allocR rfl rfl ?_); intro w1 g1 hz1 hb1 hg1; have HZ1 := hid hz1; have HB1 := hid hb1; clear hz1 hb1)
  | (go_at_call 51; refine (HDS.out _ HB1.out).mono ?_; rintro e w3 ⟨rfl, hb3⟩; replace HZ1 := hid (HZ1.out.below zR_ok hb3); have HB3 := hid (below_on HB1.out hb3); clear hb3)
  | ((with_reducible refine wpList_build_want 40 _ rfl ?_ Z.cs ?_ ?_); exact rfl; exact HB.out)
  | ((with_reducible refine wpList_storeR rfl rfl _ _ rfl g1 ?_ (r := Z) ?_ zR_ok zok hone HZ1.out ?_); exact rfl; exact rfl; intro w5 h5 o5; have H5 := hid h5; have O5 := hid o5; clear h5 o5))
 refine ret_rowR rfl g1 rfl rfl H5.out zok ⟨rfl, ?_⟩
 exact below_tr HB3.out (O5.out.below HB3.out.size (fun i e => by omega))
def Cv.row11 (x : Cv) : List Value := [i64 x.err, x.v]
theorem row11_len (L : List Cv) : ∀ r ∈ L.map Cv.row11, r.length = 2 := fun r hr => by obtain ⟨x, _, rfl⟩ := List.mem_map.1 hr; rfl
theorem XB.cl11 {B : Nat} {w : World} {v : Value} {L : List Cv} (h : XB 59 2 B w v (L.map Cv.row11)) (he : ∀ x ∈ L, CvOk w x) (hn : L.length ≤ 1000) : CL w v L := by
 obtain ⟨po, c, e, h1, h2⟩ := h.form
 rw [List.length_map] at e h1
 refine ⟨po, c, e, h1, hn, h2, ?_, he⟩
 by_cases h0 : 0 < L.length
 ·obtain ⟨g, c2, e2, _, _, _, h3⟩ := h.cells (row11_len L) (by rw [List.length_map]; exact h0)
  rw [List.length_map] at e2
  rw [e] at e2
  cases e2
  refine Or.inr ⟨g, 0, rfl, fun i x hx => ?_⟩
  have h4 := h3 i x.row11 (by rw [List.getElem?_map, hx]; rfl)
  exact ⟨by have := h4 0 (i64 x.err) rfl; simpa using this, h4 1 x.v rfl⟩
 ·exact Or.inl (List.eq_nil_of_length_eq_zero (by omega))
theorem infoCp11 : (Tryz.prog.info? 59).map (fun i => (i.zero, i.size, i.bytes)) = some (some (.agg #[.int .i64 0, .slice none 0 0]), 2, 32) := by kernel_rfl
/-- One more copy. -/
theorem XB.one11 {B : Nat} {w w1 : World} {v u : Value} {L : List Cv} {g : Nat} {e : Int} (h : XB 59 2 B w v (L.map Cv.row11)) (hb : Below w.heap.size w w1) (hg : CAt w1 g #[.int .i64 e, u] 59) (hu : u.oneCell' = true) (hn : L.length ≤ 1000) (hB : B ≤ w.heap.size) (bs : List Nat) :
  ∃ po k c w', (Builtin.append_ #[35, 35] 35 #[v, .slice (some ⟨g, 0, none⟩) 1 1]).run Tryz.prog w1 = .ok (.slice po k c) w' ∧ XB 59 2 B w' (.slice po k c) ((L ++ [(⟨e, u, bs⟩ : Cv)]).map Cv.row11) ∧ Below B w1 w' := by
 have h1 := h.below hb
 obtain ⟨v', w', hr, hx, hgr, _⟩ := h1.app (T := 35) (ty := 35) Tryz.underlying35 infoCp11 rfl (by omega) g 0 1 [[.int .i64 e, u]] (by simp) (by intro r hr x hx; simp at hr; subst hr; simp at hx; rcases hx with rfl | rfl; rfl; exact hu)
  (by
   intro i r hi j x hj
   have hi0 : i = 0 := by
    rcases Nat.eq_zero_or_pos i with q | q
    ·exact q
    ·rw [List.getElem?_eq_none (by simp; omega)] at hi; cases hi
   subst hi0
   simp at hi
   subst hi
   rw [show (0 + 0 * 2 + j) = j by omega, hg.cell]
   simpa using hj) (by simp; omega) (by omega) (by have := hb.size; omega)
 obtain ⟨po, k, c, e1, _⟩ : ∃ po k c, v' = .slice po k c ∧ True := by
  obtain ⟨po, c, e, _⟩ := hx.form
  exact ⟨po, _, c, e, trivial⟩
 subst e1
 exact ⟨po, k, c, w', hr, by rw [List.map_append]; exact hx, h1.mono (by have := hb.size; omega) hgr⟩
/-- Files as drives answer them. -/
def cvs (vs : List Value) (Ls : List (List Nat)) : List Cv := (List.range Ls.length).map fun i => ⟨0, vs.getD i (.slice none 0 0), Ls.getD i []⟩
theorem cvs_len (vs : List Value) (Ls : List (List Nat)) : (cvs vs Ls).length = Ls.length := by simp [cvs]
theorem cvs_take (vs : List Value) (Ls : List (List Nat)) (i : Nat) (hi : i < Ls.length) : (cvs vs Ls).take (i + 1) = (cvs vs Ls).take i ++ [⟨0, vs.getD i (.slice none 0 0), Ls.getD i []⟩] := by
 rw [List.take_add_one]
 congr 1
 simp [cvs, hi]
def AllU (w : World) (vs : Array Value) (Ls : List (List Nat)) (e : Ending) (w' : World) : Prop := ∃ u : Value, e = .returned u ∧ XB 59 2 w.heap.size w' u ((cvs vs.toList Ls).map Cv.row11) ∧ Below w.heap.size w w'
theorem buf_cvok {B : Nat} {w : World} {v : Value} {L : List Nat} (e : Int) (h : Buf B w v L) (hs : L.length ≤ 100000) (h8 : ∀ z ∈ L, z < 256) : CvOk w ⟨e, v, L⟩ := by
 obtain ⟨po, c, rfl⟩ := Buf.form h
 exact ⟨⟨po, c, rfl, h.bl, h.cap.2, fun e => by subst e; exact h.capn⟩, hs, h8⟩
set_option maxRecDepth 100000 in
set_option maxHeartbeats 2000000 in
theorem all11_any (B g : Nat) (vs : Array Value) (Ls : List (List Nat)) (w : World) (hc : CAt w g vs 22) (hsz : vs.size = Ls.length) (hr : ∀ (i : Nat) (u : Value) (L : List Nat), vs[i]? = some u → Ls[i]? = some L → Buf B w u L) (hn : Ls.length ≤ 100) :
  Calls Tryz.prog 33 #[.slice (some ⟨g, 0, none⟩) Ls.length Ls.length] w (AllU w vs Ls) := by
 obtain ⟨N, hN⟩ : ∃ N, Ls.length = N := ⟨_, rfl⟩
 have HN := hid hN
 have HC := hid hc
 have HR := hid hr
 have HSZ := hid hsz
 have hn2 : N ≤ 100 := by omega
 rw [hN]
 clear hc hr hsz hN hn
 go_enter Tryz.func33, Tryz.ntmps33
 go_wp2
 go_loopw [3, 4] (fun u q wr => ∃ i : Nat, i ≤ N ∧ q = .int .i64 (i : Int) ∧ ∃ po k c, u = .slice po k c ∧ Hid (XB 59 2 w.heap.size wr u (((cvs vs.toList Ls).take i).map Cv.row11)) ∧ Hid (Below w.heap.size w wr)) (fun _ q _ => (1000000 - intOf q).toNat)
 case atStart => exact ⟨0, Nat.zero_le _, rfl, none, 0, 0, rfl, XB.nil _ _ _ _, Below.refl _ _⟩
 case round =>
  obtain ⟨i, hi, rfl, po, kk, cc, rfl, HX, HB⟩ := hrel
  by_cases hlt : i < N
  ·obtain ⟨u, hu⟩ : ∃ u, vs[i]? = some u := ⟨_, Array.getElem?_eq_getElem (by rw [HSZ.out, HN.out]; exact hlt)⟩
   obtain ⟨L, hL⟩ : ∃ L, Ls[i]? = some L := ⟨_, List.getElem?_eq_getElem (by rw [HN.out]; exact hlt)⟩
   have hbu := HR.out i u L hu hL
   obtain ⟨pu, cu, rfl⟩ := Buf.form hbu
   have cF : wr.cell? ⟨g, i, none⟩ = some (.slice pu L.length cu) := by rw [(HC.out.below HB.out).cell]; exact hu
   have hi' : (i : Int) < (N : Int) := by omega
   have hw : IntKind.i64.wrap ((i : Int) + 1) = (i : Int) + 1 := IntWalk.i64_in _ ⟨by omega, by omega⟩
   have HAP := hid (fun (w1 : World) (g1 : Nat) (hb : Below wr.heap.size wr w1) (hg : CAt w1 g1 #[.int .i64 0, .slice pu L.length cu] 59) => HX.out.one11 hb hg rfl (by rw [List.length_take, cvs_len, HN.out]; omega) HB.out.size L)
   have HT := hid (cvs_take vs.toList Ls i (by rw [HN.out]; exact hlt))
   have HTE := hid (show (⟨0, vs.toList.getD i (.slice none 0 0), Ls.getD i []⟩ : Cv) = ⟨0, .slice pu L.length cu, L⟩ by
    have e1 : vs.toList.getD i (.slice none 0 0) = .slice pu L.length cu := by rw [List.getD_eq_getElem?_getD, Array.getElem?_toList, hu]; rfl
    have e2 : Ls.getD i [] = L := by rw [List.getD_eq_getElem?_getD, hL]; rfl
    rw [e1, e2])
   clear hbu hu hL
   go_wp2_with (first
    | ((with_reducible refine wpList_build_want 59 _ rfl ?_ #[.int .i64 0, .slice pu L.length cu] ?_ ?_); exact rfl; kernel_rfl)
    | ((with_reducible refine wpList_buildX (k := 2) Tryz.underlying35 infoCp11 (by omega) (by omega) rfl _ rfl #[.int .i64 0, .slice pu L.length cu] rfl ?_ ?_); exact rfl; intro w1 g1 hg1 hb1 he1; obtain ⟨p2, k2, c2, w2, hrun, hx2, hb2⟩ := HAP.out w1 g1 hb1 hg1; have HRUN := hid hrun; have HX2 := hid hx2; have HB2 := hid (below_tr HB.out (below_tr (below_less hb1 HB.out.size) hb2)); clear hg1 hb1 he1 hrun hx2 hb2)
    | (at_builtin; refine wpList_append_run _ _ 35 35 rfl rfl _ _ _ rfl rfl HRUN.out ?_))
   go_roundw
   case rel => exact ⟨i + 1, hlt, by congr 1, p2, k2, c2, rfl, (by rw [HT.out, HTE.out]; exact HX2.out), HB2⟩
   case measure => simp [intOf]; omega
  ·have hq : ¬ (i : Int) < (N : Int) := by omega
   have hk' : i = N := by omega
   go_wp2
   go_ret
   have hX := HX.out
   rw [List.take_of_length_le (by rw [cvs_len, HN.out]; omega)] at hX
   exact ⟨_, rfl, hX, HB.out⟩
theorem cps_cvs (vs : List Value) (Ls : List (List Nat)) : cps (cvs vs Ls) = Ls.map (fun L => ⟨0, L⟩) := by
 apply List.ext_getElem?
 intro j
 rw [cps_get]
 unfold cvs
 rw [List.getElem?_map, List.getElem?_map]
 rcases Nat.lt_or_ge j Ls.length with q | q
 ·simp [q, Cv.cp]
 ·simp [q]
theorem cvs_ok {B : Nat} {w : World} {vs : Array Value} {Ls : List (List Nat)} (hsz : vs.size = Ls.length) (hr : ∀ (i : Nat) (u : Value) (L : List Nat), vs[i]? = some u → Ls[i]? = some L → Buf B w u L) (hs : ∀ L ∈ Ls, L.length ≤ 100000) (h8 : ∀ L ∈ Ls, ∀ z ∈ L, z < 256) : ∀ x ∈ cvs vs.toList Ls, CvOk w x := by
 intro x hx
 obtain ⟨j, hj, rfl⟩ := List.mem_map.1 hx
 have hj := List.mem_range.1 hj
 have hL : Ls[j]? = some (Ls.getD j []) := by rw [List.getD_eq_getElem?_getD, List.getElem?_eq_getElem hj]; rfl
 have hv : vs[j]? = some (vs.toList.getD j (.slice none 0 0)) := by
  have : j < vs.size := by rw [hsz]; exact hj
  rw [List.getD_eq_getElem?_getD, Array.getElem?_toList, Array.getElem?_eq_getElem this]; rfl
 exact buf_cvok 0 (hr j _ _ hv hL) (hs _ (List.mem_of_getElem? hL)) (h8 _ (List.mem_of_getElem? hL))
/-- The first copy is written over. -/
theorem xb_set0 {B : Nat} {w : World} {u : Value} {x : Cv} {L : List Cv} (h : XB 59 2 B w u ((x :: L).map Cv.row11)) : ∃ g c, u = .slice (some ⟨g, 0, none⟩) (L.length + 1) c ∧ B ≤ g ∧ (∃ cs, CAt w g cs 59) ∧ w.cell? ⟨g, 0, none⟩ = some (i64 x.err) ∧ w.cell? ⟨g, 1, none⟩ = some x.v ∧ w.frozen? ⟨g, 0, none⟩ = false ∧ w.frozen? ⟨g, 1, none⟩ = false ∧
  ∀ y : Cv, XB 59 2 B ((w.setCell ⟨g, 0, none⟩ (i64 y.err)).setCell ⟨g, 1, none⟩ y.v) u ((y :: L).map Cv.row11) := by
 obtain ⟨g, c, e1, _, _, _, hcell⟩ := h.cells (row11_len _) (by simp)
 rcases h.2 with ⟨e, h0⟩ | ⟨g2, cap, cur, e, hB, hg, h1, h2, h3, h4⟩
 ·rw [e1] at e; cases e
 rw [e1] at e
 cases e
 have hc : CAt w g cur 59 := hg
 refine ⟨g, c, by rw [e1]; simp, hB, ⟨cur, hc⟩, ?_, ?_, hc.free 0, hc.free 1, fun y => ?_⟩
 ·have := hcell 0 _ (by simp; rfl) 0 _ rfl; simpa using this
 ·have := hcell 0 _ (by simp; rfl) 1 _ rfl; simpa using this
 ·refine ⟨?_, .inr ⟨g, c, (cur.setIfInBounds 0 (i64 y.err)).setIfInBounds 1 y.v, by rw [e1]; simp, hB, (hc.set 0 _).set 1 _, by simpa using h1, h2, by simpa using h3, ?_⟩⟩
  ·have hl : ∀ (K : List Cv), ((K.map Cv.row11).flatten).length = K.length * 2 := fun K => by
     induction K with
     | nil => rfl
     | cons a K ih => simp [Cv.row11] at ih ⊢; omega
   rw [hl]; simp
  ·rw [Array.toList_setIfInBounds, Array.toList_setIfInBounds]
   have h5 : cur.toList.take (2 + L.length * 2) = i64 x.err :: x.v :: (L.map Cv.row11).flatten := by
    have e6 : (List.map Cv.row11 (x :: L)).length * 2 = 2 + L.length * 2 := by simp; omega
    rw [← e6]; rw [h4]; simp [Cv.row11]
   have e6 : (List.map Cv.row11 (y :: L)).length * 2 = 2 + L.length * 2 := by simp; omega
   rw [e6]
   match hq : cur.toList with
   | [] => rw [hq] at h5; simp at h5
   | [a] => rw [hq] at h5; simp [Nat.add_comm 2] at h5
   | a :: b :: t =>
    rw [hq] at h5
    rw [show 2 + L.length * 2 = (L.length * 2 + 1) + 1 by omega] at h5 ⊢
    simp only [List.take_succ_cons, List.cons.injEq] at h5
    simp [Cv.row11, h5.2.2]
end Go.Proofs.YtopibkoklagceaaGreat

/- copies of the statements on shard: copies in memory of their own (as stage 9's). -/
namespace Go.Proofs.YtopibkoklagceaaGreat
open Go Go.RowKit

theorem own_otherO11 {BA e1 z1 n1 BB e2 z2 n2 : Nat} {w w' : World} {u v : Value} {xs ys : List Value} (h1 : w.ownsRow BA e1 z1 u n1 xs) (h2 : w.ownsRow BB e2 z2 v n2 ys) (ht : e1 ≠ e2) (hO : Only (fun b => v.ownBlock = some b) w w') : w'.ownsRow BA e1 z1 u n1 xs :=
 ownsRow_keep h1 fun b hb => hO.block b (own_ge h1 b hb).2 (fun k => by
  obtain ⟨c1, k1⟩ := own_blk9 h1 hb
  obtain ⟨c2, k2⟩ := own_blk9 h2 k
  exact k1.apart k2 ht rfl)
theorem CI.push11 {B : Nat} {w : World} {v : Value} {L : List Cv} (h : CI B w v L) (x : Cv) (hx : Buf B w x.v x.bs) (h8 : ∀ z ∈ x.bs, z < 256) (hs : x.bs.length ≤ 100000) (hn : L.length ≤ 1000) (hB : B ≤ w.heap.size) (ty : TypeId) :
  ∃ v' w', (Builtin.append_ #[35, 35] ty #[v, .slice (some ⟨w.heap.size, 0, none⟩) 1 1]).run Tryz.prog (w.alloc (.cells (cC x.err x.v) 59)) = .ok v' w' ∧ CI B w' v' (L ++ [x]) ∧ Below B w w' := by
 have hal := below_al w (.cells (cC x.err x.v) 59)
 have hc : CAt (w.alloc (.cells (cC x.err x.v) 59)) w.heap.size (cC x.err x.v) 59 := CAt.made w _ _
 have h1 := h.on hal
 have hB1 : B ≤ (w.alloc (.cells (cC x.err x.v) 59)).heap.size := by rw [size_al]; omega
 obtain ⟨px, cx, hxf⟩ := hx.form
 obtain ⟨v', w', hr, h2, h3, _⟩ := h1.buf.app (ty := ty) (T := 35) Tryz.underlying35 infoCp11 rfl (by decide) w.heap.size 0 1 [x.row] (fun r hr => by rcases List.mem_singleton.1 hr with rfl; rfl) (fun r hr => by
  rcases List.mem_singleton.1 hr with rfl
  intro u hu
  simp only [Cv.row, List.mem_cons, List.not_mem_nil, or_false] at hu
  rcases hu with rfl | rfl
  ·rfl
  ·rw [hxf]; rfl) (fun i r hr j u hu => by
  rcases i with _ | i
  ·simp at hr
   subst hr
   rw [Nat.zero_mul, Nat.zero_add, hc.cell]
   simpa [cC, Cv.row] using hu
  ·simp at hr) (by rw [List.length_map]; simp; omega) (by decide) hB1
 have hO : Only (fun b => v.ownBlock = some b) (w.alloc (.cells (cC x.err x.v) 59)) w' := Only.of_grown h3 fun b e _ => e
 refine ⟨v', w', hr, ⟨by rw [List.map_append]; exact h2, fun y hy => ?_⟩, below_tr (below_less hal hB) (XB.mono hB1 h3 h1.buf)⟩
 rcases List.mem_append.1 hy with hy | hy
 ·exact ⟨own_otherO11 (h1.each y hy).1 h1.buf (by decide) hO, (h1.each y hy).2⟩
 ·rcases List.mem_singleton.1 hy with rfl
  exact ⟨own_otherO11 (hx.below hal) h1.buf (by decide) hO, h8, hs⟩
set_option maxRecDepth 100000 in
set_option maxHeartbeats 4000000 in
theorem copies11_any (v : Value) (l : List Cv) (w : World) (hl : CL w v l) : Calls Tryz.prog 15 #[v] w (CpS w (cps l)) := by
 have HL := hid hl
 obtain ⟨po, c, rfl, hc1, hn, -⟩ := hl
 obtain ⟨n, hN⟩ : ∃ n, l.length = n := ⟨_, rfl⟩
 have HN := hid hN
 rw [hN] at hn HL ⊢
 clear hN hc1
 go_enter Tryz.func15, Tryz.ntmps15
 go_wp2
 go_loopg [3, 4] n (fun gg s3 s4 wr => ∃ (kk : Nat) (L : List Cv), kk ≤ n ∧ n - kk ≤ gg ∧ s4 = i64 kk ∧ Hid (CI w.heap.size wr s3 L) ∧ Hid (cps L = cps (l.take kk)) ∧ Hid (L.length ≤ kk) ∧ Hid (Below w.heap.size w wr))
 case atStart => exact ⟨0, [], Nat.zero_le _, by omega, rfl, hid (CI.nil _ _), hid rfl, hid (Nat.le_refl _), hid (Below.refl _ _)⟩
 case round =>
  obtain ⟨kk, L, hkk, hg, rfl, HI, HCE, HLN, BW⟩ := hrel
  obtain ⟨ph, ch, hfh, -⟩ := HI.out.buf.form
  obtain ⟨nh, hnh⟩ : ∃ nh, (L.map Cv.row).length = nh := ⟨_, rfl⟩
  rw [hnh] at hfh
  subst hfh
  by_cases hlt : kk < n
  ·have hltz : (kk : Int) < (n : Int) := by omega
   obtain ⟨x, hx⟩ : ∃ x, l[kk]? = some x := ⟨_, List.getElem?_eq_getElem (by have := HN.out; omega)⟩
   obtain ⟨b, o, c', e, -⟩ := HL.out.where hx
   rw [HN.out] at e
   cases e
   obtain ⟨-, -, hok0⟩ := HL.out.at BW.out hx
   obtain ⟨p1, c1, hxv, -, -, hnil⟩ := hok0.sl
   obtain ⟨m1, hm1⟩ : ∃ m, x.bs.length = m := ⟨_, rfl⟩
   rw [hm1] at hxv
   have H8 := hid hok0.byte
   have HSM := hid hok0.small
   have HX := hid hx
   have HSF : Hid (∀ W, Below w.heap.size w W → (fun W => W.cell? ⟨b, o + kk * 2, none⟩ = some (i64 x.err) ∧ W.cell? ⟨b, o + kk * 2 + 1, none⟩ = some (.slice p1 m1 c1)) W) := hid (fun W hW => by
    obtain ⟨h1, h2, -⟩ := HL.out.at hW hx
    rw [hxv] at h2
    exact ⟨h1, h2⟩)
   have HCP : Hid (∀ W, Below w.heap.size w W → Calls Tryz.prog 35 #[.slice p1 m1 c1] W (BufS W.heap.size W x.bs)) := hid (fun W hW => by
    have h3 := (HL.out.at hW hx).2.2.slv
    rw [hxv] at h3
    exact copyB_any h3 (by have := HSM.out; omega) (fun n9 c9 e9 => by cases e9; exact hnil rfl))
   unfold BufS at HCP
   obtain ⟨E, hEE⟩ : ∃ E, x.err = E := ⟨_, rfl⟩
   have HEE := hid hEE
   rw [hEE] at HSF
   clear hok0 hxv hm1 hx hnil hnh hEE
   go_wp2_with fail
   have HD := hid (below_drew wr)
   refine wp_region_held_drew (S := (fun W => W.cell? ⟨b, o + kk * 2, none⟩ = some (i64 E) ∧ W.cell? ⟨b, o + kk * 2 + 1, none⟩ = some (.slice p1 m1 c1))) (by kernel_rfl) (HSF.out _ (below_on BW.out HD.out)) (fun hHeld => ?_)
   replace HI := hid (HI.out.on HD.out)
   replace BW := hid (below_on BW.out HD.out)
   generalize wr.drew = wd at HI BW hHeld ⊢
   refine wpAnyH_take (i := 0) (oi := ⟨some 11, .move (.tmp 3), _, _, _, none⟩) (v := .slice ph nh ch) rfl (by kernel_rfl) (by kernel_rfl) (by kernel_rfl) (fun _ _ _ h => h) (Or.inl ⟨by kernel_rfl, by intro W hW; obtain ⟨q0, q1⟩ := hW; go_simp⟩) hHeld ?_
   refine wpAnyH_take (i := 1) (oi := ⟨some 12, .move (.tmp 0), _, _, _, none⟩) (v := .slice (some ⟨b, o, none⟩) n c) rfl (by kernel_rfl) (by kernel_rfl) (by kernel_rfl) (fun _ _ _ h => h) (Or.inl ⟨by kernel_rfl, by intro W hW; obtain ⟨q0, q1⟩ := hW; go_simp⟩) hHeld ?_
   refine wpAnyH_take (i := 2) (oi := ⟨some 13, .move (.tmp 4), _, _, _, none⟩) (v := i64 kk) rfl (by kernel_rfl) (by kernel_rfl) (by kernel_rfl) (fun _ _ _ h => h) (Or.inl ⟨by kernel_rfl, by intro W hW; obtain ⟨q0, q1⟩ := hW; go_simp⟩) hHeld ?_
   refine wpAnyH_take (i := 3) (oi := ⟨some 14, .indexAddr 35 (.tmp 12) (.tmp 13), _, _, _, none⟩) (v := .pointer (some ⟨b, o + kk * 2, none⟩)) rfl (by kernel_rfl) (by kernel_rfl) (by kernel_rfl) (fun _ _ _ h => h) (Or.inl ⟨by kernel_rfl, by intro W hW; obtain ⟨q0, q1⟩ := hW; go_simp⟩) hHeld ?_
   refine wpAnyH_take (i := 4) (oi := ⟨some 15, .fieldAddr 59 (.tmp 14) 0, _, _, _, none⟩) (v := .pointer (some ⟨b, o + kk * 2, none⟩)) rfl (by kernel_rfl) (by kernel_rfl) (by kernel_rfl) (fun _ _ _ h => h) (Or.inl ⟨by kernel_rfl, by intro W hW; obtain ⟨q0, q1⟩ := hW; go_simp⟩) hHeld ?_
   refine wpAnyH_take (i := 5) (oi := ⟨some 16, .load 25 (.tmp 15), _, _, _, none⟩) (v := i64 E) rfl (by kernel_rfl) (by kernel_rfl) (by kernel_rfl) (fun _ _ _ h => h) (Or.inl ⟨by kernel_rfl, by intro W hW; obtain ⟨q0, q1⟩ := hW; go_simp⟩) hHeld ?_
   refine wpAnyH_take (i := 6) (oi := ⟨some 17, .move (.tmp 0), _, _, _, none⟩) (v := .slice (some ⟨b, o, none⟩) n c) rfl (by kernel_rfl) (by kernel_rfl) (by kernel_rfl) (fun _ _ _ h => h) (Or.inl ⟨by kernel_rfl, by intro W hW; obtain ⟨q0, q1⟩ := hW; go_simp⟩) hHeld ?_
   refine wpAnyH_take (i := 7) (oi := ⟨some 18, .move (.tmp 4), _, _, _, none⟩) (v := i64 kk) rfl (by kernel_rfl) (by kernel_rfl) (by kernel_rfl) (fun _ _ _ h => h) (Or.inl ⟨by kernel_rfl, by intro W hW; obtain ⟨q0, q1⟩ := hW; go_simp⟩) hHeld ?_
   refine wpAnyH_take (i := 8) (oi := ⟨some 19, .indexAddr 35 (.tmp 17) (.tmp 18), _, _, _, none⟩) (v := .pointer (some ⟨b, o + kk * 2, none⟩)) rfl (by kernel_rfl) (by kernel_rfl) (by kernel_rfl) (fun _ _ _ h => h) (Or.inl ⟨by kernel_rfl, by intro W hW; obtain ⟨q0, q1⟩ := hW; go_simp⟩) hHeld ?_
   refine wpAnyH_take (i := 9) (oi := ⟨some 20, .fieldAddr 59 (.tmp 19) 1, _, _, _, none⟩) (v := .pointer (some ⟨b, o + kk * 2 + 1, none⟩)) rfl (by kernel_rfl) (by kernel_rfl) (by kernel_rfl) (fun _ _ _ h => h) (Or.inl ⟨by kernel_rfl, by intro W hW; obtain ⟨q0, q1⟩ := hW; go_simp⟩) hHeld ?_
   refine wpAnyH_take (i := 10) (oi := ⟨some 21, .load 22 (.tmp 20), _, _, _, none⟩) (v := .slice p1 m1 c1) rfl (by kernel_rfl) (by kernel_rfl) (by kernel_rfl) (fun _ _ _ h => h) (Or.inl ⟨by kernel_rfl, by intro W hW; obtain ⟨q0, q1⟩ := hW; go_simp⟩) hHeld ?_
   refine wpAnyH_ready (rs := [11]) (by kernel_rfl) (by simp) ?_
   refine AllReadyH.cons rfl (fun K hK => ?_) AllReadyH.nil
   go_simp
   refine (HCP.out _ BW.out).mono ?_
   rintro e w4 ⟨v4, rfl, hb4, hw4⟩
   obtain ⟨p4, n4, c4, hf4⟩ := hb4.form3
   subst hf4
   have hszd := BW.out.size
   replace HI := hid (HI.out.on hw4)
   replace BW := hid (below_on BW.out hw4)
   have hbf : Buf w.heap.size w4 (.slice p4 n4 c4) x.bs := own_base hb4 hszd
   have HB4 := hid hbf
   clear hb4 hw4 hszd hbf
   go_wp2_with fail
   refine hK.out _ _ (HSF.out _ BW.out) (fun hHeld => ?_)
   clear hK K
   refine wpAnyH_take (i := 12) (oi := ⟨some 23, .build 59 #[(0, .tmp 16), (1, .tmp 22)], _, _, _, none⟩) (v := .agg (cC E (.slice p4 n4 c4))) rfl (by kernel_rfl) (by kernel_rfl) (by kernel_rfl) (fun _ _ _ h => h) (Or.inl ⟨by kernel_rfl, by intro W hW; go_simp; rfl⟩) hHeld ?_
   obtain ⟨v6, w6, hr6, hi6, hb6⟩ := HI.out.push11 ⟨E, .slice p4 n4 c4, x.bs⟩ HB4.out H8.out HSM.out (by have := HLN.out; omega) BW.out.size 35
   have HRUN := hid hr6
   have HI6 := hid hi6
   have HB6 := hid (below_tr BW.out hb6)
   have HBA := hid (below_on BW.out (below_al w4 (.cells (cC E (.slice p4 n4 c4)) 59)))
   clear hr6 hi6 hb6
   refine wpAnyH_ready (rs := [13]) (by kernel_rfl) (by simp) ?_
   refine AllReadyH.cons (o := ⟨some 24, .buildSlice 35 1 #[(0, .tmp 23)], _, _, _, none⟩) rfl (fun K hK => ?_) AllReadyH.nil
   with_reducible refine step_run_val ?_ (.slice (some ⟨w4.heap.size, 0, none⟩) 1 1) (w4.alloc (.cells (cC E (.slice p4 n4 c4)) 59)) ?_ ?_
   ·exact rfl
   ·exact exec_bsC rfl (by kernel_rfl)
   refine hK.out _ _ (HSF.out _ HBA.out) (fun hHeld => ?_)
   clear hK K
   refine wpAnyH_ready (rs := [14]) (by kernel_rfl) (by simp) ?_
   refine AllReadyH.cons (o := ⟨some 25, .call { callee := .builtin .append, args := #[.tmp 11, .tmp 24], argTypes := #[35, 35] }, 35, _, _, none⟩) rfl (fun K hK => ?_) AllReadyH.nil
   with_reducible refine step_run_val ?_ v6 w6 ?_ ?_
   ·exact rfl
   ·exact exec_app9 rfl (by kernel_rfl) (by kernel_rfl) HRUN.out
   refine hK.out _ _ (HSF.out _ HB6.out) (fun hHeld => ?_)
   clear hK K
   refine wpAnyH_take (i := 15) (oi := ⟨some 3, .assign (.tmp 25), _, _, _, none⟩) (v := v6) rfl (by kernel_rfl) (by kernel_rfl) (by kernel_rfl) (fun _ _ _ h => h) (Or.inl ⟨by kernel_rfl, by intro W hW; go_simp⟩) hHeld ?_
   refine wpAnyH_done (by kernel_rfl) ?_ _
   (try simp only [Act.put, List.setIfInBounds_toArray, List.set_cons_zero, List.set_cons_succ])
   clear hHeld
   go_wp2
   go_roundg (n - (kk + 1))
   case measure => omega
   case rel => exact ⟨kk + 1, L ++ [⟨E, .slice p4 n4 c4, x.bs⟩], by omega, by omega, by go_num, HI6, hid (by rw [cps_next HX.out, ← HCE.out, ← HEE.out]; simp [cps, Cv.cp]), hid (by have := HLN.out; simp; omega), HB6⟩
  ·have hltz : ¬ (kk : Int) < (n : Int) := by omega
   go_wp2
   go_ret
   exact ⟨_, L, rfl, HI.out, by rw [HCE.out, List.take_of_length_le (by have := HN.out; omega)], BW.out⟩
end Go.Proofs.YtopibkoklagceaaGreat
