/- Texts laid into one, cut to what is needed: the remark ahead of each part says what is proved there. -/
import Derived.Test.YtfogkegmdgbecaaGreatDoorPat
import Derived.Test.YtfogkegmdgbecaaGreatDoorPan
import Derived.Laws.CopyOwn
import Derived.Great.BuildSlice
/- The staged files of the drives that are meant are deleted. -/
namespace Go.Proofs.YtfogkegmdgbecaaGreatDoor
open Go Go.RowKit

theorem commit1_any (i : Int) (w : World) : Calls Tryz.prog 61 #[.int .i64 i] w fun e w' => e = .returned (.bool true) ∧ w' = w := by
 go_enter Tryz.func61, Tryz.ntmps61
 go_wp2
 go_ret
 exact ⟨rfl, rfl⟩
theorem commit3_any (i g : Nat) (lv fv : Value) (bw cw k : Nat) (wl : Nat → Bool) (w : World) (hg : CAt w g #[lv, fv, .slice (some ⟨bw, 0, none⟩) k cw] 96) (hw : WlAt w bw k wl) (hi : i < k) :
  Calls Tryz.prog 64 #[.int .i64 (i : Int), ptr g] w fun e w' => e = .returned (.bool (!wl i)) ∧ w' = w := by
 have c2 : w.cell? ⟨g, 2, none⟩ = some (.slice (some ⟨bw, 0, none⟩) k cw) := hg.cell 2
 have cw := (hw i hi).1
 have hi' : (i : Int) < (k : Int) := by omega
 clear hg hw
 go_enter Tryz.func64, Tryz.ntmps64
 go_wp2
 go_ret
 exact ⟨rfl, rfl⟩
theorem take_fl {r : RowV} {j : Nat} (hj : j < r.l.length) : ((r.fl.take (j + 1)).map fun x => tmpN x.1) = ((r.fl.take j).map fun x => tmpN x.1) ++ [tmpN (r.l.getD j default).nm] := by
 have h1 : j < r.fl.length := by unfold RowV.fl; simpa using hj
 rw [List.take_succ_eq_append_getElem h1, List.map_append, getD_in _ _ _ hj]
 simp [RowV.fl, FlV.fl]

set_option maxHeartbeats 1000000 in
set_option maxRecDepth 100000 in
theorem unstage1A (W : World) (Bm Bc g i q : Nat) (lv wv : Value) (fv : FsV) {T : Nat → Prop} (hbm : CAt W Bm #[.func (.func 61) #[] #[]] 103) (hbc : CAt W Bc #[ptr g] 156) (hcg : CAt W g #[lv, fv.v, wv] 96) (hfs : fv.ok W T) (hi : i < fv.l.length) (mt : Bool)
  (hm : Calls Tryz.prog 61 #[.int .i64 (i : Int)] W fun e w' => e = .returned (.bool mt) ∧ w' = W) (hN : ∀ x ∈ fv.fl i, x.1.length ≤ 1000) (h8 : (fv.fl i).length ≤ 1000) :
  Calls Tryz.prog 117 #[.int .i64 (i : Int), ptr q, ptr Bm, ptr Bc] W (NmAt W (0, if mt then (fv.fl i).map (fun x => tmpN x.1) else [])) := by
 have c0 : W.cell? ⟨Bm, 0, none⟩ = some (.func (.func 61) #[] #[]) := hbm.cell 0
 have HM := hid hm
 cases mt
 ·clear hm hbm hbc hcg hfs
  go_enter Tryz.func117, Tryz.ntmps117
  go_wp2_with (go_at_call 61; refine HM.out.mono ?_; rintro e w' ⟨rfl, hw'⟩; have hw2 := hw'.symm; subst hw2)
  go_ret2
  exact ⟨none, 0, rfl, World.ownsRow_nil _ _ _ _, Below.refl _ _⟩
 ·obtain ⟨fb, fo, hfp, hfc, hrow⟩ := row_at hfs hi
  have c1 : W.cell? ⟨Bc, 0, none⟩ = some (ptr g) := hbc.cell 0
  have c2 : W.cell? ⟨g, 1, none⟩ = some (.slice (some ⟨fb, fo, none⟩) fv.l.length fv.c) := by have := hcg.cell 1; rw [this, ← hfp]; rfl
  have efl : fv.fl i = (fv.l.getD i default).fl := rfl
  have hi' : (i : Int) < (fv.l.length : Int) := by omega
  rw [efl] at hN h8 ⊢
  clear efl hcg hfs hm hbm hbc
  generalize fv.l.getD i default = row at *
  obtain ⟨rpo, rc, rl⟩ := row
  have hfc' : W.cell? ⟨fb, fo + i, none⟩ = some (.slice rpo rl.length rc) := hfc
  have hrl : rl.length ≤ 1000 := by simpa [RowV.fl] using h8
  have HROW := hid hrow
  have HN := hid hN
  have HP : Hid (NmAt W (0, if true = true then (RowV.mk rpo rc rl).fl.map (fun x => tmpN x.1) else []) = NmAt W (0, (RowV.mk rpo rc rl).fl.map (fun x => tmpN x.1))) := by show _ = _; rw [if_pos rfl]
  rw [HP.out]
  clear hrow hN hfc h8 HP
  generalize fv.l.length = fll at *
  generalize fv.c = fcc at *
  go_enter Tryz.func117, Tryz.ntmps117
  go_wp2_with (go_at_call 61; refine HM.out.mono ?_; rintro e w' ⟨rfl, hw'⟩; have hw2 := hw'.symm; subst hw2)
  go_loopw [8, 23] (fun v x wr => ∃ j : Nat, j ≤ rl.length ∧ x = .int .i64 (j : Int) ∧ TxtL W.heap.size wr v (((RowV.mk rpo rc rl).fl.take j).map fun x => tmpN x.1) ∧ Below W.heap.size W wr) (fun _ x _ => (2000 - intOf x).toNat)
  case atStart => exact ⟨0, by omega, rfl, World.ownsRow_nil _ _ _ _, Below.refl _ _⟩
  case round =>
   obtain ⟨j, hj, rfl, htx, hbe⟩ := hrel
   obtain ⟨po5, cc5, hv5⟩ := own_form htx
   have htl : (((RowV.mk rpo rc rl).fl.take j).map fun x => tmpN x.1).length = j := by simp [RowV.fl]; omega
   rw [htl] at hv5
   subst hv5
   by_cases hlt : j < rl.length
   ·have hrow2 : (RowV.mk rpo rc rl).ok wr T := HROW.out.keep (fun b hb _ => hbe.block b hb) (fun _ _ h => h)
    obtain ⟨b, o, hrp, cf0, cf1, hfo⟩ := file_at' hrow2 (j := j) hlt
    have hrp' : rpo = some ⟨b, o, none⟩ := hrp
    subst hrp'
    have hsn := take_fl (r := RowV.mk (some ⟨b, o, none⟩) rc rl) (j := j) hlt
    have hnm : (rl.getD j default).nm.length ≤ 1000 := HN.out (rl.getD j default).fl (by rw [getD_in _ _ _ hlt]; exact List.mem_map_of_mem (List.getElem_mem hlt))
    generalize hx : rl.getD j default = x at *
    obtain ⟨nm, pb, cb, bs⟩ := x
    have cf0' : wr.cell? ⟨b, o + j * 2, none⟩ = some (sv nm) := cf0
    have cf1' : wr.cell? ⟨b, o + j * 2 + 1, none⟩ = some (.slice pb bs.length cb) := cf1
    have hnm' : nm.length ≤ 1000 := hnm
    have hsn' : List.map (fun x => tmpN x.1) (List.take (j + 1) (RowV.mk (some ⟨b, o, none⟩) rc rl).fl) = List.map (fun x => tmpN x.1) (List.take j (RowV.mk (some ⟨b, o, none⟩) rc rl).fl) ++ [tmpN nm] := by rw [hsn]
    have hbA : Below wr.heap.size wr (wr.alloc (.cells #[sv nm, .slice pb bs.length cb] 47)) := (Below.refl _ _).alloc (Nat.le_refl _) _
    obtain ⟨v4, w4, hrun, htx4, hgr4, _⟩ := (htx.below hbA).push (tmpN nm) (by rw [htl]; omega) (by have := hbe.size; simp; omega)
    rw [← hsn'] at htx4
    have HTX4 := hid htx4
    simp only [World.size_alloc] at hrun
    have HRUN := hid hrun
    have HB4 : Hid (Below W.heap.size W w4) := below_on_grown (below_on _ _ (below_on _ _ hbe hbA) ((Below.refl _ _).alloc (Nat.le_refl _) _)) hgr4 (fun b hb => (own_ge htx b hb).1)
    obtain ⟨po6, cc6, hv6⟩ := own_form htx4
    have htl2 : (List.map (fun x => tmpN x.1) (List.take (j + 1) (RowV.mk (some ⟨b, o, none⟩) rc rl).fl)).length = j + 1 := by simp [RowV.fl]; omega
    rw [htl2] at hv6
    subst hv6
    have hlt' : (j : Int) < (rl.length : Int) := by omega
    clear htx4 hrun hgr4 hsn hsn' hx cf0 cf1 hfo hrow2 hnm hbA htl htl2 hrp
    go_wp2_with (first
     | (go_at_call 114; refine (staged_any nm _ hnm').mono ?_; rintro e w' ⟨rfl, hw'⟩; have hw2 := hw'.symm; subst hw2)
     | (at_builtin; refine wpList_append_run _ _ 32 rfl rfl _ _ _ rfl rfl HRUN.out ?_))
    go_roundw
    case rel => exact ⟨j + 1, by omega, by go_num, HTX4.out, HB4.out⟩
    case measure => simp [intOf]; omega
   ·have hlt' : ¬ (j : Int) < (rl.length : Int) := by omega
    have hjj : j = (RowV.mk rpo rc rl).fl.length := by simp [RowV.fl]; omega
    have HTX : Hid (TxtL W.heap.size wr (.slice po5 j cc5) ((RowV.mk rpo rc rl).fl.map fun x => tmpN x.1)) := by rw [hjj, List.take_length] at htx; rw [hjj]; exact htx
    have hjl : ((RowV.mk rpo rc rl).fl.map fun x => tmpN x.1).length = j := by rw [List.length_map]; exact hjj.symm
    have HBE := hid hbe
    have HJL := hid hjl
    clear htx htl hjj hbe hjl
    go_wp2
    go_ret2
    exact ⟨po5, cc5, by show _ = Ending.returned (.tuple #[.slice po5 ((RowV.mk rpo rc rl).fl.map fun x => tmpN x.1).length cc5, brk 0]); rw [HJL.out]; rfl, by show TxtL 0 wr (.slice po5 ((RowV.mk rpo rc rl).fl.map fun x => tmpN x.1).length cc5) _; rw [HJL.out]; exact HTX.out.base (Nat.zero_le _), HBE.out⟩
/-- What unstage leaves. -/
def UNatA (w w1 : World) (T : Nat → Prop) (k : Nat) (p : Nat → Nat) (R : Bool × Nat × FS) (e : Ending) (w' : World) : Prop :=
 e = .returned (brk (if R.1 then 11 else 0)) ∧ (∃ T', Grows w1 T T' ∧ FA w w' T' k p R.2.2.d R.2.2.f 0) ∧ Only T w1 w'
set_option maxHeartbeats 1000000 in
set_option maxRecDepth 100000 in
theorem unstageA {w w1 : World} {T : Nat → Prop} {k : Nat} {p : Nat → Nat} {X0 : FS} (h : FA w w1 T k p X0.d X0.f 0) {g : Nat} {lv : Value} {fv : FsV} {bw cw : Nat} (hM : CmA w1 T g lv fv bw cw k p) {wl : Nat → Bool} (hW : WlAt w1 bw k wl) (hk : 1 ≤ k ∧ k ≤ 16)
  (hB : ∀ i, i < k → Bnd 10000000000 10000000000 (X0.d i)) (hN : ∀ i, i < k → ∀ x ∈ fv.fl i, x.1.length ≤ 1000) :
  Calls Tryz.prog 60 #[ptr g, .func (.func 61) #[] #[]] w1 (UNatA w w1 T k p (delD (unsN fv.fl (fun _ => true)) k 0 0 X0)) := by
 have hbw := cell_lt2 (hW 0 hk.1).1
 have hb2 : Below w1.heap.size w1 ((w1.alloc (.cells #[ptr g] 156)).alloc (.cells #[.func (.func 61) #[] #[]] 103)) := ((Below.refl _ _).alloc (Nat.le_refl _) _).alloc (by simp) _
 have x0 := (CAt.made w1 #[ptr g] 156).old (.cells #[.func (.func 61) #[] #[]] 103)
 have x1 := CAt.made (w1.alloc (.cells #[ptr g] 156)) #[.func (.func 61) #[] #[]] 103
 rw [size_al] at x1
 have hsz : ((w1.alloc (.cells #[ptr g] 156)).alloc (.cells #[.func (.func 61) #[] #[]] 103)).heap.size = w1.heap.size + 2 := by simp
 have h2 := h.below hb2
 have hl2 : LsAt ((w1.alloc (.cells #[ptr g] 156)).alloc (.cells #[.func (.func 61) #[] #[]] 103)) T lv k p := hM.ls.keep (fun b hb _ => hb2.block b hb) (fun _ _ h => h)
 have HDE := hid (deleteEachU h2 hl2 hk (w1.heap.size + 1) w1.heap.size (unsN fv.fl (fun _ => true)) hB
  (fun i f hi => ⟨by have h8 := hM.f8 i hi; unfold unsN; dsimp only; split <;> simp <;> omega, by show 0 ≤ _; omega, fun s hs => by
   have hs' : s ∈ (if ((fun _ => true)) i = true then (fv.fl i).map (fun x => tmpN x.1) else []) := hs
   split at hs'
   ·obtain ⟨x, hx, rfl⟩ := List.mem_map.1 hs'
    have := hN i hi x hx
    simp [tmpN, maxLen]; omega
   ·simp at hs'⟩)
  (fun i d f W hi hctx _ => by
   have lo : ∀ b, b < w1.heap.size → ¬ T b → W.heap[b]? = w1.heap[b]? := fun b hb hT => (hctx.kp b (by omega) hT).trans (hb2.block b hb)
   have hMW := hM.keep hbw (fun b hb hn => lo b hb (fun ht => hn (.inl ht))) (fun _ _ h => h)
   have hWW := hW.keep (lo bw hbw hM.wt)
   exact unstage1A W (w1.heap.size + 1) w1.heap.size g i (p i) lv _ fv (x1.keep (hctx.kp _ (by omega) (fun ht => by have := h.lt _ ht; omega))) (x0.keep (hctx.kp _ (by omega) (fun ht => by have := h.lt _ ht; omega))) hMW.cg hMW.fs (by rw [hM.fl]; exact hi) (((fun _ => true)) i)
    (commit1_any _ _) (hN i hi) (by have := hM.f8 i hi; omega)))
 have c0 : ((w1.alloc (.cells #[ptr g] 156)).alloc (.cells #[.func (.func 61) #[] #[]] 103)).cell? ⟨w1.heap.size, 0, none⟩ = some (ptr g) := x0.cell 0
 have c1 : ((w1.alloc (.cells #[ptr g] 156)).alloc (.cells #[.func (.func 61) #[] #[]] 103)).cell? ⟨g, 0, none⟩ = some lv := (hM.cg.below hb2).cell 0
 have HDF : Hid (∀ R e w', DEat w ((w1.alloc (.cells #[ptr g] 156)).alloc (.cells #[.func (.func 61) #[] #[]] 103)) T k p R e w' → DEat w w1 T k p R e w') := fun R e w' hd => hd.from hb2
 generalize delD (unsN fv.fl (fun _ => true)) k 0 0 X0 = R at *
 have hmf := run_mf Tryz.prog
 obtain ⟨lpo, lc, rfl⟩ := hM.ls.form
 clear h hM hW hB hN x0 x1 h2 hl2 hb2 hsz
 go_enter Tryz.func60, Tryz.ntmps60
 go_wp2_with (go_at_call 78; refine HDE.out.mono ?_; intro e w5 hd; obtain rfl := hd.1; have HD5 := hid (HDF.out R _ w5 hd); clear hd)
 all_goals
  go_ret
  obtain ⟨_, h2, h3⟩ := HD5.out
  exact ⟨by first | rfl | simp_all [brk], h2, h3⟩

set_option maxHeartbeats 1000000 in
set_option maxRecDepth 100000 in
theorem unstage1B (W : World) (Bm Bc g i q : Nat) (lv wv : Value) (fv : FsV) {T : Nat → Prop} (hbm : CAt W Bm #[.func (.func 64) #[] #[ptr g]] 103) (hbc : CAt W Bc #[ptr g] 156) (hcg : CAt W g #[lv, fv.v, wv] 96) (hfs : fv.ok W T) (hi : i < fv.l.length) (mt : Bool)
  (hm : Calls Tryz.prog 64 #[.int .i64 (i : Int), ptr g] W fun e w' => e = .returned (.bool mt) ∧ w' = W) (hN : ∀ x ∈ fv.fl i, x.1.length ≤ 1000) (h8 : (fv.fl i).length ≤ 1000) :
  Calls Tryz.prog 117 #[.int .i64 (i : Int), ptr q, ptr Bm, ptr Bc] W (NmAt W (0, if mt then (fv.fl i).map (fun x => tmpN x.1) else [])) := by
 have c0 : W.cell? ⟨Bm, 0, none⟩ = some (.func (.func 64) #[] #[ptr g]) := hbm.cell 0
 have HM := hid hm
 cases mt
 ·clear hm hbm hbc hcg hfs
  go_enter Tryz.func117, Tryz.ntmps117
  go_wp2_with (go_at_call 64; refine HM.out.mono ?_; rintro e w' ⟨rfl, hw'⟩; have hw2 := hw'.symm; subst hw2)
  go_ret2
  exact ⟨none, 0, rfl, World.ownsRow_nil _ _ _ _, Below.refl _ _⟩
 ·obtain ⟨fb, fo, hfp, hfc, hrow⟩ := row_at hfs hi
  have c1 : W.cell? ⟨Bc, 0, none⟩ = some (ptr g) := hbc.cell 0
  have c2 : W.cell? ⟨g, 1, none⟩ = some (.slice (some ⟨fb, fo, none⟩) fv.l.length fv.c) := by have := hcg.cell 1; rw [this, ← hfp]; rfl
  have efl : fv.fl i = (fv.l.getD i default).fl := rfl
  have hi' : (i : Int) < (fv.l.length : Int) := by omega
  rw [efl] at hN h8 ⊢
  clear efl hcg hfs hm hbm hbc
  generalize fv.l.getD i default = row at *
  obtain ⟨rpo, rc, rl⟩ := row
  have hfc' : W.cell? ⟨fb, fo + i, none⟩ = some (.slice rpo rl.length rc) := hfc
  have hrl : rl.length ≤ 1000 := by simpa [RowV.fl] using h8
  have HROW := hid hrow
  have HN := hid hN
  have HP : Hid (NmAt W (0, if true = true then (RowV.mk rpo rc rl).fl.map (fun x => tmpN x.1) else []) = NmAt W (0, (RowV.mk rpo rc rl).fl.map (fun x => tmpN x.1))) := by show _ = _; rw [if_pos rfl]
  rw [HP.out]
  clear hrow hN hfc h8 HP
  generalize fv.l.length = fll at *
  generalize fv.c = fcc at *
  go_enter Tryz.func117, Tryz.ntmps117
  go_wp2_with (go_at_call 64; refine HM.out.mono ?_; rintro e w' ⟨rfl, hw'⟩; have hw2 := hw'.symm; subst hw2)
  go_loopw [8, 23] (fun v x wr => ∃ j : Nat, j ≤ rl.length ∧ x = .int .i64 (j : Int) ∧ TxtL W.heap.size wr v (((RowV.mk rpo rc rl).fl.take j).map fun x => tmpN x.1) ∧ Below W.heap.size W wr) (fun _ x _ => (2000 - intOf x).toNat)
  case atStart => exact ⟨0, by omega, rfl, World.ownsRow_nil _ _ _ _, Below.refl _ _⟩
  case round =>
   obtain ⟨j, hj, rfl, htx, hbe⟩ := hrel
   obtain ⟨po5, cc5, hv5⟩ := own_form htx
   have htl : (((RowV.mk rpo rc rl).fl.take j).map fun x => tmpN x.1).length = j := by simp [RowV.fl]; omega
   rw [htl] at hv5
   subst hv5
   by_cases hlt : j < rl.length
   ·have hrow2 : (RowV.mk rpo rc rl).ok wr T := HROW.out.keep (fun b hb _ => hbe.block b hb) (fun _ _ h => h)
    obtain ⟨b, o, hrp, cf0, cf1, hfo⟩ := file_at' hrow2 (j := j) hlt
    have hrp' : rpo = some ⟨b, o, none⟩ := hrp
    subst hrp'
    have hsn := take_fl (r := RowV.mk (some ⟨b, o, none⟩) rc rl) (j := j) hlt
    have hnm : (rl.getD j default).nm.length ≤ 1000 := HN.out (rl.getD j default).fl (by rw [getD_in _ _ _ hlt]; exact List.mem_map_of_mem (List.getElem_mem hlt))
    generalize hx : rl.getD j default = x at *
    obtain ⟨nm, pb, cb, bs⟩ := x
    have cf0' : wr.cell? ⟨b, o + j * 2, none⟩ = some (sv nm) := cf0
    have cf1' : wr.cell? ⟨b, o + j * 2 + 1, none⟩ = some (.slice pb bs.length cb) := cf1
    have hnm' : nm.length ≤ 1000 := hnm
    have hsn' : List.map (fun x => tmpN x.1) (List.take (j + 1) (RowV.mk (some ⟨b, o, none⟩) rc rl).fl) = List.map (fun x => tmpN x.1) (List.take j (RowV.mk (some ⟨b, o, none⟩) rc rl).fl) ++ [tmpN nm] := by rw [hsn]
    have hbA : Below wr.heap.size wr (wr.alloc (.cells #[sv nm, .slice pb bs.length cb] 47)) := (Below.refl _ _).alloc (Nat.le_refl _) _
    obtain ⟨v4, w4, hrun, htx4, hgr4, _⟩ := (htx.below hbA).push (tmpN nm) (by rw [htl]; omega) (by have := hbe.size; simp; omega)
    rw [← hsn'] at htx4
    have HTX4 := hid htx4
    simp only [World.size_alloc] at hrun
    have HRUN := hid hrun
    have HB4 : Hid (Below W.heap.size W w4) := below_on_grown (below_on _ _ (below_on _ _ hbe hbA) ((Below.refl _ _).alloc (Nat.le_refl _) _)) hgr4 (fun b hb => (own_ge htx b hb).1)
    obtain ⟨po6, cc6, hv6⟩ := own_form htx4
    have htl2 : (List.map (fun x => tmpN x.1) (List.take (j + 1) (RowV.mk (some ⟨b, o, none⟩) rc rl).fl)).length = j + 1 := by simp [RowV.fl]; omega
    rw [htl2] at hv6
    subst hv6
    have hlt' : (j : Int) < (rl.length : Int) := by omega
    clear htx4 hrun hgr4 hsn hsn' hx cf0 cf1 hfo hrow2 hnm hbA htl htl2 hrp
    go_wp2_with (first
     | (go_at_call 114; refine (staged_any nm _ hnm').mono ?_; rintro e w' ⟨rfl, hw'⟩; have hw2 := hw'.symm; subst hw2)
     | (at_builtin; refine wpList_append_run _ _ 32 rfl rfl _ _ _ rfl rfl HRUN.out ?_))
    go_roundw
    case rel => exact ⟨j + 1, by omega, by go_num, HTX4.out, HB4.out⟩
    case measure => simp [intOf]; omega
   ·have hlt' : ¬ (j : Int) < (rl.length : Int) := by omega
    have hjj : j = (RowV.mk rpo rc rl).fl.length := by simp [RowV.fl]; omega
    have HTX : Hid (TxtL W.heap.size wr (.slice po5 j cc5) ((RowV.mk rpo rc rl).fl.map fun x => tmpN x.1)) := by rw [hjj, List.take_length] at htx; rw [hjj]; exact htx
    have hjl : ((RowV.mk rpo rc rl).fl.map fun x => tmpN x.1).length = j := by rw [List.length_map]; exact hjj.symm
    have HBE := hid hbe
    have HJL := hid hjl
    clear htx htl hjj hbe hjl
    go_wp2
    go_ret2
    exact ⟨po5, cc5, by show _ = Ending.returned (.tuple #[.slice po5 ((RowV.mk rpo rc rl).fl.map fun x => tmpN x.1).length cc5, brk 0]); rw [HJL.out]; rfl, by show TxtL 0 wr (.slice po5 ((RowV.mk rpo rc rl).fl.map fun x => tmpN x.1).length cc5) _; rw [HJL.out]; exact HTX.out.base (Nat.zero_le _), HBE.out⟩
/-- What unstage leaves. -/
def UNatB (w w1 : World) (T : Nat → Prop) (k : Nat) (p : Nat → Nat) (R : Bool × Nat × FS) (e : Ending) (w' : World) : Prop :=
 e = .returned (brk (if R.1 then 11 else 0)) ∧ (∃ T', Grows w1 T T' ∧ FA w w' T' k p R.2.2.d R.2.2.f 0) ∧ Only T w1 w'
set_option maxHeartbeats 1000000 in
set_option maxRecDepth 100000 in
theorem unstageB {w w1 : World} {T : Nat → Prop} {k : Nat} {p : Nat → Nat} {X0 : FS} (h : FA w w1 T k p X0.d X0.f 0) {g : Nat} {lv : Value} {fv : FsV} {bw cw : Nat} (hM : CmA w1 T g lv fv bw cw k p) {wl : Nat → Bool} (hW : WlAt w1 bw k wl) (hk : 1 ≤ k ∧ k ≤ 16)
  (hB : ∀ i, i < k → Bnd 10000000000 10000000000 (X0.d i)) (hN : ∀ i, i < k → ∀ x ∈ fv.fl i, x.1.length ≤ 1000) :
  Calls Tryz.prog 60 #[ptr g, .func (.func 64) #[] #[ptr g]] w1 (UNatB w w1 T k p (delD (unsN fv.fl (fun i => !wl i)) k 0 0 X0)) := by
 have hbw := cell_lt2 (hW 0 hk.1).1
 have hb2 : Below w1.heap.size w1 ((w1.alloc (.cells #[ptr g] 156)).alloc (.cells #[.func (.func 64) #[] #[ptr g]] 103)) := ((Below.refl _ _).alloc (Nat.le_refl _) _).alloc (by simp) _
 have x0 := (CAt.made w1 #[ptr g] 156).old (.cells #[.func (.func 64) #[] #[ptr g]] 103)
 have x1 := CAt.made (w1.alloc (.cells #[ptr g] 156)) #[.func (.func 64) #[] #[ptr g]] 103
 rw [size_al] at x1
 have hsz : ((w1.alloc (.cells #[ptr g] 156)).alloc (.cells #[.func (.func 64) #[] #[ptr g]] 103)).heap.size = w1.heap.size + 2 := by simp
 have h2 := h.below hb2
 have hl2 : LsAt ((w1.alloc (.cells #[ptr g] 156)).alloc (.cells #[.func (.func 64) #[] #[ptr g]] 103)) T lv k p := hM.ls.keep (fun b hb _ => hb2.block b hb) (fun _ _ h => h)
 have HDE := hid (deleteEachU h2 hl2 hk (w1.heap.size + 1) w1.heap.size (unsN fv.fl (fun i => !wl i)) hB
  (fun i f hi => ⟨by have h8 := hM.f8 i hi; unfold unsN; dsimp only; split <;> simp <;> omega, by show 0 ≤ _; omega, fun s hs => by
   have hs' : s ∈ (if ((fun i => !wl i)) i = true then (fv.fl i).map (fun x => tmpN x.1) else []) := hs
   split at hs'
   ·obtain ⟨x, hx, rfl⟩ := List.mem_map.1 hs'
    have := hN i hi x hx
    simp [tmpN, maxLen]; omega
   ·simp at hs'⟩)
  (fun i d f W hi hctx _ => by
   have lo : ∀ b, b < w1.heap.size → ¬ T b → W.heap[b]? = w1.heap[b]? := fun b hb hT => (hctx.kp b (by omega) hT).trans (hb2.block b hb)
   have hMW := hM.keep hbw (fun b hb hn => lo b hb (fun ht => hn (.inl ht))) (fun _ _ h => h)
   have hWW := hW.keep (lo bw hbw hM.wt)
   exact unstage1B W (w1.heap.size + 1) w1.heap.size g i (p i) lv _ fv (x1.keep (hctx.kp _ (by omega) (fun ht => by have := h.lt _ ht; omega))) (x0.keep (hctx.kp _ (by omega) (fun ht => by have := h.lt _ ht; omega))) hMW.cg hMW.fs (by rw [hM.fl]; exact hi) (((fun i => !wl i)) i)
    (commit3_any i g _ _ bw cw k wl W hMW.cg hWW hi) (hN i hi) (by have := hM.f8 i hi; omega)))
 have c0 : ((w1.alloc (.cells #[ptr g] 156)).alloc (.cells #[.func (.func 64) #[] #[ptr g]] 103)).cell? ⟨w1.heap.size, 0, none⟩ = some (ptr g) := x0.cell 0
 have c1 : ((w1.alloc (.cells #[ptr g] 156)).alloc (.cells #[.func (.func 64) #[] #[ptr g]] 103)).cell? ⟨g, 0, none⟩ = some lv := (hM.cg.below hb2).cell 0
 have HDF : Hid (∀ R e w', DEat w ((w1.alloc (.cells #[ptr g] 156)).alloc (.cells #[.func (.func 64) #[] #[ptr g]] 103)) T k p R e w' → DEat w w1 T k p R e w') := fun R e w' hd => hd.from hb2
 generalize delD (unsN fv.fl (fun i => !wl i)) k 0 0 X0 = R at *
 have hmf := run_mf Tryz.prog
 obtain ⟨lpo, lc, rfl⟩ := hM.ls.form
 clear h hM hW hB hN x0 x1 h2 hl2 hb2 hsz
 go_enter Tryz.func60, Tryz.ntmps60
 go_wp2_with (go_at_call 78; refine HDE.out.mono ?_; intro e w5 hd; obtain rfl := hd.1; have HD5 := hid (HDF.out R _ w5 hd); clear hd)
 all_goals
  go_ret
  obtain ⟨_, h2, h3⟩ := HD5.out
  exact ⟨by first | rfl | simp_all [brk], h2, h3⟩
end Go.Proofs.YtfogkegmdgbecaaGreatDoor

/- slices.Repeat of one true. -/
namespace Go.Proofs.YtfogkegmdgbecaaGreatDoor
open Go Go.RowKit

theorem mul64_any (k : Nat) (hk : k ≤ 16) (w : World) : Calls Tryz.prog 134 #[.int .u64 1, .int .u64 (k : Int)] w fun e w' => e = .returned (.tuple #[.int .u64 0, .int .u64 (k : Int)]) ∧ w' = w := by
 have h : k = 0 ∨ k = 1 ∨ k = 2 ∨ k = 3 ∨ k = 4 ∨ k = 5 ∨ k = 6 ∨ k = 7 ∨ k = 8 ∨ k = 9 ∨ k = 10 ∨ k = 11 ∨ k = 12 ∨ k = 13 ∨ k = 14 ∨ k = 15 ∨ k = 16 := by omega
 clear hk
 rcases h with rfl | rfl | rfl | rfl | rfl | rfl | rfl | rfl | rfl | rfl | rfl | rfl | rfl | rfl | rfl | rfl | rfl <;>
  (go_enter Tryz.func134, Tryz.ntmps134
   go_wp2
   go_ret2
   exact ⟨rfl, rfl⟩)
theorem mul_any (k : Nat) (hk : k ≤ 16) (w : World) : Calls Tryz.prog 111 #[.int .u64 1, .int .u64 (k : Int)] w fun e w' => e = .returned (.tuple #[.int .u64 0, .int .u64 (k : Int)]) ∧ w' = w := by
 go_enter Tryz.func111, Tryz.ntmps111
 go_wp2_with (go_at_call 134; refine (mul64_any k hk _).mono ?_; rintro e w' ⟨rfl, rfl⟩)
 go_ret2
 exact ⟨rfl, rfl⟩
/-- n that are true, and k - n that are not. -/
def trs (n k : Nat) : List Value := List.replicate n (.bool true) ++ List.replicate (k - n) (.bool false)
theorem trs_len {n k : Nat} (h : n ≤ k) : (trs n k).length = k := by simp [trs]; omega
def RepAt (w : World) (k : Nat) (e : Ending) (w' : World) : Prop := ∃ g, e = .returned (.slice (some ⟨g, 0, none⟩) k k) ∧ w.heap.size ≤ g ∧ CAt w' g (trs k k).toArray 4 ∧ Below w.heap.size w w'
theorem info4b : (Tryz.prog.info? 4).map (fun i => (i.zero, i.size, i.bytes)) = some (some (.bool false), 1, 1) := by kernel_rfl
theorem made_trs (k : Nat) : madeCells #[.bool false] k = (trs 0 k).toArray := by
 apply Array.toList_inj.1
 refine List.ext_getElem? fun i => ?_
 by_cases hi : i < k
 ·have : i % 1 = 0 := Nat.mod_one i
  simp [madeCells, trs, hi, this]
 ·rw [List.getElem?_eq_none (by simp [madeCells]; omega), List.getElem?_eq_none (by simp [trs]; omega)]
theorem make_bools (k : Nat) (hn : k ≤ 70003) (w : World) :
  (Instr.makeSlice 33 (.int .i64 (k : Int)) (.int .i64 (k : Int))).run Tryz.prog w = .ok (.slice (some ⟨w.heap.size, 0, none⟩) k k) (w.alloc (.cells (trs 0 k).toArray 4)) := by
 obtain ⟨i0, hi, hz0, hz1, hz2⟩ := info_parts info4b
 have h := run_make (P := Tryz.prog) w 33 4 i0 (.bool false) Tryz.underlying33 hi hz0 .i64 .i64 k k (by omega) (Int.le_refl _) (by rw [hz2]; omega) (by omega)
 rw [hz1] at h
 rw [← made_trs]
 simpa [Value.cells] using h
theorem copy_trs {W : World} {g n k : Nat} (hg : CAt W g (trs n k).toArray 4) (hn : n ≤ k) (a : Addr) (m sc dc : Nat) (hsrc : ∀ j, j < m → W.cell? (a.add j) = some (.bool true)) :
  ∃ W', (∀ ty, (Builtin.copy_ #[33, 33] ty #[.slice (some ⟨g, n, none⟩) (k - n) dc, .slice (some a) m sc]).run Tryz.prog W = .ok (.int .i64 ((min m (k - n) : Nat) : Int)) W') ∧ CAt W' g (trs (n + min m (k - n)) k).toArray 4 ∧ Only (fun b => b = g) W W' := by
 have hl : (List.replicate (min m (k - n)) (Value.bool true)).length = min m (k - n) := by simp
 refine ⟨W.setRow g ((trs n k).toArray.toList.take n ++ List.replicate (min m (k - n)) (Value.bool true) ++ (trs n k).toArray.toList.drop (n + (List.replicate (min m (k - n)) (Value.bool true)).length)).toArray, fun ty => ?_, ?_, ?_⟩
 ·have := run_copy_row (P := Tryz.prog) W 33 33 ty 4 g n (k - n) dc a m sc (trs n k).toArray 4 (List.replicate (min m (k - n)) (.bool true)) Tryz.underlying33 (by kernel_rfl) hg hl
    (fun j v hv => by
     rw [List.getElem?_replicate] at hv
     split at hv
     ·cases hv; exact hsrc j (by omega)
     ·cases hv) (by rw [hl]; simp [trs_len hn]; omega) (by intro v hv; rw [List.eq_of_mem_replicate hv]; rfl)
  rw [this, hl]; rfl
 ·have e : (trs n k).toArray.toList.take n ++ List.replicate (min m (k - n)) (Value.bool true) ++ (trs n k).toArray.toList.drop (n + (List.replicate (min m (k - n)) (Value.bool true)).length) = trs (n + min m (k - n)) k := by
    rw [hl, List.toList_toArray]
    unfold trs
    rw [List.take_left' (by simp), List.drop_append, List.drop_eq_nil_of_le (by simp), List.nil_append]
    rw [List.replicate_append_replicate, List.drop_replicate]
    congr 2
    simp
    omega
  rw [e]
  exact setRow_heap _ _ _ _ _ _ hg
 ·exact ⟨rfl, rfl, rfl, by simp, fun x _ hx => setRow_other _ _ _ _ hx⟩
theorem under33 : Tryz.prog.underlying 33 = some (.slice (Tryz.prog.elem 33)) := by kernel_rfl
theorem size4b (w : World) : (sizeOf (Tryz.prog.elem 33)).run Tryz.prog w = .ok 1 w := by
 rw [show Tryz.prog.elem 33 = 4 by kernel_rfl]
 exact Tryz.sizeOf4 w
set_option maxRecDepth 100000 in
theorem run_loB (b n c k : Nat) (hk : k ≤ n) (hc : k < c) (w : World) : (Instr.slice 33 (.slice (some ⟨b, 0, none⟩) n c) (some (.int .i64 (k : Int))) none none).run Tryz.prog w = .ok (.slice (some ⟨b, k, none⟩) (n - k) (c - k)) w := by
 rw [run_slice_l (P := Tryz.prog) w 33 (some ⟨b, 0, none⟩) n c under33 .i64 (k : Int) (by omega) (by omega), size4b]
 simp [Result.andThen, sliced, show ¬ c = k by omega, add_none]
set_option maxRecDepth 100000 in
theorem run_hiB (p : Option Addr) (n c k : Nat) (hk : k ≤ c) (hc : 0 < c) (w : World) : (Instr.slice 33 (.slice p n c) none (some (.int .i64 (k : Int))) none).run Tryz.prog w = .ok (.slice p k c) w := by
 rw [run_slice_h (P := Tryz.prog) w 33 p n c under33 .i64 (k : Int) (by omega) (by omega), size4b]
 cases p with
 | none => simp [Result.andThen, sliced, Nat.pos_iff_ne_zero.1 hc]
 | some a => obtain ⟨b, o, s⟩ := a; simp [Result.andThen, sliced, Addr.add]; try (cases s <;> simp)
set_option maxRecDepth 100000 in
set_option maxHeartbeats 1000000 in
theorem repeat_any (b : Nat) (k : Nat) (hk : 1 ≤ k ∧ k ≤ 16) (w : World) (hb : CAt w b #[.bool true] 4) : Calls Tryz.prog 55 #[.slice (some ⟨b, 0, none⟩) 1 1, .int .i64 (k : Int)] w (RepAt w k) := by
 have h0 : ¬ (k : Int) < 0 := by omega
 have h1 : ¬ (9223372036854775807 : Int) < (k : Int) := by omega
 have hm := fun W => mul_any k hk.2 W
 have hmk := fun W => make_bools k (by omega) W
 have hblt := hb.lt
 have hA : CAt (w.alloc (.cells (trs 0 k).toArray 4)) w.heap.size (trs 0 k).toArray 4 := CAt.made _ _ _
 obtain ⟨W1, hcp, hc1, ho1⟩ := copy_trs hA (Nat.zero_le _) ⟨b, 0, none⟩ 1 1 k (fun j hj => by
  obtain rfl : j = 0 := by omega
  rw [add_zero']; exact (hb.old _).cell 0)
 have hmin : min 1 (k - 0) = 1 := by omega
 rw [hmin, Nat.sub_zero] at hcp
 rw [hmin] at hc1
 have hb1 : Below w.heap.size w W1 := by
  have := (Only.alloc (S := fun x => x = w.heap.size) w (.cells (trs 0 k).toArray 4)).then ho1 (fun _ _ h => h)
  exact this.below (Nat.le_refl _) (fun i e => by omega)
 have HC1 := hid hc1
 have HB1 := hid hb1
 clear hA hc1 hb1 ho1 hb
 go_enter Tryz.func55, Tryz.ntmps55
 go_wp2_with (go_at_call 111; refine (hm _).mono ?_; rintro e w' ⟨rfl, hw'⟩; have hw2 := hw'.symm; subst hw2)
 clear hcp hmk hm
 go_loopw [8] (fun v wr => ∃ n : Nat, 1 ≤ n ∧ n ≤ k ∧ v = .int .i64 (n : Int) ∧ CAt wr w.heap.size (trs n k).toArray 4 ∧ Below w.heap.size w wr) (fun v _ => (100 - intOf v).toNat)
 case atStart => exact ⟨1, by omega, by omega, rfl, HC1.out, HB1.out⟩
 case round =>
  obtain ⟨n, hn1, hnk, rfl, hcn, hbn⟩ := hrel
  by_cases hlt : n < k
  ·have hlt' : (n : Int) < (k : Int) := by omega
   have HCN := hid hcn
   have HBN := hid hbn
   clear hcn hbn
   have hlo := run_loB w.heap.size k k n (by omega) hlt
   have hhi := run_hiB (some ⟨w.heap.size, 0, none⟩) k k n (by omega) (by omega)
   obtain ⟨W2, hcp, hc2, ho2⟩ := copy_trs (W := wr.drew) (HCN.out.keep rfl) hnk ⟨w.heap.size, 0, none⟩ n k (k - n) (fun j hj => by
    have := HCN.out.cell j
    rw [show (⟨w.heap.size, 0, none⟩ : Addr).add j = ⟨w.heap.size, j, none⟩ by rw [add_none, Nat.zero_add]]
    refine (show wr.drew.cell? _ = wr.cell? _ from rfl).trans (this.trans ?_)
    simp [trs, hj, List.getElem?_append_left])
   have hb2 : Below w.heap.size w W2 := by
    have h3 : Below w.heap.size w wr.drew := HBN.out.drew
    exact ⟨ho2.os.trans h3.os, ho2.tape.trans h3.tape, ho2.output.trans h3.output, Nat.le_trans h3.size ho2.size, fun x hx => (ho2.block x (Nat.lt_of_lt_of_le hx h3.size) (by omega)).trans (h3.block x hx)⟩
   have HC2 := hid hc2
   have HB2 := hid hb2
   clear hc2 hb2 ho2
   have hmb : min n (k - n) ≤ 16 := by omega
   have hmc : 1 ≤ min n (k - n) := by omega
   have hmd : n + min n (k - n) ≤ k := by omega
   generalize min n (k - n) = m at *
   have hwr : IntKind.i64.wrap ((n : Int) + (m : Int)) = (n : Int) + (m : Int) := IntWalk.i64_in _ ⟨by omega, by omega⟩
   have HWR := hid hwr
   go_wp2_with (fail)
   go_region_held3 (fun w' => True) (trivial) (fail)
   go_roundw
   case rel => exact ⟨.int .i64 ((n : Int) + (m : Int)), _, _, _, _, _, _, _, _, _, _, _, _, _, ⟨n + m, by omega, hmd, by congr 1, HC2.out, HB2.out⟩, rfl⟩
   case measure => simp [intOf]; omega
  ·have hlt' : ¬ (n : Int) < (k : Int) := by omega
   have hk' : n = k := by omega
   go_wp2
   go_ret
   subst hk'
   exact ⟨_, rfl, Nat.le_refl _, hcn, hbn⟩
end Go.Proofs.YtfogkegmdgbecaaGreatDoor
