/- Texts laid into one: the remark ahead of each part says what is proved there. -/
import Derived.Test.YtepkpkbgmchioaaGe
import Derived.Test.YtepkpkbgmchioaaGg
import Derived.Lib.SlBytesConst
import Derived.Test.YtepkpkbgmchioaaGf
/- Contracts of mark and awake, the examples. -/
namespace Go.Proofs.Ytepkpkbgmchioaa
open Go Go.RowKit

def mk5 : Rv := mkR ⟨#[110, 117, 108, 108]⟩ 5
def mB : List Nat := [4, 110, 117, 108, 108, 5, 1]
theorem mk5_ok : mk5.ok := mkR_ok (by simp [ByteArray.size])
theorem mk5_may : okRc (mk5.rc []) = true := by kernel_rfl
theorem mk5_bytes : rcB (mk5.rc []) = mB := by kernel_rfl
theorem mk5_read : rdR (mB ++ [9]) = some (mk5.rc [], [9]) := by kernel_rfl
theorem built_mk5 : Try.prog.built 45 [(0, .string ⟨#[110, 117, 108, 108]⟩), (1, .int .i64 5), (2, .bool true)] = some mk5.cs := by kernel_rfl
set_option maxRecDepth 100000 in
theorem mark_any (w : World) : Calls Try.prog 34 #[] w fun e w' => e = .returned (.agg mk5.cs) ∧ Below w.heap.size w w' := by
  obtain ⟨Z, hZ⟩ : ∃ Z, mk5 = Z := ⟨_, rfl⟩
  have zok : Z.ok := hZ ▸ mk5_ok
  have hb := built_mk5
  have hone : Z.pv.oneCell' = true := hZ ▸ rfl
  rw [hZ] at hb ⊢
  have HB := hid hb
  clear hZ hb
  go_enter Try.func34, Try.ntmps34
  go_wp2_with (first
    | ((with_reducible refine wpList_allocR rfl rfl ?_); intro w1 g1 hz1 hb1 hg1; have HZ1 := hid hz1; have HB1 := hid hb1; clear hz1 hb1)
    | ((with_reducible refine wpList_build_want 45 _ rfl ?_ Z.cs ?_ ?_); exact rfl; exact HB.out)
    | ((with_reducible refine wpList_storeR rfl rfl _ _ rfl g1 ?_ (r := Z) ?_ zR_ok zok hone HZ1.out ?_); exact rfl; exact rfl; intro w5 h5 o5; have H5 := hid h5; have O5 := hid o5; clear h5 o5))
  refine ret_rowR rfl g1 rfl rfl H5.out zok ⟨rfl, ?_⟩
  exact below_tr HB1.out (O5.out.below HB1.out.size (fun i e => by omega))
#print axioms mark_any
#print axioms mk5_read
end Go.Proofs.Ytepkpkbgmchioaa

/- Contract of awake, the examples. -/
namespace Go.Proofs.Ytepkpkbgmchioaa
open Go Go.RowKit

abbrev c7 : Array Value := #[.int .u8 4, .int .u8 110, .int .u8 117, .int .u8 108, .int .u8 108, .int .u8 5, .int .u8 1]
theorem under5 : Try.prog.underlying 5 = some (.int .u8) := by kernel_rfl
theorem bl7 (w : World) (fz : Nat × Nat) : BL (w.alloc (.cells c7 5 fz)) (some ⟨w.heap.size, 0, none⟩) mB := Or.inr ⟨_, _, rfl, fun i hi => by
  have h := heap_alloc_new w (.cells c7 5 fz)
  simp only [World.cell?, h, Nat.zero_add]
  match i, hi with
  | 0, _ | 1, _ | 2, _ | 3, _ | 4, _ | 5, _ | 6, _ => rfl⟩
theorem bl9 (w : World) : BL (w.alloc (.cells #[.int .u8 9] 5)) (some ⟨w.heap.size, 0, none⟩) [9] := Or.inr ⟨_, _, rfl, fun i hi => by
  have h := heap_alloc_new w (.cells #[.int .u8 9] 5)
  simp only [World.cell?, h, Nat.zero_add]
  match i, hi with
  | 0, _ => rfl⟩
theorem grow9 (w : World) (fz : Nat × Nat) : ∃ po cc w3, (Builtin.append_ #[22, 22] 22 #[.slice (some ⟨w.heap.size, 0, none⟩) 7 7, .slice (some ⟨w.heap.size + 1, 0, none⟩) 1 1]).run Try.prog ((w.alloc (.cells c7 5 fz)).alloc (.cells #[.int .u8 9] 5)) = .ok (.slice po (mB ++ [9]).length cc) w3 ∧ BL w3 po (mB ++ [9]) ∧ (mB ++ [9]).length ≤ cc ∧ Below w.heap.size w w3 := by
  obtain ⟨i0, hi0, hz0, hz1, hz2⟩ := info_parts Try.info5
  have h7 := (bl7 w fz).below (below_al _ (.cells #[.int .u8 9] 5))
  have h9 := bl9 (w.alloc (.cells c7 5 fz))
  rw [size_al] at h9
  generalize hW : (w.alloc (.cells c7 5 fz)).alloc (.cells #[.int .u8 9] 5) = W at *
  have hr := run_append_grow (P := Try.prog) W 22 22 5 i0 (.int .u8 0) Try.underlying22 hi0 hz0 ⟨w.heap.size, 0, none⟩ 7 7 (mB.map u8) (by rw [hz1]; rfl) (fun j v hj => by
      have hjl : j < mB.length := by
        rcases Nat.lt_or_ge j mB.length with q | q
        · exact q
        · rw [List.getElem?_eq_none (by simpa using q)] at hj; cases hj
      rcases h7 with h | ⟨b, o, e2, h⟩
      · cases h
      · cases e2
        rw [add_none, h j hjl]; simp [hjl] at hj; rw [← hj]; simp [List.getD, hjl]) ⟨w.heap.size + 1, 0, none⟩ 1 1 [u8 9] (by rw [hz1]; rfl) (fun j v hj => by
      rcases h9 with h | ⟨b, o, e2, h⟩
      · cases h
      · cases e2
        match j, hj with
        | 0, hj => rw [add_none, h 0 (by decide)]; simpa using hj) (by decide) (by decide) (by rw [hz2]; decide)
  refine ⟨_, _, _, hr, Or.inr ⟨_, _, rfl, fun i hi => ?_⟩, grownCap_ge W 8 7 5, ?_⟩
  · have h := heap_alloc_new W.drew (.cells ((mB.map u8).toArray ++ [u8 9].toArray ++ Builtin.zeroCells (Value.int .u8 0).cells (grownCap W (7 + 1) 7 5 - (7 + 1))) 5)
    have e : W.drew.heap.size = W.heap.size := rfl
    rw [e] at h
    simp only [World.cell?, h, Nat.zero_add]
    rw [Array.getElem?_append_left (by simpa [mB] using hi)]
    match i, hi with
    | 0, _ | 1, _ | 2, _ | 3, _ | 4, _ | 5, _ | 6, _ | 7, _ => rfl
  · subst hW
    exact below_on (below_on (below_al _ _) (below_al _ _)) (below_on (below_drew _) (below_al _ _))
#print axioms grow9
theorem mB_lt : ∀ z ∈ mB, z < 256 := by decide
theorem mB9_lt : ∀ z ∈ mB ++ [9], z < 256 := by decide
end Go.Proofs.Ytepkpkbgmchioaa

/- Contract of awake, the examples: the walk. -/
namespace Go.Proofs.Ytepkpkbgmchioaa
open Go Go.RowKit

theorem step_run_ex {P : Program} {w : World} {ops : Array Oper} {o : Oper} {a : Act} {K : Act → World → Prop} {Q : Exit → Act → World → Prop} {E : Prop} (hgd : o.guard = none) (v : Value) (w' : World)
    (hr : (execOp a.eval o).run P w = .ok (.value v) w') (h : K (a.put o.dst v) w') : if Region.wanted o (yielded ops a.tmps) = true then Oper.wp P o a w K Q else E := by
  have hw : Region.wanted o (yielded ops a.tmps) = true := by simp [Region.wanted, hgd]
  rw [if_pos hw]
  unfold Oper.wp
  rw [hr]
  exact h
theorem exec_conv {a : Act} {o : Oper} {x : Operand} {v : Value} {W W' : World} (ho : o.op = .convert 22 22 x) (hx : a.eval x = v) (h : (convert 22 22 v).run Try.prog W = .ok v W') : (execOp a.eval o).run Try.prog W = .ok (.value v) W' := by
  unfold execOp
  simp only [ho, hx, Sem.run_bind, h, Result.andThen_ok, Sem.run_pure]
set_option maxRecDepth 100000 in
set_option maxHeartbeats 1000000 in
theorem awake_any (w : World) : Calls Try.prog 32 #[] w fun e w' => e = .returned (.bool true) ∧ Below w.heap.size w w' := by
  obtain ⟨Z, hZ⟩ : ∃ Z, mk5 = Z := ⟨_, rfl⟩
  have zok : Z.ok := hZ ▸ mk5_ok
  have HM := hid (fun w => mark_any w)
  have HPV : Hid (Z.pv = .slice none 0 0) := hid (hZ ▸ rfl)
  have HMAY : Hid (okRc (Z.rc []) = true) := hid (hZ ▸ mk5_may)
  have HBY : Hid (rcB (Z.rc []) = mB) := hid (hZ ▸ mk5_bytes)
  have HRD : Hid (rdR (mB ++ [9]) = some (Z.rc [], [9])) := hid (hZ ▸ mk5_read)
  rw [hZ] at HM
  clear hZ
  have hcv := fun (w : World) (C : Array Value) (n c : Nat) => Go.Lib.run_convert_bytes_const (P := Try.prog) w 22 5 C n c Try.underlying22 under5
  go_enter Try.func32, Try.ntmps32
  go_wp2_with (first
    | (go_at_call 34; refine (HM.out _).mono ?_; rintro e w1 ⟨rfl, hb1⟩; have HB1 := hid hb1; clear hb1)
    | (go_at_call 24; refine (bytes_ok Z zok [] _ (HPV.out ▸ PL.nil _) HMAY.out).mono ?_; rintro e w2 ⟨v2, rfl, ho2, hb2⟩; rw [HBY.out] at ho2; have HO2 := hid ho2; have HB2 := hid (below_on HB1.out hb2); clear ho2 hb2 HB1; obtain ⟨po, cc, w3, hrun, hbl, hcc, hb3⟩ := grow9 w2 (7, 8); have HRUN := hid hrun; have HBL := hid hbl; have HB3 := hid hb3; clear hrun hb3 hbl)
    | (at_builtin; refine wpList_append_run _ _ 22 22 rfl rfl _ _ _ rfl rfl HRUN.out ?_)
    | (go_at_call 30; refine (read_ok po cc (mB ++ [9]) _ HBL.out hcc (by decide) mB9_lt HRD.out).mono ?_; rintro e w4 ⟨r, ps, out, rfl, hok, hrc, hpl, hout, hb4⟩; have hone : r.pv.oneCell' = true := (by obtain ⟨_, _, _, e⟩ := hpl.form; rw [e]; rfl); have HOUT := hid hout; have HPL := hid hpl.1; have HRC := hid hrc; have HB4 := hid (below_on (below_on HB2.out HB3.out) hb4); have HV2 := hid ((HO2.out.below HB3.out).below hb4); clear hpl hout hrc hb4 HBL HRUN HO2)
    | ((with_reducible refine wpList_allocR rfl rfl ?_); intro w5 g5 hz5 hb5 hg5; have HZ5 := hid hz5; have HB5 := hid hb5; clear hz5 hb5)
    | ((with_reducible refine wpList_storeR rfl rfl _ _ rfl g5 ?_ (r := r) ?_ zR_ok hok hone HZ5.out ?_); exact rfl; exact rfl; intro w6 h6 o6; have hb46 := below_tr HB5.out (o6.below HB5.out.size (fun i e => by omega)); have HRB := hid h6; have HB6 := hid (below_on HB4.out hb46); replace HV2 := hid (HV2.out.below hb46); replace HOUT := hid (HOUT.out.below hb46); replace HPL := hid (HPL.out.below hb46); clear h6 o6 hb46 HZ5 HB5 HB4 HB2 HB3))
  have HSF : Hid (∀ W, Below w6.heap.size w6 W → (Instr.loadAt 45 (.pointer (some ⟨g5, 0, none⟩))).run Try.prog W = .ok (.agg r.cs) W) := fun W hW => run_loadR hok (HRB.out.below hok hW)
  refine wp_region_held_drew (S := fun W => (Instr.loadAt 45 (.pointer (some ⟨g5, 0, none⟩))).run Try.prog W = .ok (.agg r.cs) W) (by kernel_rfl) (HSF.out _ (below_drew _)) (fun hHeld => ?_)
  refine wpAnyH_take (i := 0) (oi := ⟨some 20, .move (.tmp 1), 22, _, _, none⟩) (v := v2) rfl (by kernel_rfl) (by kernel_rfl) (by kernel_rfl) (fun _ _ _ h => h) (Or.inl ⟨by rfl, by intro W hW; go_simp⟩) hHeld ?_
  refine wpAnyH_ready (rs := [1]) (by kernel_rfl) (by simp) ?_
  refine AllReadyH.cons rfl (fun K hK => ?_) AllReadyH.nil
  go_simp
  refine hK.out _ _ (HSF.out _ (below_on (below_al _ _) (below_drew _))) (fun hHeld => ?_)
  clear hK K
  refine wpAnyH_ready (rs := [2]) (by kernel_rfl) (by simp) ?_
  refine AllReadyH.cons (o := ⟨some 22, .convert 22 22 (.tmp 21), 22, _, _, none⟩) rfl (fun K hK => ?_) AllReadyH.nil
  with_reducible refine step_run_ex ?_ (.slice (some ⟨w6.heap.size, 0, none⟩) 7 7) (w6.drew.alloc (.cells c7 5 (7, 8))) ?_ ?_
  · exact rfl
  · exact exec_conv rfl (by kernel_rfl) (hcv w6.drew c7 7 7)
  have HB7 : Hid (Below w6.heap.size w6 (w6.drew.alloc (.cells c7 5 (7, 8)))) := hid (below_on (below_drew _) (below_al _ _))
  have HL7 : Hid (BL (w6.drew.alloc (.cells c7 5 (7, 8))) (some ⟨w6.heap.size, 0, none⟩) mB) := hid (bl7 w6.drew (7, 8))
  generalize w6.drew.alloc (.cells c7 5 (7, 8)) = w7 at HB7 HL7 ⊢
  refine hK.out _ _ (HSF.out _ HB7.out) (fun hHeld => ?_)
  clear hK K hcv
  refine wpAnyH_ready (rs := [3]) (by kernel_rfl) (by simp) ?_
  refine AllReadyH.cons rfl (fun K hK => ?_) AllReadyH.nil
  go_simp
  refine (sameB_true (x := mB) (HV2.out.below HB7.out).sl ⟨_, 7, rfl, HL7.out, by decide⟩ mB_lt).mono ?_
  rintro e w8 ⟨rfl, hw8⟩
  have hw9 := hw8.symm
  subst hw9
  go_wp2_with fail
  refine hK.out _ _ (HSF.out _ HB7.out) (fun hHeld => ?_)
  clear hK K
  refine wpAnyH_take (i := 4) (oi := ⟨some 24, .move (.tmp 23), 4, _, _, none⟩) (v := .bool true) rfl (by kernel_rfl) (by kernel_rfl) (by kernel_rfl) (fun _ _ _ h => h) (Or.inl ⟨by kernel_rfl, by intro W hW; go_simp⟩) hHeld ?_
  refine wpAnyH_take (i := 5) (oi := ⟨some 25, .move (.tmp 2), 23, _, _, some (4, true)⟩) (v := i64 0) rfl (by kernel_rfl) (by kernel_rfl) (by kernel_rfl) (fun _ _ _ h => h) (Or.inl ⟨by kernel_rfl, by intro W hW; go_simp⟩) hHeld ?_
  refine wpAnyH_take (i := 6) (oi := ⟨some 26, .binOp .eql 23 (.tmp 25) (.const (.int .i64 0)) 23, 4, _, _, some (4, true)⟩) (v := .bool true) rfl (by kernel_rfl) (by kernel_rfl) (by kernel_rfl) (fun _ _ _ h => h) (Or.inl ⟨by kernel_rfl, by intro W hW; go_simp⟩) hHeld ?_
  refine wpAnyH_take (i := 7) (oi := ⟨some 27, .pick (.tmp 24) (.tmp 26) (.const (.bool false)), 4, _, _, none⟩) (v := .bool true) rfl (by kernel_rfl) (by kernel_rfl) (by kernel_rfl) (fun _ _ _ h => h) (Or.inl ⟨by kernel_rfl, by intro W hW; go_simp⟩) hHeld ?_
  refine wpAnyH_take (i := 8) (oi := ⟨some 28, .move (.tmp 27), 4, _, _, none⟩) (v := .bool true) rfl (by kernel_rfl) (by kernel_rfl) (by kernel_rfl) (fun _ _ _ h => h) (Or.inl ⟨by kernel_rfl, by intro W hW; go_simp⟩) hHeld ?_
  refine wpAnyH_take (i := 9) (oi := ⟨some 29, .load 45 (.tmp 3), 45, _, _, some (8, true)⟩) (v := .agg r.cs) rfl (by kernel_rfl) (by kernel_rfl) (by kernel_rfl) (fun _ _ _ h => h) (Or.inl ⟨by kernel_rfl, fun W hW => exec_load rfl (by kernel_rfl) hW⟩) hHeld ?_
  refine wpAnyH_ready (rs := [10]) (by kernel_rfl) (by simp) ?_
  refine AllReadyH.cons rfl (fun K hK => ?_) AllReadyH.nil
  go_simp
  refine (HM.out _).mono ?_
  rintro e w8 ⟨rfl, hb8⟩
  have HB8 := hid (below_on HB7.out hb8)
  clear hb8
  go_wp2_with fail
  refine hK.out _ _ (HSF.out _ HB8.out) (fun hHeld => ?_)
  clear hK K
  refine wpAnyH_ready (rs := [11]) (by kernel_rfl) (by simp) ?_
  refine AllReadyH.cons rfl (fun K hK => ?_) AllReadyH.nil
  go_simp
  refine (same_any r Z hok zok ps [] _ (HPL.out.below HB8.out) (HPV.out ▸ PL.nil _)).mono ?_
  rintro e w9 ⟨rfl, hb9⟩
  have HB9 := hid (below_on HB8.out hb9)
  clear hb9
  rw [show decide (r.rc ps = Z.rc []) = true from decide_eq_true HRC.out]
  go_wp2_with fail
  refine hK.out _ _ (HSF.out _ HB9.out) (fun hHeld => ?_)
  clear hK K
  refine wpAnyH_take (i := 12) (oi := ⟨some 32, .pick (.tmp 28) (.tmp 31) (.const (.bool false)), 4, _, _, none⟩) (v := .bool true) rfl (by kernel_rfl) (by kernel_rfl) (by kernel_rfl) (fun _ _ _ h => h) (Or.inl ⟨by kernel_rfl, by intro W hW; go_simp⟩) hHeld ?_
  refine wpAnyH_take (i := 13) (oi := ⟨some 33, .move (.tmp 32), 4, _, _, none⟩) (v := .bool true) rfl (by kernel_rfl) (by kernel_rfl) (by kernel_rfl) (fun _ _ _ h => h) (Or.inl ⟨by kernel_rfl, by intro W hW; go_simp⟩) hHeld ?_
  refine wpAnyH_take (i := 14) (oi := ⟨some 34, .move (.tmp 4), 22, _, _, some (13, true)⟩) (v := out) rfl (by kernel_rfl) (by kernel_rfl) (by kernel_rfl) (fun _ _ _ h => h) (Or.inl ⟨by kernel_rfl, by intro W hW; go_simp⟩) hHeld ?_
  refine wpAnyH_ready (rs := [15]) (by kernel_rfl) (by simp) ?_
  refine AllReadyH.cons rfl (fun K hK => ?_) AllReadyH.nil
  go_simp
  have HB10 := hid (below_on HB9.out (below_al w9 (.cells #[.int .u8 9] 5)))
  have HL10 := hid (bl9 w9)
  refine hK.out _ _ (HSF.out _ HB10.out) (fun hHeld => ?_)
  clear hK K
  refine wpAnyH_ready (rs := [16]) (by kernel_rfl) (by simp) ?_
  refine AllReadyH.cons rfl (fun K hK => ?_) AllReadyH.nil
  go_simp
  refine (sameB_true (x := [9]) (HOUT.out.below HB10.out).sl ⟨_, 1, rfl, HL10.out, by decide⟩ (by decide)).mono ?_
  rintro e w11 ⟨rfl, hw11⟩
  have hw12 := hw11.symm
  subst hw12
  go_wp2_with fail
  refine hK.out _ _ (HSF.out _ HB10.out) (fun hHeld => ?_)
  clear hK K
  refine wpAnyH_take (i := 17) (oi := ⟨some 37, .pick (.tmp 33) (.tmp 36) (.const (.bool false)), 4, _, _, none⟩) (v := .bool true) rfl (by kernel_rfl) (by kernel_rfl) (by kernel_rfl) (fun _ _ _ h => h) (Or.inl ⟨by kernel_rfl, by intro W hW; go_simp⟩) hHeld ?_
  refine wpAnyH_take (i := 18) (oi := ⟨some 38, .move (.tmp 37), 4, _, _, none⟩) (v := .bool true) rfl (by kernel_rfl) (by kernel_rfl) (by kernel_rfl) (fun _ _ _ h => h) (Or.inl ⟨by kernel_rfl, by intro W hW; go_simp⟩) hHeld ?_
  refine wpAnyH_take (i := 19) (oi := ⟨some 39, .move (.tmp 5), 23, _, _, some (18, true)⟩) (v := i64 0) rfl (by kernel_rfl) (by kernel_rfl) (by kernel_rfl) (fun _ _ _ h => h) (Or.inl ⟨by kernel_rfl, by intro W hW; go_simp⟩) hHeld ?_
  refine wpAnyH_take (i := 20) (oi := ⟨some 40, .binOp .eql 23 (.tmp 39) (.const (.int .i64 0)) 23, 4, _, _, some (18, true)⟩) (v := .bool true) rfl (by kernel_rfl) (by kernel_rfl) (by kernel_rfl) (fun _ _ _ h => h) (Or.inl ⟨by kernel_rfl, by intro W hW; go_simp⟩) hHeld ?_
  refine wpAnyH_take (i := 21) (oi := ⟨some 41, .pick (.tmp 38) (.tmp 40) (.const (.bool false)), 4, _, _, none⟩) (v := .bool true) rfl (by kernel_rfl) (by kernel_rfl) (by kernel_rfl) (fun _ _ _ h => h) (Or.inl ⟨by kernel_rfl, by intro W hW; go_simp⟩) hHeld ?_
  refine wpAnyH_take (i := 22) (oi := ⟨some 0, .assign (.tmp 41), 4, _, _, none⟩) (v := .bool true) rfl (by kernel_rfl) (by kernel_rfl) (by kernel_rfl) (fun _ _ _ h => h) (Or.inl ⟨by kernel_rfl, by intro W hW; go_simp⟩) hHeld ?_
  refine wpAnyH_done (by kernel_rfl) ?_ _
  simp only [Act.put, List.setIfInBounds_toArray, List.set_cons_zero, List.set_cons_succ]
  go_wp2
  go_ret
  exact ⟨rfl, below_on HB6.out HB10.out⟩
#print axioms awake_any
end Go.Proofs.Ytepkpkbgmchioaa

/- RecordAgain. -/
namespace Go.Proofs.Ytepkpkbgmchioaa
open Go Go.RowKit

set_option maxRecDepth 100000 in
theorem again_big (a : Option Addr) (len cap : Nat) (w : World) (hl : 5000 < len) : Calls Try.prog 6 #[.slice a len cap] w fun e w' => e = .returned (.bool true) ∧ Below w.heap.size w w' := by
  have hl' : 5000 < (len : Int) := by omega
  go_enter Try.func6, Try.ntmps6
  go_wp2_with (go_at_call 32; refine (awake_any _).mono ?_; rintro e w1 ⟨rfl, hb1⟩)
  go_ret
  exact ⟨rfl, hb1⟩
set_option maxRecDepth 100000 in
set_option maxHeartbeats 400000 in
theorem again_bad (a : Option Addr) (cap : Nat) (bs : List Nat) (w : World) (hl : bs.length ≤ 5000) (h : BL w a bs) (hc : bs.length ≤ cap) (h8 : ∀ x ∈ bs, x < 256) (hq : rdR bs = none) : Calls Try.prog 6 #[.slice a bs.length cap] w fun e w' => e = .returned (.bool true) ∧ Below w.heap.size w w' := by
  have hl' : ¬ 5000 < (bs.length : Int) := by omega
  obtain ⟨Z, hZ⟩ : ∃ Z, zR = Z := ⟨_, rfl⟩
  have zok : Z.ok := hZ ▸ zR_ok
  have hone : Z.pv.oneCell' = true := hZ ▸ rfl
  have HRD := hid (fun W (hb : Below w.heap.size w W) => read_bad a cap bs W (h.below hb) hc (by omega) h8 hq)
  rw [hZ] at HRD
  clear h h8 hq hZ
  go_enter Try.func6, Try.ntmps6
  go_wp2_with (first
    | (go_at_call 32; refine (awake_any _).mono ?_; rintro e w1 ⟨rfl, hb1⟩; have HB1 := hid hb1; clear hb1)
    | (go_at_call 30; refine (HRD.out _ HB1.out).mono ?_; rintro e w2 ⟨rfl, hb2⟩; have HB2 := hid (below_on HB1.out hb2); clear hb2)
    | ((with_reducible refine wpList_allocR rfl rfl ?_); intro w3 g3 hz3 hb3 hg3; have HZ3 := hid hz3; have HB3 := hid hb3; clear hz3 hb3)
    | ((with_reducible refine wpList_storeR rfl rfl _ _ rfl g3 ?_ (r := Z) ?_ zR_ok zok hone HZ3.out ?_); exact rfl; exact rfl; intro w4 h4 o4; have HB4 := hid (below_on HB2.out (below_tr HB3.out (o4.below HB3.out.size (fun i e => by omega)))); clear h4 o4 HZ3 HB3))
  go_ret
  exact ⟨rfl, HB4.out⟩
set_option maxRecDepth 100000 in
set_option maxHeartbeats 400000 in
theorem again_ok (a : Option Addr) (cap : Nat) (bs : List Nat) (w : World) (hl : bs.length ≤ 5000) (h : BL w a bs) (hc : bs.length ≤ cap) (h8 : ∀ x ∈ bs, x < 256) (rc : Rc) (L : List Nat) (hq : rdR bs = some (rc, L)) : Calls Try.prog 6 #[.slice a bs.length cap] w fun e w' => e = .returned (.bool true) ∧ Below w.heap.size w w' := by
  have hl' : ¬ 5000 < (bs.length : Int) := by omega
  obtain ⟨q1, q2⟩ := rdR_some h8 hq
  have hX8 : (∀ z ∈ rcB rc, z < 256) ∧ ∀ z ∈ L, z < 256 := sub256 (q2 ▸ h8)
  obtain ⟨N, hN⟩ : ∃ N, N = (rcB rc).length := ⟨_, rfl⟩
  have hlen : bs.length = N + L.length := by rw [q2, List.length_append, hN]
  have hsub : IntKind.i64.wrap ((bs.length : Int) - (L.length : Int)) = (N : Int) := by rw [IntKind.wrap_i64]; omega
  have hN0 : (0 : Int) ≤ (N : Int) := by omega
  have hs1 := run_h8 a bs.length cap N (by omega)
  obtain ⟨p2, hs2, hd2⟩ := h.from8 cap N (by omega) hc
  have ed : bs.drop N = L := by rw [q2, hN, List.drop_left' rfl]
  have et : bs.take N = rcB rc := by rw [q2, hN, List.take_left' rfl]
  have HT : Hid (SL w (.slice a N cap) (rcB rc)) := hid ⟨a, cap, by rw [hN], et ▸ h.take N, by omega⟩
  rw [ed] at hd2
  have HD := hid hd2
  have HRD := hid (fun W (hb : Below w.heap.size w W) => read_ok a cap bs W (h.below hb) hc (by omega) h8 hq)
  have HX8 := hid hX8
  have HQ1 := hid q1
  have HN := hid (And.intro hN hlen)
  clear h h8 hq q1 q2 hX8 hN hlen hd2 ed et
  go_enter Try.func6, Try.ntmps6
  go_wp2_with (first
    | (go_at_call 32; refine (awake_any _).mono ?_; rintro e w1 ⟨rfl, hb1⟩; have HB1 := hid hb1; clear hb1)
    | (go_at_call 30; refine (HRD.out _ HB1.out).mono ?_; rintro e w2 ⟨r, ps, out, rfl, hok, hrc, hpl, hout, hb2⟩; have hone : r.pv.oneCell' = true := (by obtain ⟨_, _, _, e⟩ := hpl.form; rw [e]; rfl); have HOUT := hid hout.sl; obtain ⟨po, hpo, _⟩ := hout.form; subst hpo; have HPL := hid hpl.1; have HRC := hid hrc; have HB2 := hid (below_on HB1.out hb2); clear hb2 hpl hout hrc)
    | ((with_reducible refine wpList_allocR rfl rfl ?_); intro w3 g3 hz3 hb3 hg3; have HZ3 := hid hz3; have HB3 := hid hb3; clear hz3 hb3)
    | ((with_reducible refine wpList_storeR rfl rfl _ _ rfl g3 ?_ (r := r) ?_ zR_ok hok hone HZ3.out ?_); exact rfl; exact rfl; intro w4 h4 o4; have hb34 := below_tr HB3.out (o4.below HB3.out.size (fun i e => by omega)); have HB4 := hid (below_on HB2.out hb34); have HRB := hid h4; replace HPL := hid (HPL.out.below hb34); replace HOUT := hid (HOUT.out.below hb34); clear h4 o4 HZ3 HB3 hb34)
    | ((with_reducible refine wpList_load_at 45 _ rfl ?_ g3 0 ?_ r.cs (.struct (Try.prog.fieldsOf 45)) ?_ underRec rfl ?_ ?_); exact rfl; exact rfl; exact HRB.out.whole; (rw [hok.size]; exact sizeR))
    | (go_at_call 24; refine (bytes_ok r hok ps _ HPL.out (by rw [HRC.out]; exact HQ1.out)).mono ?_; rintro e w5 ⟨v5, rfl, ho5, hb5⟩; rw [HRC.out] at ho5; have HV5 := hid ho5.sl; have HB5 := hid (below_on HB4.out hb5); replace HOUT := hid (HOUT.out.below hb5); clear ho5 hb5)
    | (go_at_call 11; (with_reducible refine (sameB_true (x := rcB rc) HV5.out (HT.out.below HB5.out) HX8.out.1).mono ?_); rintro e w6 ⟨rfl, hw6⟩; have hw7 := hw6.symm; subst hw7; clear hw6)
    | (go_at_call 11; (with_reducible refine (sameB_true (x := L) HOUT.out (HD.out.below HB5.out) HX8.out.2).mono ?_); rintro e w6 ⟨rfl, hw6⟩; have hw7 := hw6.symm; subst hw7; clear hw6))
  go_ret
  exact ⟨rfl, HB5.out⟩
theorem again_all (a : Option Addr) (len cap : Nat) (w : World) (h : IsB w a len cap) : Calls Try.prog 6 #[.slice a len cap] w fun e w' => e = .returned (.bool true) ∧ Below w.heap.size w w' := by
  obtain ⟨bs, rfl, hcap, hbl, h8, _⟩ := h
  by_cases hl : 5000 < bs.length
  · exact again_big a _ cap w hl
  cases hq : rdR bs with
  | none => exact again_bad a cap bs w (by omega) hbl hcap h8 hq
  | some q => exact again_ok a cap bs w (by omega) hbl hcap h8 q.1 q.2 hq
#print axioms again_all
end Go.Proofs.Ytepkpkbgmchioaa

/- RecordUints: how many bytes a number has; too many bytes. -/
namespace Go.Proofs.Ytepkpkbgmchioaa
open Go Go.RowKit

theorem nb_span : ∀ n : Nat, (1 < (nb n).length → 128 ^ ((nb n).length - 1) ≤ n) ∧ n < 128 ^ (nb n).length := by
  intro n
  induction n using Nat.strongRecOn with
  | _ n ih =>
    by_cases h : n < 128
    · rw [nb_lt h]; simp; omega
    · rw [nb_ge h]
      have := ih (n / 128) (by omega)
      have hp := nb_pos (n / 128)
      rw [List.length_cons]
      generalize (nb (n / 128)).length = l at *
      obtain ⟨h1, h2⟩ := this
      constructor
      · intro _
        rw [Nat.add_sub_cancel]
        by_cases hl : 1 < l
        · have h3 := h1 hl
          obtain ⟨j, rfl⟩ : ∃ j, l = j + 1 := ⟨l - 1, by omega⟩
          rw [Nat.add_sub_cancel] at h3
          rw [Nat.pow_succ]
          have := Nat.div_add_mod n 128
          have : 128 ^ j * 128 ≤ n / 128 * 128 := Nat.mul_le_mul_right _ h3
          omega
        · have : l = 1 := by omega
          subst this; omega
      · rw [Nat.pow_succ]
        have := Nat.div_add_mod n 128
        have := Nat.mod_lt n (show 0 < 128 by decide)
        have : (n / 128 + 1) * 128 ≤ 128 ^ l * 128 := Nat.mul_le_mul_right _ h2
        omega
theorem shr_eq (k s : Nat) : (k : Int) >>> s = ((k >>> s : Nat) : Int) := rfl
theorem shr_zero (k s p : Nat) (hp : 2 ^ s = p) (h : k < p) : (k : Int) >>> s = 0 := by
  rw [shr_eq, Nat.shiftRight_eq_div_pow, hp, Nat.div_eq_of_lt h]; rfl
theorem shr_pos (k s p : Nat) (hp : 2 ^ s = p) (h : p ≤ k) : ((k : Int) >>> s == 0) = false := by
  rw [shr_eq, Nat.shiftRight_eq_div_pow, hp]
  have : 0 < p := by rw [← hp]; exact Nat.two_pow_pos s
  have := Nat.div_pos h this
  simp
  omega
theorem all256 {x y : List Nat} (h : ∀ z ∈ x, z < 256) (h' : ∀ z ∈ y, z < 256) : ∀ z ∈ x ++ y, z < 256 := fun z hz => by
  rcases List.mem_append.1 hz with e | e
  · exact h z e
  · exact h' z e
set_option maxRecDepth 100000 in
theorem uints_big (n : Int) (a : Option Addr) (len cap : Nat) (w : World) (hl : 20 < len) : Calls Try.prog 7 #[i64 n, .slice a len cap] w fun e w' => e = .returned (.bool true) ∧ Below w.heap.size w w' := by
  have hl' : 20 < (len : Int) := by omega
  go_enter Try.func7, Try.ntmps7
  go_wp2_with (go_at_call 32; refine (awake_any _).mono ?_; rintro e w1 ⟨rfl, hb1⟩)
  go_ret
  exact ⟨rfl, hb1⟩
#print axioms nb_span
end Go.Proofs.Ytepkpkbgmchioaa

/- Contract of large. -/
namespace Go.Proofs.Ytepkpkbgmchioaa
open Go Go.RowKit

theorem Rv.pv_at {r : Rv} (h : r.sum.length = 32) : r.cs[40]? = some r.pv := by
  unfold Rv.cs
  rw [Array.getElem?_append_right (by simp), Array.getElem?_append_right (by rw [sumC_size, h]; simp), sumC_size, h]
  rfl
theorem Rv.up_at {r : Rv} (h : r.sum.length = 32) : r.cs[41]? = some (.string r.up) := by
  unfold Rv.cs
  rw [Array.getElem?_append_right (by simp), Array.getElem?_append_right (by rw [sumC_size, h]; simp), sumC_size, h]
  rfl
/-- Is a record more than is gone through? -/
def bigR (r : Rv) (n : Nat) : Bool := decide (100 < n) || decide (1000 < r.id.size) || decide (1000 < r.etag.size) || decide (1000 < r.data.size) || decide (1000 < r.up.size)
set_option maxRecDepth 100000 in
theorem large_0 (r : Rv) (hs : r.sum.length = 32) (a : Option Addr) (n c : Nat) (hp : r.pv = .slice a n c) (w : World) (x0 : 100 < n) : Calls Try.prog 21 #[.agg r.cs] w fun e w' => e = .returned (.bool true) ∧ Below w.heap.size w w' := by
  have HS := hid hs
  have HP := hid hp
  have y0 : 100 < (n : Int) := by omega
  clear hs hp
  go_enter Try.func21, Try.ntmps21
  go_wp2_with (((with_reducible refine wpList_boxR rfl _ rfl r.cs ?_ ?_); exact rfl; intro w1 g1 hc1 hb1 hg1; have c0 := hc1.cell 0; rw [r.get8 0 (by omega)] at c0; have c4 := hc1.cell 4; rw [r.get8 4 (by omega)] at c4; have c7 := hc1.cell 7; rw [r.get8 7 (by omega)] at c7; simp at c0 c4 c7; have c40 := hc1.cell 40; rw [Rv.pv_at HS.out, HP.out] at c40; have c41 := hc1.cell 41; rw [Rv.up_at HS.out] at c41; have HB := hid hb1; clear hc1 hb1))
  go_ret
  exact ⟨rfl, HB.out⟩
set_option maxRecDepth 100000 in
theorem large_1 (r : Rv) (hs : r.sum.length = 32) (a : Option Addr) (n c : Nat) (hp : r.pv = .slice a n c) (w : World) (x0 : ¬ 100 < n) (x1 : 1000 < r.id.size) : Calls Try.prog 21 #[.agg r.cs] w fun e w' => e = .returned (.bool true) ∧ Below w.heap.size w w' := by
  have HS := hid hs
  have HP := hid hp
  have y0 : ¬ 100 < (n : Int) := by omega
  have y1 : 1000 < (r.id.size : Int) := by omega
  clear hs hp
  go_enter Try.func21, Try.ntmps21
  go_wp2_with (((with_reducible refine wpList_boxR rfl _ rfl r.cs ?_ ?_); exact rfl; intro w1 g1 hc1 hb1 hg1; have c0 := hc1.cell 0; rw [r.get8 0 (by omega)] at c0; have c4 := hc1.cell 4; rw [r.get8 4 (by omega)] at c4; have c7 := hc1.cell 7; rw [r.get8 7 (by omega)] at c7; simp at c0 c4 c7; have c40 := hc1.cell 40; rw [Rv.pv_at HS.out, HP.out] at c40; have c41 := hc1.cell 41; rw [Rv.up_at HS.out] at c41; have HB := hid hb1; clear hc1 hb1))
  go_ret
  exact ⟨rfl, HB.out⟩
set_option maxRecDepth 100000 in
theorem large_2 (r : Rv) (hs : r.sum.length = 32) (a : Option Addr) (n c : Nat) (hp : r.pv = .slice a n c) (w : World) (x0 : ¬ 100 < n) (x1 : ¬ 1000 < r.id.size) (x2 : 1000 < r.etag.size) : Calls Try.prog 21 #[.agg r.cs] w fun e w' => e = .returned (.bool true) ∧ Below w.heap.size w w' := by
  have HS := hid hs
  have HP := hid hp
  have y0 : ¬ 100 < (n : Int) := by omega
  have y1 : ¬ 1000 < (r.id.size : Int) := by omega
  have y2 : 1000 < (r.etag.size : Int) := by omega
  clear hs hp
  go_enter Try.func21, Try.ntmps21
  go_wp2_with (((with_reducible refine wpList_boxR rfl _ rfl r.cs ?_ ?_); exact rfl; intro w1 g1 hc1 hb1 hg1; have c0 := hc1.cell 0; rw [r.get8 0 (by omega)] at c0; have c4 := hc1.cell 4; rw [r.get8 4 (by omega)] at c4; have c7 := hc1.cell 7; rw [r.get8 7 (by omega)] at c7; simp at c0 c4 c7; have c40 := hc1.cell 40; rw [Rv.pv_at HS.out, HP.out] at c40; have c41 := hc1.cell 41; rw [Rv.up_at HS.out] at c41; have HB := hid hb1; clear hc1 hb1))
  go_ret
  exact ⟨rfl, HB.out⟩
set_option maxRecDepth 100000 in
theorem large_3 (r : Rv) (hs : r.sum.length = 32) (a : Option Addr) (n c : Nat) (hp : r.pv = .slice a n c) (w : World) (x0 : ¬ 100 < n) (x1 : ¬ 1000 < r.id.size) (x2 : ¬ 1000 < r.etag.size) (x3 : 1000 < r.data.size) : Calls Try.prog 21 #[.agg r.cs] w fun e w' => e = .returned (.bool true) ∧ Below w.heap.size w w' := by
  have HS := hid hs
  have HP := hid hp
  have y0 : ¬ 100 < (n : Int) := by omega
  have y1 : ¬ 1000 < (r.id.size : Int) := by omega
  have y2 : ¬ 1000 < (r.etag.size : Int) := by omega
  have y3 : 1000 < (r.data.size : Int) := by omega
  clear hs hp
  go_enter Try.func21, Try.ntmps21
  go_wp2_with (((with_reducible refine wpList_boxR rfl _ rfl r.cs ?_ ?_); exact rfl; intro w1 g1 hc1 hb1 hg1; have c0 := hc1.cell 0; rw [r.get8 0 (by omega)] at c0; have c4 := hc1.cell 4; rw [r.get8 4 (by omega)] at c4; have c7 := hc1.cell 7; rw [r.get8 7 (by omega)] at c7; simp at c0 c4 c7; have c40 := hc1.cell 40; rw [Rv.pv_at HS.out, HP.out] at c40; have c41 := hc1.cell 41; rw [Rv.up_at HS.out] at c41; have HB := hid hb1; clear hc1 hb1))
  go_ret
  exact ⟨rfl, HB.out⟩
set_option maxRecDepth 100000 in
theorem large_4 (r : Rv) (hs : r.sum.length = 32) (a : Option Addr) (n c : Nat) (hp : r.pv = .slice a n c) (w : World) (x0 : ¬ 100 < n) (x1 : ¬ 1000 < r.id.size) (x2 : ¬ 1000 < r.etag.size) (x3 : ¬ 1000 < r.data.size) (x4 : 1000 < r.up.size) : Calls Try.prog 21 #[.agg r.cs] w fun e w' => e = .returned (.bool true) ∧ Below w.heap.size w w' := by
  have HS := hid hs
  have HP := hid hp
  have y0 : ¬ 100 < (n : Int) := by omega
  have y1 : ¬ 1000 < (r.id.size : Int) := by omega
  have y2 : ¬ 1000 < (r.etag.size : Int) := by omega
  have y3 : ¬ 1000 < (r.data.size : Int) := by omega
  have y4 : 1000 < (r.up.size : Int) := by omega
  clear hs hp
  go_enter Try.func21, Try.ntmps21
  go_wp2_with (((with_reducible refine wpList_boxR rfl _ rfl r.cs ?_ ?_); exact rfl; intro w1 g1 hc1 hb1 hg1; have c0 := hc1.cell 0; rw [r.get8 0 (by omega)] at c0; have c4 := hc1.cell 4; rw [r.get8 4 (by omega)] at c4; have c7 := hc1.cell 7; rw [r.get8 7 (by omega)] at c7; simp at c0 c4 c7; have c40 := hc1.cell 40; rw [Rv.pv_at HS.out, HP.out] at c40; have c41 := hc1.cell 41; rw [Rv.up_at HS.out] at c41; have HB := hid hb1; clear hc1 hb1))
  go_ret
  exact ⟨rfl, HB.out⟩
set_option maxRecDepth 100000 in
theorem large_5 (r : Rv) (hs : r.sum.length = 32) (a : Option Addr) (n c : Nat) (hp : r.pv = .slice a n c) (w : World) (x0 : ¬ 100 < n) (x1 : ¬ 1000 < r.id.size) (x2 : ¬ 1000 < r.etag.size) (x3 : ¬ 1000 < r.data.size) (x4 : ¬ 1000 < r.up.size) : Calls Try.prog 21 #[.agg r.cs] w fun e w' => e = .returned (.bool false) ∧ Below w.heap.size w w' := by
  have HS := hid hs
  have HP := hid hp
  have y0 : ¬ 100 < (n : Int) := by omega
  have y1 : ¬ 1000 < (r.id.size : Int) := by omega
  have y2 : ¬ 1000 < (r.etag.size : Int) := by omega
  have y3 : ¬ 1000 < (r.data.size : Int) := by omega
  have y4 : ¬ 1000 < (r.up.size : Int) := by omega
  clear hs hp
  go_enter Try.func21, Try.ntmps21
  go_wp2_with (((with_reducible refine wpList_boxR rfl _ rfl r.cs ?_ ?_); exact rfl; intro w1 g1 hc1 hb1 hg1; have c0 := hc1.cell 0; rw [r.get8 0 (by omega)] at c0; have c4 := hc1.cell 4; rw [r.get8 4 (by omega)] at c4; have c7 := hc1.cell 7; rw [r.get8 7 (by omega)] at c7; simp at c0 c4 c7; have c40 := hc1.cell 40; rw [Rv.pv_at HS.out, HP.out] at c40; have c41 := hc1.cell 41; rw [Rv.up_at HS.out] at c41; have HB := hid hb1; clear hc1 hb1))
  go_ret
  exact ⟨rfl, HB.out⟩
theorem large_any (r : Rv) (hs : r.sum.length = 32) (a : Option Addr) (n c : Nat) (hp : r.pv = .slice a n c) (w : World) : Calls Try.prog 21 #[.agg r.cs] w fun e w' => e = .returned (.bool (bigR r n)) ∧ Below w.heap.size w w' := by
  by_cases x0 : 100 < n
  · rw [show bigR r n = true by simp [bigR, x0]]; exact large_0 r hs a n c hp w x0
  by_cases x1 : 1000 < r.id.size
  · rw [show bigR r n = true by simp [bigR, x1]]; exact large_1 r hs a n c hp w x0 x1
  by_cases x2 : 1000 < r.etag.size
  · rw [show bigR r n = true by simp [bigR, x2]]; exact large_2 r hs a n c hp w x0 x1 x2
  by_cases x3 : 1000 < r.data.size
  · rw [show bigR r n = true by simp [bigR, x3]]; exact large_3 r hs a n c hp w x0 x1 x2 x3
  by_cases x4 : 1000 < r.up.size
  · rw [show bigR r n = true by simp [bigR, x4]]; exact large_4 r hs a n c hp w x0 x1 x2 x3 x4
  rw [show bigR r n = false by simp [bigR]; omega]
  exact large_5 r hs a n c hp w x0 x1 x2 x3 x4
#print axioms large_any
end Go.Proofs.Ytepkpkbgmchioaa

/- RecordBack: a record's bytes. -/
namespace Go.Proofs.Ytepkpkbgmchioaa
open Go Go.RowKit

theorem psB_byte (ps : Ps) : ∀ z ∈ psB ps, z < 256 := fun z hz => by
  unfold psB at hz
  obtain ⟨l, hl, hz⟩ := List.mem_flatten.1 hz
  obtain ⟨q, _, rfl⟩ := List.mem_map.1 hl
  exact all256 (nb_byte _) (nb_byte _) z hz
theorem vB_byte (r : Rv) (hr : r.ok) (ps : Ps) : ∀ z ∈ vB r ps, z < 256 := by
  unfold vB
  exact all256 (nb_byte _) (all256 (tb_lt _) (all256 (nb_byte _) (all256 (nb_byte _) (all256 (tb_lt _) (all256 hr.s8 (all256 (nb_byte _) (all256 (psB_byte _) (tb_lt _))))))))
theorem rcB_byte (r : Rv) (hr : r.ok) (ps : Ps) : ∀ z ∈ rcB (r.rc ps), z < 256 := by
  cases hm : r.mark
  · rw [rcB_vers hm]
    exact all256 (tb_lt _) (all256 (nb_byte _) (all256 (by simp) (vB_byte r hr ps)))
  · rw [rcB_mark hm]
    exact all256 (tb_lt _) (all256 (nb_byte _) (by simp))
theorem okPs_get : ∀ {last : Int} {l : Ps}, okPs last l = true → ∀ i, i < l.length → (l.getD i (0, 0)).1 ≤ 10000 ∧ (l.getD i (0, 0)).2 ≤ 65536
  | _, [], _, i, hi => by simp at hi
  | last, p :: t, h, i, hi => by
    simp [okPs, inR] at h
    obtain ⟨⟨⟨h1, h2⟩, h3, h4⟩, h5⟩ := h
    cases i with
    | zero => simp; omega
    | succ i => simpa using okPs_get h5 i (by simpa using hi)
theorem rcB_len (r : Rv) (hr : r.ok) (ps : Ps) (h : okRc (r.rc ps) = true) : (rcB (r.rc ps)).length ≤ 5000 := by
  obtain ⟨q1, q2, q3⟩ := okRc_id h
  have l1 := tb_le (s := r.id) (by omega)
  have l2 := ib_le (n := r.time) (by omega)
  cases hm : r.mark
  · rw [rcB_vers hm]
    have hv : versOk r ps = true := by rw [okRc_vers r ps hm hr.sl] at h; simp only [Bool.and_eq_true] at h; exact h.2
    obtain ⟨a1, a2, a3, a4, a5, a6, a7, a8, a9, a10, a11⟩ := versOk_iff hv
    have e1 := ib_le (n := r.size) (by omega)
    have e2 := tb_le (s := r.etag) (by omega)
    have e3 := ib_le (n := r.k) (by omega)
    have e4 := ib_le (n := r.m) (by omega)
    have e5 := tb_le (s := r.data) (by omega)
    have e6 := nb_le (n := ps.length) (by omega)
    have e7 := psB_le (okPs_get a10) ps.length (Nat.le_refl _)
    rw [List.take_length] at e7
    have e8 := tb_le (s := r.up) (by omega)
    unfold vB
    simp only [List.length_append, hr.sl, List.length_cons, List.length_nil]
    omega
  · rw [rcB_mark hm]
    simp only [List.length_append, List.length_cons, List.length_nil]
    omega
#print axioms rcB_len
end Go.Proofs.Ytepkpkbgmchioaa
