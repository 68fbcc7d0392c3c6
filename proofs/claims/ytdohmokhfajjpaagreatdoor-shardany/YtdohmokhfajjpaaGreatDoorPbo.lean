/- Texts laid into one, cut to what is needed: the remark ahead of each part says what is proved there. -/
import Derived.Test.YtdohmokhfajjpaaGreatDoorPbn
import Derived.Deep.MidRow
/- ShardAny. (Written by tools/gen_Bk15.py.) -/
namespace Go.Proofs.YtdohmokhfajjpaaGreatDoor
open Go Go.RowKit

theorem onesN_snoc (S : List Int) (s : Int) : onesN (S ++ [s]) = onesN S + (if s = 1 then 1 else 0) := by
 unfold onesN
 rw [List.countP_append]
 by_cases h : s = 1 <;> simp [h]
theorem wf15 {x : Int} (h1 : 0 ≤ x) (h2 : x ≤ 5000) : (Lit.int .i64 x).wf = true := by
 simp [Lit.wf, IntKind.min, IntKind.max, IntKind.signed, IntKind.bits]; omega
theorem step_storeC15 {w : World} {ops : Array Oper} {o : Oper} {a : Act} {K : Act → World → Prop} {Q : Exit → Act → World → Prop} {E : Prop} (hgd : o.guard = none) (hdst : o.dst = none) (x y : Operand) (ho : o.op = .store 33 x y) (g : Nat) (hx : a.eval x = .pointer (some ⟨g, 0, none⟩)) {e e0 : Int} {v v0 : Value} (hy : a.eval y = .agg (cC e v)) (h1 : (cC e v).all (·.oneCell') = true)
  (hb : CAt w g (cC e0 v0) 33) (h : ∀ w', CAt w' g (cC e v) 33 → Only (fun b => b = g) w w' → K a w') : if Region.wanted o (yielded ops a.tmps) = true then Oper.wp Tryz.prog o a w K Q else E := by
 rw [if_pos (by simp [Region.wanted, hgd])]
 refine wp_store_mid 33 x y ho g 0 (cC e v) hx hy (fun j hj => ?_) sizeCp h1 ?_
 ·refine ⟨?_, hb.free _⟩
  have hj2 : j < 2 := hj
  match j, hj2 with
  | 0, _ => rw [Nat.zero_add, hb.cell]; rfl
  | 1, _ => rw [Nat.zero_add, hb.cell]; rfl
 ·rw [show a.put o.dst undef = a by rw [hdst]; rfl]
  refine h _ ?_ ?_
  ·exact (hb.set 0 (i64 e)).set 1 v
  ·exact (Only.set (S := fun b => b = g) w ⟨g, 0, none⟩ (i64 e) rfl).trans (Only.set (S := fun b => b = g) _ ⟨g, 0 + 1, none⟩ v rfl)
theorem load_atC15 {W : World} {g off : Nat} {e : Int} {v : Value} (hc : ∀ j u, (cC e v)[j]? = some u → W.cell? ⟨g, off + j, none⟩ = some u) : (Instr.loadAt 33 (.pointer (some ⟨g, off, none⟩))).run Tryz.prog W = .ok (.agg (cC e v)) W := by
 simp only [Instr.loadAt, Instr.sureAddr, Sem.run_bind, Sem.run_pure, Result.andThen_ok, run_loadVar_at W g off 33 (cC e v) _ hc underCp rfl sizeCp]
set_option linter.unusedVariables false in
set_option maxRecDepth 100000 in
set_option maxHeartbeats 16000000 in
theorem shardAny_core (po : Option Addr) (c : Nat) (b : List Nat) (K M : Nat) (fv : Value) (l : List Fte) (fr tt : Int) (w : World) (a0 a1 : Addr) (hE : Ers w a0 a1) (hb : BL w po b) (hc : b.length ≤ c) (h8 : ∀ z ∈ b, z < 256) (hpn : po = none → c = 0) (hf : IsFt w fv l)
  (hn : b.length ≤ 2000) (hK : 1 ≤ K) (hM : 1 ≤ M) (hKM : K + M ≤ 16) (hl : l.length ≤ 16) : Calls Tryz.prog 3 #[.slice po b.length c, .int .i64 (K : Int), .int .i64 (M : Int), fv, .int .i64 fr, .int .i64 tt] w fun e w' => e = .returned (.bool true) ∧ Below w.heap.size w w' := by
 obtain ⟨fo, fc, rfl, hfc, -, hfcell, hf8⟩ := hf
 obtain ⟨n, hnn⟩ : ∃ n, b.length = n := ⟨_, rfl⟩
 obtain ⟨N, hN⟩ : ∃ N, K + M = N := ⟨_, rfl⟩
 obtain ⟨fn, hfn⟩ : ∃ fn, l.length = fn := ⟨_, rfl⟩
 have HAW := hid (fun W => awake11_any W)
 have HLAY : Hid (∀ W, Below w.heap.size w W → Calls Tryz.prog 5 #[.slice po n c, .int .i64 (K : Int), .int .i64 (M : Int)] W fun e w' => ∃ g, e = .returned (.tuple #[.slice (some ⟨g, 0, none⟩) N N, .int .i64 0]) ∧ (∀ W', Below w'.heap.size w' W' → LR W' (.slice (some ⟨g, 0, none⟩) N N) (fls K M b) ∧ ∀ i, i < N → ∃ pu nu cu, W'.cell? ⟨g, i, none⟩ = some (.slice pu nu cu) ∧ nu = (shF K b i).length ∧ Buf w.heap.size W' (.slice pu nu cu) (shF K b i)) ∧ Below W.heap.size W w') := hid (fun W hW => by
  have h := lay_ok po c K M b W hK hM hKM (by omega) hc (hb.below hW) h8
  rw [hnn] at h
  refine h.mono fun e w' hq => ?_
  obtain ⟨v, h1, h2, h3⟩ := hq
  have hlr := h2.lr
  obtain ⟨g, vs, e1, h4, h5, h6, h7⟩ := h2
  rw [fls_len, hN] at e1 h6
  subst e1
  refine ⟨g, h1, fun W' hW' => ⟨hlr.below hW', fun i hi => ?_⟩, h3⟩
  have hv : vs[i]? = some vs[i] := Array.getElem?_eq_getElem (by omega)
  have h9 := (h7 i vs[i] (shF K b i) hv (fls_get K M b i (by omega))).1
  obtain ⟨pu, cu, e9⟩ := h9.form
  rw [e9] at hv h9
  exact ⟨pu, _, cu, by rw [(h5.below hW').cell]; exact hv, rfl, (show Buf w.heap.size w' (.slice pu (shF K b i).length cu) (shF K b i) from own_base h9 hW.size).below hW'⟩)
 have HFT : Hid (∀ i, i < fn → ∃ f : Fte, f.msk < 256 ∧ ∃ bf of_, fo = some ⟨bf, of_, none⟩ ∧ ∀ W, Below w.heap.size w W → (Instr.loadAt 37 (.pointer (some ⟨bf, of_ + i * 3, none⟩))).run Tryz.prog W = .ok (.agg f.cs) W) := hid (fun i hi => by
  rcases hfcell with h | ⟨bf, of_, e, h⟩
  ·rw [h] at hfn; simp at hfn; omega
  ·refine ⟨l.getD i default, hf8 _ (by simp only [List.getD]; rw [List.getElem?_eq_getElem (by omega)]; exact List.getElem_mem _), bf, of_, e, fun W hW => ?_⟩
   simp only [Instr.loadAt, Instr.sureAddr, Sem.run_bind, Sem.run_pure, Result.andThen_ok, run_loadVar_at W bf (of_ + i * 3) 37 (l.getD i default).cs _ (fun j u hu => by
    have hj : j < 3 := (Array.getElem?_eq_some_iff.1 hu).1
    have h9 := h i (by omega) j hj
    rw [hu] at h9
    exact (World.cell?_of_block (a := ⟨bf, of_ + i * 3 + j, none⟩) (hW.block bf (cell_lt' (a := ⟨bf, of_ + i * 3 + j, none⟩) (by rw [h9]; simp)))).trans h9) Tryz.underlying37 rfl (by kernel_rfl)])
 have hSF := shF_le (K := K) (b := b) hK hn
 have HSF := hid hSF
 have hkb : U.lgt b.length K ≤ 65536 := U.lgt_le _ _ (by omega) hK
 have HBF : Hid (∀ (B : Nat) (po : Option Addr) (nn c : Nat) (f : Fte) (i : Nat) (W W0 : World), f.msk < 256 → Below w.heap.size w W0 → B = W0.heap.size → B ≤ W.heap.size → Below W0.heap.size W0 W → Buf B W (.slice po nn c) (shF K b i) → nn = (shF K b i).length → Calls Tryz.prog 7 #[.agg (cC 0 (.slice po nn c)), .agg f.cs] W (BfA B (.slice po nn c) W K b i)) := hid (fun B po nn c f i W W0 hm h0 hB hBW hW hx hnn => by
  refine befalls_any po nn c f K b i W a0 a1 (fun W' ho => ?_) hx hnn (shF_lt K b i) (hSF i) hBW hkb hm
  have : Below W0.heap.size W W' := ho.below (by omega) (fun q e => by have := (own_ge hx q e).1; omega)
  exact (hE.below h0).below (below_tr hW this))
 have HRF : Hid (∀ (L : List Cv) (S : List Nat), OkL K b (cps L) (S.map fun s : Nat => (s : Int)) → L.length = N → onesN (S.map fun s : Nat => (s : Int)) < K → rdrE (ofR n K M (dig b)) [] (cps L) = 10 ∧ rdrB (ofR n K M (dig b)) [] (cps L) = []) := hid (fun L S ho hL h1 => by
  have := ho.ones hK (by omega)
  have h2 := read_few (k := K) (m := M) (b := b) (l := cps L) hK hM hKM (by omega) (by rw [cps_len]; omega) (by rw [this]; exact h1)
  rw [hnn] at h2
  exact h2)
 have HRW : Hid (∀ (L : List Cv) (S : List Nat), OkL K b (cps L) (S.map fun s : Nat => (s : Int)) → L.length = N → ¬ onesN (S.map fun s : Nat => (s : Int)) < K → rdrE (ofR n K M (dig b)) [] (cps L) = 0 ∧ rdrB (ofR n K M (dig b)) [] (cps L) = b ∧ stts (cps L) (fls K M b) = S.map (fun s : Nat => (s : Int)) ∧ ∀ x y : Nat, x ≤ y → y ≤ n → prtE (ofR n K M (dig b)) [] (cps L) x y = 0 ∧ prtB (ofR n K M (dig b)) [] (cps L) x y = ct b x y) := hid (fun L S ho hL h1 => by
  have h3 := ho.ones hK (by omega)
  have h2 := read_well (k := K) (m := M) (b := b) (l := cps L) h8 hK hM hKM (by omega) (by rw [cps_len]; omega) ho.wl (by rw [h3]; omega)
  rw [hnn] at h2
  refine ⟨h2.1, h2.2, ho.stts (by rw [cps_len]; omega), fun x y hxy hyn => ?_⟩
  have hmay : mayB (ofR n K M (dig b)) [] (cps L).length = true := mayB_of (dig_len b) (by omega) (by omega) (by omega) (by omega) (by omega) (by rw [cps_len]; omega)
  have hr : ¬ ((x : Int) < 0 ∨ (y : Int) < x ∨ (ofR n K M (dig b)).size < y) := by show ¬ ((x : Int) < 0 ∨ (y : Int) < x ∨ (n : Int) < y); omega
  unfold prtE prtB
  rw [if_pos hmay, if_pos hmay, if_neg hr, if_neg hr, h2.1, h2.2]
  exact ⟨rfl, by simp [ct]⟩)
 have HOF : Hid (∀ W, Below w.heap.size w W → Calls Tryz.prog 9 #[.slice po n c, .int .i64 (K : Int), .int .i64 (M : Int)] W fun e w' => e = .returned (.agg (ofR n K M (dig b)).cs) ∧ Below W.heap.size W w') := hid (fun W hW => by
  have := of11_any po c b K M W (hb.below hW) h8 hc (by omega)
  rw [hnn] at this
  exact this)
 have HRD := hid (fun (W : World) (v : Value) (L : List Cv) (h : CL W v L) => sread_any (ofR n K M (dig b)) (ofR_ok (dig_len _) (dig_lt _)) [] v L W (PL.nil W) h)
 have HMD := hid (fun (W : World) (v : Value) (L : List Cv) (h : CL W v L) => mend_any (ofR n K M (dig b)) (ofR_ok (dig_len _) (dig_lt _)) [] v L W (PL.nil W) h)
 have HPT := hid (fun (W : World) (v : Value) (L : List Cv) (h : CL W v L) (x y : Nat) (hy : y ≤ 2000) (hx : x ≤ 2000) => part_any (ofR n K M (dig b)) (ofR_ok (dig_len _) (dig_lt _)) [] v L x y W (PL.nil W) h (wf15 (by omega) (by omega)) (wf15 (by omega) (by omega)))
 have HBL := hid (fun W (h : Below w.heap.size w W) => hb.below h)
 have HNN := hid hnn
 have HCC := hid hc
 have HB8 := hid h8
 have HPN := hid hpn
 have HFLS8 : Hid (∀ X ∈ fls K M b, ∀ z ∈ X, z < 256) := hid (fun X hX => by
  obtain ⟨j, _, rfl⟩ := List.mem_map.1 hX
  exact shF_lt K b j)
 have HFLN : Hid ((fls K M b).length ≤ 1000) := hid (by rw [fls_len]; omega)
 rw [hnn, hfn]
 rw [hfn] at hl hfc
 rw [hnn] at hn hc
 have hn1 : ¬ (2000 : Int) < (n : Int) := by omega
 have hk1 : ¬ (K : Int) < 1 := by omega
 have hm1 : ¬ (M : Int) < 1 := by omega
 have hk2 : ¬ (15 : Int) < (K : Int) := by omega
 have hw : IntKind.i64.wrap (16 - (K : Int)) = 16 - (K : Int) := IntWalk.i64_in _ ⟨by omega, by omega⟩
 have hm2 : ¬ 16 - (K : Int) < (M : Int) := by omega
 have hf1 : ¬ (16 : Int) < (fn : Int) := by omega
 have hwN : IntKind.i64.wrap ((K : Int) + (M : Int)) = (N : Int) := by rw [show (K : Int) + (M : Int) = (N : Int) by omega]; exact IntWalk.i64_in _ ⟨by omega, by omega⟩
 have hNN : ((N : Int) != (N : Int)) = false := by simp
 have hN16 : (N : Int) ≤ 16 := by omega
 have HKM := hid hKM
 have HN := hid hN
 have HNB := hid hn
 generalize dig b = DG at *
 clear hE hb h8 hpn hfcell hf8 hSF hkb hN hnn hfn hl hKM hK hM
 go_enter Tryz.func3, Tryz.ntmps3
 go_upto_region 7 with (first
  | (go_at_call 4; refine (HAW.out _).mono ?_; rintro e w0 ⟨rfl, hb0⟩; have HB0 := hid hb0; clear hb0)
  | (go_at_call 5; refine (HLAY.out _ HB0.out).mono ?_; rintro e w1 ⟨g, rfl, hfls, hb1⟩; have HFL := hid hfls; have HB1 := hid (below_on HB0.out hb1); clear hfls hb1))
 clear HAW HLAY hn1 hk1 hm1 hk2 hw hm2 hf1 hNN HB0
 go_wp2_with fail
 go_loopg [16, 17, 18, 19, 21] N (fun gg u v s x _ wr => ∃ (i : Nat) (L : List Cv) (S : List Nat), i ≤ N ∧ N - i ≤ gg ∧ (u = u) ∧ (v = v) ∧ s = .int .i64 ((onesN (S.map fun s : Nat => (s : Int)) : Nat) : Int) ∧ x = .int .i64 (i : Int) ∧ Hid (SHI w1 K b u v L S wr) ∧ L.length = i)
 case atStart => exact ⟨0, [], [], by omega, by omega, rfl, rfl, rfl, rfl, hid (SHI.nil w1 K b), rfl⟩
 case round =>
  obtain ⟨i, L, S, hi, hg, -, -, rfl, rfl, HI, hLi⟩ := hrel
  obtain ⟨pu, cu, hfu, -, -⟩ := HI.out.ci.buf.form
  rw [List.length_map, hLi] at hfu
  subst hfu
  obtain ⟨pv, cv, hfv⟩ := own_form HI.out.wa
  rw [HI.out.len, hLi] at hfv
  subst hfv
  have hon : onesN (S.map fun s : Nat => (s : Int)) ≤ 16 := by
   have h1 : onesN (S.map fun s : Nat => (s : Int)) ≤ (S.map fun s : Nat => (s : Int)).length := List.countP_le_length
   rw [List.length_map, HI.out.len] at h1
   omega
  by_cases hlt : i < N
  ·have hltz : (i : Int) < (N : Int) := by omega
   have hi16 : (i : Int) ≤ 16 := by omega
   have HBW := hid (below_on HB1.out HI.out.be)
   obtain ⟨pq, nq, cq, hcell, hnq, hbq⟩ := (HFL.out wr HI.out.be).2 i hlt
   have HNQ := hid hnq
   have HSI := hid (HSF.out i)
   have HCP := hid (copyN hbq hnq (by have := HSF.out i; omega))
   obtain ⟨S0, hS0⟩ : ∃ S0, onesN (S.map fun s : Nat => (s : Int)) = S0 := ⟨_, rfl⟩
   have HS0 := hid hS0
   rw [hS0] at hon ⊢
   clear hnq hbq hS0
   have TP : Hid True := hid trivial
   go_upto_region 14 with (first
    | (go_at_call 6; refine HCP.out.mono ?_; rintro e w2 ⟨pt, ct_, rfl, hct, hbt, hb2⟩; have HBT := hid hbt; have HB2 := hid hb2; have HKT := hid (builtK1 pt nq ct_); clear hbt hb2)
    | ((with_reducible refine wpList_build_want 33 _ rfl ?_ (cC 0 (.slice pt nq ct_)) ?_ ?_); kernel_rfl; exact HKT.out)
    | ((with_reducible refine wpList_allocX 33 _ zeroCp rfl rfl ?_); intro w3 g20 hz3 hb3 hg3; have HZ3 := hid hz3; have HB3 := hid hb3; have HG3 := hid hg3; clear hz3 hb3 hg3)
    | ((with_reducible refine wpList_storeX 33 2 sizeCp rfl rfl _ _ rfl g20 ?_ (D := cC 0 (.slice pt nq ct_)) ?_ ?_ ?_ ?_ HZ3.out ?_); exact rfl; exact rfl; exact rfl; exact rfl; exact cC_one _ _ _ _; intro w4 h4 o4; have HC4 := hid h4; have HB24 := hid (ownX HB3.out HG3.out o4); clear h4 o4 HZ3 HB3))
   have HB4 := hid (below_on HB2.out HB24.out)
   have HI4 := hid (HI.out.on HB4.out)
   have HX4 := hid (HBT.out.below HB24.out)
   have HG20 : Hid (∀ q, (Value.slice pt nq ct_).ownBlock = some q → q ≠ g20) := hid (fun q e => by have := (own_ge HBT.out q e).2; have := HG3.out; omega)
   have HW1 : Hid (w1.heap.size ≤ wr.heap.size) := hid HI.out.be.size
   have HG20W := hid (show wr.heap.size ≤ g20 by have := HG3.out; have := HB2.out.size; omega)
   have HI0 := HI
   clear HCP HKT HBT HB2 HB24 HG3 HI hcell
   by_cases hfl : i < fn
   ·have hflz : (i : Int) < (fn : Int) := by omega
    have hflc : (i : Int) < (fc : Int) := by omega
    obtain ⟨f, hfm, bf, of_, rfl, hfld⟩ := HFT.out i hfl
    have HFD := hid hfld
    have HBC := hid (fun W (hW : Below w4.heap.size w4 W) => HBF.out wr.heap.size pt nq ct_ f i W wr hfm HBW.out rfl (Nat.le_trans HB4.out.size hW.size) (below_on HB4.out hW) (HX4.out.below hW) HNQ.out)
    clear hfld HBF HFT
    go_upto_region 15 with fail
    have HD := hid (below_drew w4)
    have HS5 : Hid (∀ W, Below w.heap.size w W → (fun W : World => (Instr.loadAt 37 (.pointer (some ⟨bf, of_ + i * 3, none⟩))).run Tryz.prog W = .ok (.agg f.cs) W) W) := hid (fun W hW => HFD.out W hW)
    have HBD := hid (below_on HBW.out (below_on HB4.out HD.out))
    refine wp_region_held_drew (S := (fun W : World => (Instr.loadAt 37 (.pointer (some ⟨bf, of_ + i * 3, none⟩))).run Tryz.prog W = .ok (.agg f.cs) W)) (by kernel_rfl) (HS5.out _ HBD.out) (fun hHeld => ?_)
    have HCD := hid (HC4.out.below HD.out)
    have HID := hid (HI4.out.on HD.out)
    have HBCD := hid (HBC.out _ HD.out)
    have HBRD := hid (below_on HB4.out HD.out)
    have HIR := HI0
    have HXD := hid (HX4.out.below HD.out)
    clear HC4 HI4 HBC HD HB4 HX4
    generalize w4.drew = wd at *
    refine wpAnyH_take (i := 1) (oi := ⟨some 93, .move (.tmp 3), _, _, _, none⟩) (v := .slice (some ⟨bf, of_, none⟩) fn fc) rfl (by kernel_rfl) (by kernel_rfl) (by kernel_rfl) (fun _ _ _ h => h) (Or.inl ⟨by kernel_rfl, by intro W hW; go_simp⟩) hHeld ?_
    refine wpAnyH_take (i := 2) (oi := ⟨some 94, .move (.tmp 19), _, _, _, none⟩) (v := .int .i64 (i : Int)) rfl (by kernel_rfl) (by kernel_rfl) (by kernel_rfl) (fun _ _ _ h => h) (Or.inl ⟨by kernel_rfl, by intro W hW; go_simp⟩) hHeld ?_
    refine wpAnyH_take (i := 3) (oi := ⟨some 95, .indexAddr 23 (.tmp 93) (.tmp 94), _, _, _, none⟩) (v := .pointer (some ⟨bf, of_ + i * 3, none⟩)) rfl (by kernel_rfl) (by kernel_rfl) (by kernel_rfl) (fun _ _ _ h => h) (Or.inl ⟨by kernel_rfl, by intro W hW; go_simp⟩) hHeld ?_
    refine wpAnyH_take (i := 4) (oi := ⟨some 96, .load 37 (.tmp 95), _, _, _, none⟩) (v := .agg f.cs) rfl (by kernel_rfl) (by kernel_rfl) (by kernel_rfl) (fun _ _ _ h => h) (Or.inl ⟨by kernel_rfl, fun W hW => exec_load rfl (by kernel_rfl) hW⟩) hHeld ?_
    refine wpAnyH_ready (rs := [0]) (by kernel_rfl) (by simp) ?_
    refine AllReadyH.cons (o := ⟨some 92, .load 33 (.tmp 20), 33, _, _, none⟩) rfl (fun K_ hK => ?_) AllReadyH.nil
    with_reducible refine step_run_val ?_ (.agg (cC 0 (.slice pt nq ct_))) wd ?_ ?_
    ·exact rfl
    ·exact exec_load rfl (by kernel_rfl) (load_atC15 (fun j u hu => by rw [Nat.zero_add, HCD.out.cell]; exact hu))
    refine hK.out _ _ (HS5.out _ HBD.out) (fun hHeld => ?_)
    clear hK K_
    refine wpAnyH_ready (rs := [5]) (by kernel_rfl) (by simp) ?_
    refine AllReadyH.cons rfl (fun K_ hK => ?_) AllReadyH.nil
    go_simp
    refine HBCD.out.mono ?_
    rintro e w5 ⟨⟨E, V, bs⟩, s, rfl, hy, hy8, hyl, hok, hyo⟩
    dsimp only at hy hy8 hyl hok
    obtain ⟨py, cy, hVf⟩ := hy.form
    subst hVf
    have hbr5 : Below wr.heap.size wr w5 := below_tr HBRD.out (hyo.below HBRD.out.size (fun q e => (own_ge HXD.out q e).1))
    have HC5 := hid (HCD.out.keep (hyo.block g20 HCD.out.lt (fun e => HG20.out _ e rfl)))
    have HBR5 := hid hbr5
    have HYB5 : Hid (Buf w1.heap.size w5 (.slice py bs.length cy) bs) := hid (own_base hy HW1.out)
    have HY8 := hid hy8
    have HYL := hid hyl
    have HOK := hid hok
    clear hy hy8 hyl hok hyo hbr5 HXD HBRD HCD HBCD hHeld
    go_wp2_with fail
    refine hK.out _ _ (HS5.out _ (below_on HBW.out HBR5.out)) (fun hHeld => ?_)
    clear hK K_
    refine wpAnyH_take (i := 6) (oi := ⟨some 91, .move (.tmp 97), _, _, _, none⟩) (v := .tuple #[.agg (cC E (.slice py bs.length cy)), .int .i64 (s : Int)]) rfl (by kernel_rfl) (by kernel_rfl) (by kernel_rfl) (fun _ _ _ h => h) (Or.inl ⟨by kernel_rfl, by intro W hW; go_simp⟩) hHeld ?_
    refine wpAnyH_take (i := 7) (oi := ⟨some 98, .extract (.tmp 91) 0, _, _, _, none⟩) (v := .agg (cC E (.slice py bs.length cy))) rfl (by kernel_rfl) (by kernel_rfl) (by kernel_rfl) (fun _ _ _ h => h) (Or.inl ⟨by kernel_rfl, by intro W hW; go_simp⟩) hHeld ?_
    refine wpAnyH_take (i := 8) (oi := ⟨some 99, .extract (.tmp 91) 1, _, _, _, none⟩) (v := .int .i64 (s : Int)) rfl (by kernel_rfl) (by kernel_rfl) (by kernel_rfl) (fun _ _ _ h => h) (Or.inl ⟨by kernel_rfl, by intro W hW; go_simp⟩) hHeld ?_
    refine wpAnyH_ready (rs := [9]) (by kernel_rfl) (by simp) ?_
    refine AllReadyH.cons rfl (fun K_ hK => ?_) AllReadyH.nil
    with_reducible refine step_storeC15 ?_ ?_ (.tmp 20) (.tmp 98) ?_ g20 ?_ (e := E) (v := .slice py bs.length cy) ?_ ?_ HC5.out ?_
    ·exact rfl
    ·exact rfl
    ·exact rfl
    ·kernel_rfl
    ·kernel_rfl
    ·exact cC_one _ _ _ _
    intro w7 hc7 ho7
    have HC7 := hid hc7
    have HBR7 := hid (below_tr HBR5.out (ho7.below HBR5.out.size (fun q e => by have e9 : q = g20 := e; have := HG20W.out; omega)))
    have HYB : Hid (Buf w1.heap.size w7 (.slice py bs.length cy) bs) := hid (own_other15 HYB5.out HC5.out ho7)
    have HI7 := hid (HIR.out.on HBR7.out)
    refine hK.out _ _ (HS5.out _ (below_on HBW.out HBR7.out)) (fun hHeld => ?_)
    clear hK K_
    refine wpAnyH_take (i := 10) (oi := ⟨some 21, .assign (.tmp 99), _, _, _, none⟩) (v := .int .i64 (s : Int)) rfl (by kernel_rfl) (by kernel_rfl) (by kernel_rfl) (fun _ _ _ h => h) (Or.inl ⟨by kernel_rfl, by intro W hW; go_simp⟩) hHeld ?_
    refine wpAnyH_done (by kernel_rfl) ?_ _
    (try simp only [Act.put, List.setIfInBounds_toArray, List.set_cons_zero, List.set_cons_succ])
    clear hHeld hc7 ho7 HC5 HYB5 HBR5 HS5 HBD HID HFD
    by_cases hs0 : s = 0
    ·subst hs0
     go_wp2
     go_ret
     exact ⟨rfl, below_on HBW.out HBR7.out⟩
    have hok2 : OkE K b L.length (⟨E, .slice py bs.length cy, bs⟩ : Cv).cp (s : Int) := by
     rcases HOK.out with h | h
     ·exact absurd h hs0
     ·rw [hLi]; exact h
    have hz0 : ((s : Int) == 0) = false := beq_eq_false_iff_ne.2 (by omega)
    by_cases hs1 : s = 1
    ·have hz1 : ((s : Int) == 1) = true := by rw [hs1]; rfl
     have HCNT : Hid (onesN ((S ++ [s]).map fun s : Nat => (s : Int)) = S0 + 1) := hid (by rw [List.map_append, List.map_singleton, onesN_snoc, HS0.out, if_pos (by omega)])
     clear hs1
     have hw1 : IntKind.i64.wrap ((S0 : Int) + 1) = (S0 : Int) + 1 := IntWalk.i64_in _ ⟨by omega, by omega⟩
     obtain ⟨p6, c6, w6, q8, d8, w8, hr6, hr8, hn8⟩ := HI7.out.next (by omega) ⟨E, (.slice py bs.length cy), bs⟩ HYB.out HY8.out HYL.out s hok2
     have HR6 := hid hr6
     have HR8 := hid hr8
     have HN8 := hid hn8
     clear hr6 hr8 hn8
     rw [hLi] at HR6 HR8 HN8
     go_wp2_with (first
      | ((with_reducible refine wpList_load_at 33 _ rfl ?_ g20 0 ?_ (cC E (.slice py bs.length cy)) _ ?_ underCp rfl ?_ ?_); exact rfl; exact rfl; exact HC7.out.whole; exact sizeCp)
      | ((with_reducible refine wpList_bsC15 rfl _ rfl (e := E) (v := (.slice py bs.length cy)) ?_ ?_); exact rfl)
      | (clear TP; at_builtin; refine wpList_append_run _ _ 29 29 rfl rfl _ _ _ rfl rfl HR6.out ?_)
      | (at_builtin; refine wpList_append_run _ _ 30 30 rfl rfl _ _ _ rfl rfl HR8.out ?_))
     go_roundg (N - (i + 1))
     case measure => omega
     case rel => exact ⟨i + 1, L ++ [⟨E, (.slice py bs.length cy), bs⟩], S ++ [s], by omega, Nat.le_refl _, trivial, trivial, by rw [HCNT.out]; go_num, by go_num, HN8, by simp [hLi]⟩
    ·have hz1 : ((s : Int) == 1) = false := beq_eq_false_iff_ne.2 (by omega)
     have HCNT : Hid (onesN ((S ++ [s]).map fun s : Nat => (s : Int)) = S0) := hid (by rw [List.map_append, List.map_singleton, onesN_snoc, HS0.out, if_neg (by omega), Nat.add_zero])
     obtain ⟨p6, c6, w6, q8, d8, w8, hr6, hr8, hn8⟩ := HI7.out.next (by omega) ⟨E, (.slice py bs.length cy), bs⟩ HYB.out HY8.out HYL.out s hok2
     have HR6 := hid hr6
     have HR8 := hid hr8
     have HN8 := hid hn8
     clear hr6 hr8 hn8
     rw [hLi] at HR6 HR8 HN8
     go_wp2_with (first
      | ((with_reducible refine wpList_load_at 33 _ rfl ?_ g20 0 ?_ (cC E (.slice py bs.length cy)) _ ?_ underCp rfl ?_ ?_); exact rfl; exact rfl; exact HC7.out.whole; exact sizeCp)
      | ((with_reducible refine wpList_bsC15 rfl _ rfl (e := E) (v := (.slice py bs.length cy)) ?_ ?_); exact rfl)
      | (clear TP; at_builtin; refine wpList_append_run _ _ 29 29 rfl rfl _ _ _ rfl rfl HR6.out ?_)
      | (at_builtin; refine wpList_append_run _ _ 30 30 rfl rfl _ _ _ rfl rfl HR8.out ?_))
     go_roundg (N - (i + 1))
     case measure => omega
     case rel => exact ⟨i + 1, L ++ [⟨E, (.slice py bs.length cy), bs⟩], S ++ [s], by omega, Nat.le_refl _, trivial, trivial, by rw [HCNT.out], by go_num, HN8, by simp [hLi]⟩
   ·have hflz : ¬ (i : Int) < (fn : Int) := by omega
    have hok2 : OkE K b L.length (⟨0, .slice pt nq ct_, shF K b i⟩ : Cv).cp ((1 : Nat) : Int) := by rw [hLi]; exact oke_well
    have HCNT : Hid (onesN ((S ++ [1]).map fun s : Nat => (s : Int)) = S0 + 1) := hid (by rw [List.map_append, List.map_singleton, onesN_snoc, HS0.out, if_pos (by rfl)])
    have hw1 : IntKind.i64.wrap ((S0 : Int) + 1) = (S0 : Int) + 1 := IntWalk.i64_in _ ⟨by omega, by omega⟩
    have HYB : Hid (Buf w1.heap.size w4 (.slice pt nq ct_) (shF K b i)) := hid (own_base HX4.out HW1.out)
    have HY8 := hid (shF_lt K b i)
    have HYL : Hid ((shF K b i).length ≤ 5000) := hid (by have := HSI.out; omega)
    obtain ⟨p6, c6, w6, q8, d8, w8, hr6, hr8, hn8⟩ := HI4.out.next (by omega) ⟨0, (.slice pt nq ct_), (shF K b i)⟩ HYB.out HY8.out HYL.out 1 hok2
    have HR6 := hid hr6
    have HR8 := hid hr8
    have HN8 := hid hn8
    clear hr6 hr8 hn8
    rw [hLi] at HR6 HR8 HN8
    go_wp2_with (first
     | ((with_reducible refine wpList_load_at 33 _ rfl ?_ g20 0 ?_ (cC 0 (.slice pt nq ct_)) _ ?_ underCp rfl ?_ ?_); exact rfl; exact rfl; exact HC4.out.whole; exact sizeCp)
     | ((with_reducible refine wpList_bsC15 rfl _ rfl (e := 0) (v := (.slice pt nq ct_)) ?_ ?_); exact rfl)
     | (clear TP; at_builtin; refine wpList_append_run _ _ 29 29 rfl rfl _ _ _ rfl rfl HR6.out ?_)
     | (at_builtin; refine wpList_append_run _ _ 30 30 rfl rfl _ _ _ rfl rfl HR8.out ?_))
    go_roundg (N - (i + 1))
    case measure => omega
    case rel => exact ⟨i + 1, L ++ [⟨0, (.slice pt nq ct_), (shF K b i)⟩], S ++ [1], by omega, Nat.le_refl _, trivial, trivial, by rw [HCNT.out]; go_num, by go_num, HN8, by simp [hLi]⟩
  ·have hltz : ¬ (i : Int) < (N : Int) := by omega
   have hiN : i = N := by omega
   subst hiN
   have HBW := hid (below_on HB1.out HI.out.be)
   have HCL : Hid (∀ W, SHI w1 K b (.slice pu i cu) (.slice pv i cv) L S W → CL W (.slice pu i cu) L) := hid (fun W h => h.ci.cl (by omega))
   obtain ⟨S0, hS0⟩ : ∃ S0, onesN (S.map fun s : Nat => (s : Int)) = S0 := ⟨_, rfl⟩
   rw [hS0] at hon ⊢
   by_cases hfew : S0 < K
   ·have hfz : (S0 : Int) < (K : Int) := by omega
    obtain ⟨e1, e2⟩ := HRF.out L S HI.out.ok hLi (by rw [hS0]; exact hfew)
    have HR1 : Hid (∀ W, SHI w1 K b (.slice pu i cu) (.slice pv i cv) L S W → Calls Tryz.prog 8 #[.slice pu i cu, .agg (ofR n K M DG).cs] W fun e w' => (∃ q, e = .returned (.tuple #[.slice q 0 0, .int .i64 10])) ∧ Below W.heap.size W w') := hid (fun W h => (HRD.out W _ L (HCL.out W h)).mono fun e w' hq => by
     rw [e1, e2] at hq
     obtain ⟨q, h1, _, h3⟩ := hq
     exact ⟨⟨q, h1⟩, h3⟩)
    have HR2 : Hid (∀ W, SHI w1 K b (.slice pu i cu) (.slice pv i cv) L S W → Calls Tryz.prog 10 #[.slice pu i cu, .agg (ofR n K M DG).cs] W fun e w' => e = .returned (.tuple #[.slice none 0 0, .slice none 0 0, .int .i64 10]) ∧ Below W.heap.size W w') := hid (fun W h => (HMD.out W _ L (HCL.out W h)).mono fun e w' hq => by
     rw [e1] at hq
     obtain ⟨u, v, h1, h2, h3⟩ := hq
     rcases h3 with ⟨_, rfl, rfl⟩ | ⟨h3, _⟩
     ·exact ⟨h1, h2⟩
     ·cases h3)
    clear HRF HRW HRD HMD HPT HFL HFT HBF HCL e1 e2 hS0
    go_wp2_with (first
     | (go_at_call 9; refine (HOF.out _ (below_on HB1.out HI.out.be)).mono ?_; rintro e w2 ⟨rfl, hb2⟩; replace HI := hid (HI.out.on hb2); clear hb2)
     | (go_at_call 8; refine (HR1.out _ HI.out).mono ?_; rintro e w3 ⟨⟨q3, rfl⟩, hb3⟩; replace HI := hid (HI.out.on hb3); clear hb3)
     | (go_at_call 10; refine (HR2.out _ HI.out).mono ?_; rintro e w4 ⟨rfl, hb4⟩; replace HI := hid (HI.out.on hb4); clear hb4))
    go_ret
    exact ⟨rfl, below_on HB1.out HI.out.be⟩
   ·have hfz : ¬ (S0 : Int) < (K : Int) := by omega
    obtain ⟨e1, e2, e3, e4⟩ := HRW.out L S HI.out.ok hLi (by rw [hS0]; exact hfew)
    have hSl : S.length = i := by rw [HI.out.len]; exact hLi
    have HR1 : Hid (∀ W, SHI w1 K b (.slice pu i cu) (.slice pv i cv) L S W → Calls Tryz.prog 8 #[.slice pu i cu, .agg (ofR n K M DG).cs] W fun e w' => ∃ q, e = .returned (.tuple #[.slice q n n, .int .i64 0]) ∧ BL w' q b ∧ Below W.heap.size W w') := hid (fun W h => (HRD.out W _ L (HCL.out W h)).mono fun e w' hq => by
     rw [e1, e2] at hq
     obtain ⟨q, h1, h2, h3⟩ := hq
     rw [HNN.out] at h1 h2
     exact ⟨q, h1, h2.bl, h3⟩)
    have HR2 : Hid (∀ W, SHI w1 K b (.slice pu i cu) (.slice pv i cv) L S W → Calls Tryz.prog 10 #[.slice pu i cu, .agg (ofR n K M DG).cs] W fun e w' => ∃ gu gv, e = .returned (.tuple #[.slice (some ⟨gu, 0, none⟩) i i, .slice (some ⟨gv, 0, none⟩) i i, .int .i64 0]) ∧ LR w' (.slice (some ⟨gu, 0, none⟩) i i) (fls K M b) ∧ H.IntAt w' (some ⟨gv, 0, none⟩) i (fun j => S.getD j 0) ∧ Below W.heap.size W w') := hid (fun W h => (HMD.out W _ L (HCL.out W h)).mono fun e w' hq => by
     rw [e1, if_pos rfl, if_pos rfl, e2, show ((ofR n K M DG).k).toNat = K from Int.toNat_natCast K, show ((ofR n K M DG).m).toNat = M from Int.toNat_natCast M, e3] at hq
     obtain ⟨u, v, h1, h2, h3⟩ := hq
     rcases h3 with ⟨h3, _⟩ | ⟨_, h4, h5⟩
     ·exact absurd rfl h3
     ·have hlr := h4.lr
      obtain ⟨gu, vs, e5, _⟩ := h4
      rw [fls_len, HN.out] at e5
      subst e5
      obtain ⟨gv, e6, h6⟩ := h5.int15
      rw [hSl] at e6 h6
      subst e6
      exact ⟨gu, gv, h1, hlr, h6, h2⟩)
    have HS1 : Hid (∀ W q, Below w.heap.size w W → BL W q b → Calls Tryz.prog 11 #[.slice q n n, .slice po n c] W fun e w' => e = .returned (.bool true) ∧ w' = W) := hid (fun W q hW hq => by
     have := sameB_any (w := W) (u := .slice q n n) (v := .slice po n c) (x := b) (y := b) ⟨_, _, by rw [HNN.out], hq, by rw [HNN.out]; exact Nat.le_refl _⟩ ⟨_, _, by rw [HNN.out], HBL.out W hW, HCC.out⟩ HB8.out HB8.out
     rw [decide_eq_true rfl] at this
     exact this)
    have HS2 : Hid (∀ W gu, Below w1.heap.size w1 W → LR W (.slice (some ⟨gu, 0, none⟩) i i) (fls K M b) → Calls Tryz.prog 12 #[.slice (some ⟨gu, 0, none⟩) i i, .slice (some ⟨g, 0, none⟩) i i] W fun e w' => e = .returned (.bool true) ∧ Below W.heap.size W w') := hid (fun W gu hW hq => sameL11 _ _ (fls K M b) W hq (HFL.out W hW).1 HFLS8.out HFLN.out)
    have HS3 : Hid (∀ W gv, SHI w1 K b (.slice pu i cu) (.slice pv i cv) L S W → H.IntAt W (some ⟨gv, 0, none⟩) i (fun j => S.getD j 0) → Calls Tryz.prog 13 #[.slice (some ⟨gv, 0, none⟩) i i, .slice pv i cv] W fun e w' => e = .returned (.bool true) ∧ Below W.heap.size W w') := hid (fun W gv hW hq => (H.sameInts_true _ _ i i cv (fun j => S.getD j 0) W (by omega) hq (hW.wa.int15 hSl.symm)).mono fun e w' h => by
     obtain ⟨h1, q, rfl⟩ := h
     exact ⟨h1, below_drewN _ _⟩)
    obtain ⟨N1, hN1⟩ : ∃ N1, n + 1 = N1 := ⟨_, rfl⟩
    have hP1 := pkN_lt fr N1 (by omega)
    have HK1 := hid (fun W => pick_any fr N1 W (by omega) (by omega))
    generalize pkN fr N1 = P1 at *
    obtain ⟨N2, hN2⟩ : ∃ N2, N1 - P1 = N2 := ⟨_, rfl⟩
    have hP2 := pkN_lt tt N2 (by omega)
    have HK2 := hid (fun W => pick_any tt N2 W (by omega) (by omega))
    generalize pkN tt N2 = P2 at *
    obtain ⟨P3, hP3⟩ : ∃ P3, P1 + P2 = P3 := ⟨_, rfl⟩
    have hwn1 : IntKind.i64.wrap ((n : Int) + 1) = (N1 : Int) := by rw [show (n : Int) + 1 = (N1 : Int) by omega]; exact IntWalk.i64_in _ ⟨by omega, by omega⟩
    have hwn2 : IntKind.i64.wrap ((N1 : Int) - (P1 : Int)) = (N2 : Int) := by rw [show (N1 : Int) - (P1 : Int) = (N2 : Int) by omega]; exact IntWalk.i64_in _ ⟨by omega, by omega⟩
    have hwn3 : IntKind.i64.wrap ((P1 : Int) + (P2 : Int)) = (P3 : Int) := by rw [show (P1 : Int) + (P2 : Int) = (P3 : Int) by omega]; exact IntWalk.i64_in _ ⟨by omega, by omega⟩
    have hP13 : P1 ≤ P3 := by omega
    have hP3n : P3 ≤ n := by omega
    obtain ⟨e5, e6⟩ := e4 P1 P3 hP13 hP3n
    have HR3 : Hid (∀ W, SHI w1 K b (.slice pu i cu) (.slice pv i cv) L S W → Calls Tryz.prog 15 #[.slice pu i cu, .agg (ofR n K M DG).cs, .int .i64 (P1 : Int), .int .i64 (P3 : Int)] W fun e w' => ∃ q d, e = .returned (.tuple #[.slice q (P3 - P1) d, .int .i64 0]) ∧ P3 - P1 ≤ d ∧ BL w' q (ct b P1 P3) ∧ Below W.heap.size W w') := hid (fun W h => (HPT.out W _ L (HCL.out W h) P1 P3 (by omega) (by omega)).mono fun e w' hq => by
     rw [e5, e6] at hq
     obtain ⟨v, h1, h2, h3⟩ := hq
     obtain ⟨q, d, rfl⟩ := h2.form
     have h4 := h2.cap.2
     rw [ct_len (by rw [HNN.out]; exact hP3n)] at h1 h2 h4
     exact ⟨q, d, h1, h4, h2.bl, h3⟩)
    obtain ⟨p9, hcut, hp9⟩ := cutb (po := po) (x := b) (m := n) (d := c) HNN.out hc hP13 hP3n
    have HS4 : Hid (∀ W q d, Below w.heap.size w W → BL W q (ct b P1 P3) → P3 - P1 ≤ d → Calls Tryz.prog 11 #[.slice q (P3 - P1) d, .slice p9 (P3 - P1) (c - P1)] W fun e w' => e = .returned (.bool true) ∧ w' = W) := hid (fun W q d hW hq hd => by
     have := sameB_any (w := W) (u := .slice q (P3 - P1) d) (v := .slice p9 (P3 - P1) (c - P1)) (x := ct b P1 P3) (y := ct b P1 P3) ⟨_, _, by rw [ct_len (by rw [HNN.out]; exact hP3n)], hq, by rw [ct_len (by rw [HNN.out]; exact hP3n)]; exact hd⟩ (hp9 W (HBL.out W hW)) (ct_lt HB8.out _ _) (ct_lt HB8.out _ _)
     rw [decide_eq_true rfl] at this
     exact this)
    have hP1c : (P1 : Int) ≤ (P3 : Int) := by omega
    have hP3c : (P3 : Int) ≤ (c : Int) := by omega
    have TS : Hid True := hid trivial
    have TK : Hid True := hid trivial
    clear HRF HRW HRD HMD HPT HFT HBF HCL e1 e2 e3 e4 e5 e6 hS0 hp9 hN1 hN2 hP3 hP1 hP2 hSl
    go_upto_region 26 with (first
     | (go_at_call 9; refine (HOF.out _ (below_on HB1.out HI.out.be)).mono ?_; rintro e w2 ⟨rfl, hb2⟩; replace HI := hid (HI.out.on hb2); (try replace HGB := hid (HGB.out.below hb2)); clear hb2)
     | (go_at_call 8; refine (HR1.out _ HI.out).mono ?_; rintro e w3 ⟨q3, rfl, hq3, hb3⟩; have HGB := hid hq3; replace HI := hid (HI.out.on hb3); clear hb3 hq3)
     | (go_at_call 10; refine (HR2.out _ HI.out).mono ?_; rintro e w4 ⟨gu, gv, rfl, hlr, hia, hb4⟩; have HLR := hid hlr; have HIA := hid hia; replace HI := hid (HI.out.on hb4); replace HGB := hid (HGB.out.below hb4); clear hb4 hlr hia))
    go_upto_region 30 with (first
     | (go_at_call 11; refine (HS1.out _ _ (below_on HB1.out HI.out.be) HGB.out).mono ?_; rintro e w5 ⟨rfl, hq⟩; have hq2 := hq.symm; subst hq2)
     | (go_at_call 12; refine (HS2.out _ _ HI.out.be HLR.out).mono ?_; rintro e w6 ⟨rfl, hb6⟩; replace HI := hid (HI.out.on hb6); replace HIA := hid (H.IntAt.below HIA.out hb6); clear hb6)
     | (go_at_call 13; refine (HS3.out _ _ HI.out HIA.out).mono ?_; rintro e w7 ⟨rfl, hb7⟩; replace HI := hid (HI.out.on hb7); clear hb7)
     | (clear TK; go_at_call 14; refine (HK1.out _).mono ?_; rintro e w8 ⟨rfl, hq⟩; have hq2 := hq.symm; subst hq2)
     | (go_at_call 14; refine (HK2.out _).mono ?_; rintro e w8 ⟨rfl, hq⟩; have hq2 := hq.symm; subst hq2))
    go_wp2_with (first
     | (go_at_call 9; refine (HOF.out _ (below_on HB1.out HI.out.be)).mono ?_; rintro e w9 ⟨rfl, hb9⟩; replace HI := hid (HI.out.on hb9); clear hb9)
     | (go_at_call 15; refine (HR3.out _ HI.out).mono ?_; rintro e w10 ⟨q10, d10, rfl, hd10, hbl10, hb10⟩; have HPB := hid hbl10; have HPD := hid hd10; replace HI := hid (HI.out.on hb10); clear hb10 hbl10 hd10)
     | (go_at_call 11; refine (HS4.out _ _ _ (below_on HB1.out HI.out.be) HPB.out HPD.out).mono ?_; rintro e w11 ⟨rfl, hq⟩; have hq2 := hq.symm; subst hq2))
    go_ret
    exact ⟨rfl, below_on HB1.out HI.out.be⟩
end Go.Proofs.YtdohmokhfajjpaaGreatDoor
