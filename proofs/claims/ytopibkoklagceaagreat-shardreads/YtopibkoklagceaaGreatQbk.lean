/- Texts laid into one, cut to what is needed: the remark ahead of each part says what is proved there. -/
import Derived.Test.YtopibkoklagceaaGreatQbh
import Derived.Test.YtopibkoklagceaaGreatQbd
import Derived.Test.YtopibkoklagceaaGreatQan
import Derived.Test.YtopibkoklagceaaGreatQbj
import Derived.Test.YtopibkoklagceaaGreatQao
import Derived.Lib.SlBytesConst
import Derived.Test.YtopibkoklagceaaGreatQap
/- The document's Name, Lay and may of shard: as the program's contracts say; what was there is as it was. -/
namespace Go.Proofs.YtopibkoklagceaaGreat
open Go Go.RowKit

/-- Lists of bytes that append has made. -/
def LX (B : Nat) (w : World) (v : Value) (Ls : List (List Nat)) : Prop := ∃ us : List Value, XB 22 1 B w v (us.map fun u => [u]) ∧ us.length = Ls.length ∧ ∀ (i : Nat) (u : Value) (L : List Nat), us[i]? = some u → Ls[i]? = some L → Buf B w u L
theorem LX.nil (B : Nat) (w : World) : LX B w (.slice none 0 0) [] := ⟨[], XB.nil _ _ _ _, rfl, fun i u L h => by simp at h⟩
theorem LX.form {B : Nat} {w : World} {v : Value} {Ls : List (List Nat)} (h : LX B w v Ls) : ∃ po n c, v = .slice po n c := by
 obtain ⟨us, h1, _⟩ := h
 obtain ⟨po, c, e, _⟩ := h1.form
 exact ⟨po, _, c, e⟩
theorem LX.below {B : Nat} {w w' : World} {v : Value} {Ls : List (List Nat)} (h : LX B w v Ls) (hb : Below w.heap.size w w') : LX B w' v Ls := by
 obtain ⟨us, h1, h2, h3⟩ := h
 exact ⟨us, h1.below hb, h2, fun i u L hu hL => (h3 i u L hu hL).below hb⟩
theorem LX.base {B C : Nat} {w : World} {v : Value} {Ls : List (List Nat)} (h : LX B w v Ls) (hC : C ≤ B) : LX C w v Ls := by
 obtain ⟨us, h1, h2, h3⟩ := h
 exact ⟨us, h1.base hC, h2, fun i u L hu hL => own_base (h3 i u L hu hL) hC⟩
theorem row1_len (us : List Value) : ∀ r ∈ us.map (fun u => [u]), r.length = 1 := fun r hr => by obtain ⟨x, _, rfl⟩ := List.mem_map.1 hr; rfl
theorem LX.push {B : Nat} {w w1 : World} {v u : Value} {Ls : List (List Nat)} {L : List Nat} {g : Nat} (h : LX B w v Ls) (hb : Below w.heap.size w w1) (hg : CAt w1 g #[u] 22) (hu : Buf B w1 u L) (hn : Ls.length ≤ 1000) (hB : B ≤ w.heap.size) :
  ∃ po k c w', (Builtin.append_ #[24, 24] 24 #[v, .slice (some ⟨g, 0, none⟩) 1 1]).run Tryz.prog w1 = .ok (.slice po k c) w' ∧ LX B w' (.slice po k c) (Ls ++ [L]) ∧ Below B w1 w' := by
 obtain ⟨us, h1, h2, h3⟩ := h
 have h1' := h1.below hb
 obtain ⟨pu, cu, eu⟩ := Buf.form hu
 obtain ⟨v', w', hr, hx, hgr, hown⟩ := h1'.app (T := 24) (ty := 24) Tryz.underlying24 U.Tryz.info22 rfl (by omega) g 0 1 [[u]] (by simp) (by intro r hr x hx; simp at hr; subst hr; simp at hx; subst hx; rw [eu]; rfl)
  (by
   intro i r hi j x hj
   have hi0 : i = 0 := by
    rcases Nat.eq_zero_or_pos i with q | q
    ·exact q
    ·rw [List.getElem?_eq_none (by simp; omega)] at hi; cases hi
   subst hi0
   simp at hi
   subst hi
   have hj0 : j = 0 := by
    rcases Nat.eq_zero_or_pos j with q | q
    ·exact q
    ·rw [List.getElem?_eq_none (by simp; omega)] at hj; cases hj
   subst hj0
   simp at hj
   subst hj
   rw [hg.cell]; rfl) (by rw [List.length_map, h2]; simp; omega) (by omega) (by have := hb.size; omega)
 have hb2 : Below B w1 w' := h1'.mono (by have := hb.size; omega) hgr
 have keep : ∀ {x : Value} {K : List Nat}, Buf B w1 x K → Buf B w' x K := fun {x K} hx => ownsRow_keep hx fun b hb => hgr.block b (own_ge hx b hb).2 (fun e => by
  rcases hx.2 with ⟨rfl, _⟩ | ⟨g2, cap, cur, rfl, _, hg2, _⟩
  ·cases hb
  ·cases hb
   rcases h1'.2 with ⟨e2, _⟩ | ⟨g3, cap3, cur3, e2, _, hg3, _⟩
   ·rw [e2] at e; cases e
   ·rw [e2] at e; cases e; rw [hg2] at hg3; cases hg3)
 obtain ⟨po, c, e, _⟩ := hx.form
 subst e
 refine ⟨po, _, c, w', hr, ⟨us ++ [u], by rw [List.map_append]; exact hx, by simp [h2], fun i x K hi hK => ?_⟩, hb2⟩
 rcases Nat.lt_or_ge i us.length with q | q
 ·rw [List.getElem?_append_left q] at hi
  rw [List.getElem?_append_left (by omega)] at hK
  exact keep ((h3 i x K hi hK).below hb)
 ·rw [List.getElem?_append_right q] at hi
  rw [List.getElem?_append_right (by omega)] at hK
  have hi0 : i - us.length = 0 := by
   rcases Nat.eq_zero_or_pos (i - us.length) with q | q
   ·exact q
   ·rw [List.getElem?_eq_none (by simp; omega)] at hi; cases hi
  rw [hi0] at hi
  rw [show i - Ls.length = 0 by omega] at hK
  simp at hi hK
  subst hi hK
  exact keep hu
end Go.Proofs.YtopibkoklagceaaGreat

/- The document's Lay, may and Read of shard: as the program's contracts say; what was there is as it was. -/
namespace Go.Proofs.YtopibkoklagceaaGreat
open Go Go.RowKit

theorem rblay_any (po : Option Addr) (c : Nat) (bs : List Nat) (w : World) (hb : BL w po bs) (h8 : ∀ z ∈ bs, z < 256) (hl : bs.length ≤ 65536) (hc : bs.length ≤ c) (hp : po = none → c = 0) :
  Calls Tryz.prog 30 #[.slice po bs.length c] w fun e w' => ∃ v, e = .returned (.tuple #[v, .int .i64 0]) ∧ Buf w.heap.size w' v (flL bs) ∧ Below w.heap.size w w' := by
 refine (H.rlay_ok po bs.length c (fun j => bs.getD j 0) w hl hc (fun e => ⟨by have := hp e; omega, hp e⟩) hb.str (fun i hi => get256 h8 i hi)).mono ?_
 rintro e w' ⟨v, h1, h2, h3⟩
 exact ⟨v, h1, h2, h3⟩
theorem fls_take (k m : Nat) (b : List Nat) (i : Nat) (hi : i < k + m) : (fls k m b).take (i + 1) = (fls k m b).take i ++ [flL (shd k b i)] := by
 rw [List.take_add_one, fls_get k m b i hi]; rfl
set_option maxRecDepth 100000 in
set_option maxHeartbeats 2000000 in
theorem rlay11_ok (po : Option Addr) (c k m : Nat) (b : List Nat) (w : World) (h0 : 1 ≤ k) (h1 : 1 ≤ m) (h : k + m ≤ 16) (hn : b.length ≤ 65536) (hb : BL w po b) (h8 : ∀ z ∈ b, z < 256) :
  Calls Tryz.prog 7 #[.slice po b.length c, .int .i64 (k : Int), .int .i64 (m : Int)] w fun e w' => ∃ v, e = .returned (.tuple #[v, .int .i64 0]) ∧ LX w.heap.size w' v (fls k m b) ∧ Below w.heap.size w w' := by
 obtain ⟨N, hN⟩ : ∃ N, N = k + m := ⟨_, rfl⟩
 obtain ⟨n, hnl⟩ : ∃ n, n = U.lgt b.length k := ⟨_, rfl⟩
 have hln := U.lgt_le b.length k hn h0
 have hsp := U.rsplit_ok po b.length c k m (kx b) w h0 h1 h hn (bl_of_str hb h8)
 have HN := hid hN
 rw [← hN, ← hnl] at hsp
 have HSP := hid hsp
 have hN16 : N ≤ 16 := by omega
 have HNL := hid hnl
 rw [← hnl] at hln
 have HLN := hid hln
 clear hsp hN hnl hb h8 h0 h1 h hn hln
 go_enter Tryz.func7, Tryz.ntmps7
 go_wp2_with (go_at_call 29; refine HSP.out.mono ?_; rintro e w1 ⟨g, cp, G, rfl, hm, hb1⟩; have HM := hid hm; have HB1 := hid hb1; clear hm hb1)
 clear HSP
 go_loopw [10, 11] (fun u q wr => ∃ i : Nat, i ≤ N ∧ q = .int .i64 (i : Int) ∧ ∃ po k2 c2, u = .slice po k2 c2 ∧ Hid (LX w1.heap.size wr u ((fls k m b).take i)) ∧ Hid (Below w1.heap.size w1 wr)) (fun _ q _ => (1000000 - intOf q).toNat)
 case atStart => exact ⟨0, Nat.zero_le _, rfl, none, 0, 0, rfl, LX.nil _ _, Below.refl _ _⟩
 case round =>
  obtain ⟨i, hi, rfl, pa, ka, ca, rfl, HX, HB⟩ := hrel
  by_cases hlt : i < N
  ·have c1 : wr.cell? ⟨g, i, none⟩ = some (.slice (some ⟨G i, 0, none⟩) n n) := by
     have h1 := ownmat_cell HM.out i hlt
     rw [World.cell?_of_block (HB.out.block g (World.block_lt_of_cell? _ _ h1)), h1]
   have hbl := ownmat_bl HM.out i hlt
   have e1 : ((List.range n).map fun j => (U.ash k n b.length (kx b) i j).val) = shd k b i := by unfold shd; rw [← HNL.out]
   rw [e1] at hbl
   have hbl2 := hbl.below HB.out
   have hsl : (shd k b i).length = n := by rw [shd_len, ← HNL.out]
   have hca := rblay_any (some ⟨G i, 0, none⟩) n (shd k b i) wr hbl2 (shd_lt k b i) (by rw [hsl]; exact HLN.out) (by rw [hsl]; exact Nat.le_refl _) (fun e => by cases e)
   rw [hsl] at hca
   have HCA := hid hca
   have HT := hid (fls_take k m b i (by rw [← HN.out]; exact hlt))
   have hi' : (i : Int) < (N : Int) := by omega
   have hw : IntKind.i64.wrap ((i : Int) + 1) = (i : Int) + 1 := IntWalk.i64_in _ ⟨by omega, by omega⟩
   have HAP := hid (fun (w2 : World) (hb2 : Below wr.heap.size wr w2) (u : Value) (hu : Buf w1.heap.size w2 u (flL (shd k b i))) => (HX.out.below hb2).push (below_al w2 (.cells #[u] 22)) (CAt.made w2 #[u] 22) (hu.below (below_al w2 _)) (by rw [List.length_take]; omega) (by have := HB.out.size; have := hb2.size; omega))
   clear hca hsl hbl hbl2 e1
   go_wp2_with (first
    | (go_at_call 30; refine HCA.out.mono ?_; rintro e w5 ⟨v5, rfl, hv5, hb5⟩; obtain ⟨p5, n5, rfl⟩ := Buf.form hv5; obtain ⟨p6, k6, c6, w6, hrun, hx6, hb6⟩ := HAP.out w5 hb5 _ (own_base hv5 HB.out.size); have HRUN := hid hrun; have HX6 := hid hx6; have HB6 := hid (below_tr (below_tr HB.out (below_less hb5 HB.out.size)) (below_tr (below_less (below_al w5 (.cells #[.slice p5 (flL (shd k b i)).length n5] 22)) (by have := HB.out.size; have := hb5.size; omega)) hb6)); clear hv5 hb5 hrun hx6 hb6)
    | (at_builtin; refine wpList_append_run _ _ 24 24 rfl rfl _ _ _ rfl rfl HRUN.out ?_))
   go_roundw
   case rel => exact ⟨i + 1, hlt, by congr 1, p6, k6, c6, rfl, (by rw [HT.out]; exact HX6.out), HB6⟩
   case measure => simp [intOf]; omega
  ·have hq : ¬ (i : Int) < (N : Int) := by omega
   have hk' : i = N := by omega
   go_wp2
   go_ret2
   have hX := HX.out
   rw [List.take_of_length_le (by rw [fls_len, ← HN.out]; omega)] at hX
   exact ⟨_, rfl, hX.base HB1.out.size, below_on HB1.out HB.out⟩
end Go.Proofs.YtopibkoklagceaaGreat

/- The document's may of shard: as the program's check. -/
namespace Go.Proofs.YtopibkoklagceaaGreat
open Go Go.RowKit

theorem rmay_bad (r : Rv) (hr : r.ok) (ps : Ps) (po : Option Addr) (n c : Nat) (w : World) (hp : PL w r.pv ps) (hok : okRc (r.rc ps) = false) : Calls Tryz.prog 38 #[.slice po n c, .agg r.cs] w fun e w' => e = .returned (.bool false) ∧ Below w.heap.size w w' := by
 have HR := hid hr
 have HCK := hid (fun (w' : World) (hb : Below w.heap.size w w') => rcheck_any r hr ps w' (hp.below hb))
 rw [hok] at HCK
 clear hr hp hok
 go_enter Tryz.func38, Tryz.ntmps38
 go_wp2_with (first
   | ((with_reducible refine wpList_boxR rfl _ rfl r.cs ?_ ?_); exact rfl; intro w1 g1 hc1 hb1 hg1; have HA := hid (RBox.mk' HR.out hc1); have HB := hid hb1; clear hc1 hb1)
   | ((with_reducible refine wpList_load_at 40 _ rfl ?_ g1 0 ?_ r.cs (.struct (Tryz.prog.fieldsOf 40)) ?_ underRec rfl ?_ ?_); exact rfl; exact rfl; exact HA.out.whole; (rw [HR.out.size]; exact sizeR))
   | (go_at_call 60; refine (HCK.out _ HB.out).mono ?_; rintro e w4 ⟨rfl, hb4⟩; have HB4 := hid (below_on HB.out hb4); have HA4 := hid (HA.out.below HR.out hb4); have c2 := HA4.out.c2; have c5 := HA4.out.c5; have c6 := HA4.out.c6; clear hb4))
 go_ret
 exact ⟨rfl, HB4.out⟩
theorem rmay_mark (r : Rv) (hr : r.ok) (ps : Ps) (po : Option Addr) (n c : Nat) (w : World) (hp : PL w r.pv ps) (hok : okRc (r.rc ps) = true) (hm : r.mark = true) : Calls Tryz.prog 38 #[.slice po n c, .agg r.cs] w fun e w' => e = .returned (.bool false) ∧ Below w.heap.size w w' := by
 have HR := hid hr
 have HCK := hid (fun (w' : World) (hb : Below w.heap.size w w') => rcheck_any r hr ps w' (hp.below hb))
 rw [hok] at HCK
 simp only [if_true] at HCK
 have HM := hid hm
 clear hr hp hok hm
 go_enter Tryz.func38, Tryz.ntmps38
 go_wp2_with (first
   | ((with_reducible refine wpList_boxR rfl _ rfl r.cs ?_ ?_); exact rfl; intro w1 g1 hc1 hb1 hg1; have HA := hid (RBox.mk' HR.out hc1); have HB := hid hb1; clear hc1 hb1)
   | ((with_reducible refine wpList_load_at 40 _ rfl ?_ g1 0 ?_ r.cs (.struct (Tryz.prog.fieldsOf 40)) ?_ underRec rfl ?_ ?_); exact rfl; exact rfl; exact HA.out.whole; (rw [HR.out.size]; exact sizeR))
   | (go_at_call 60; refine (HCK.out _ HB.out).mono ?_; rintro e w4 ⟨rfl, hb4⟩; have HB4 := hid (below_on HB.out hb4); have HA4 := hid (HA.out.below HR.out hb4); have c2 := HA4.out.c2; have c5 := HA4.out.c5; have c6 := HA4.out.c6; clear hb4; rw [HM.out] at c2))
 go_ret
 exact ⟨rfl, HB4.out⟩
theorem rmay_len (r : Rv) (hr : r.ok) (ps : Ps) (po : Option Addr) (n c k m : Nat) (w : World) (hp : PL w r.pv ps) (hok : okRc (r.rc ps) = true) (hm : r.mark = false) (hrk : r.k = k) (hrm : r.m = m) (hkm : k + m ≤ 16) : Calls Tryz.prog 38 #[.slice po n c, .agg r.cs] w fun e w' => e = .returned (.bool (decide (n = k + m))) ∧ Below w.heap.size w w' := by
 have HR := hid hr
 have HCK := hid (fun (w' : World) (hb : Below w.heap.size w w') => rcheck_any r hr ps w' (hp.below hb))
 rw [hok] at HCK
 simp only [if_true] at HCK
 have HM := hid hm
 have HRK := hid hrk
 have HRM := hid hrm
 have hw : IntKind.i64.wrap ((k : Int) + (m : Int)) = (k : Int) + (m : Int) := IntWalk.i64_in _ ⟨by omega, by omega⟩
 obtain ⟨b, hb⟩ : ∃ b : Bool, decide (n = k + m) = b := ⟨_, rfl⟩
 have hq' : ((n : Int) == (k : Int) + (m : Int)) = b := by rw [← hb, Bool.eq_iff_iff]; simp; omega
 rw [hb]
 clear hr hp hok hm hrk hrm hkm hb
 go_enter Tryz.func38, Tryz.ntmps38
 go_wp2_with (first
   | ((with_reducible refine wpList_boxR rfl _ rfl r.cs ?_ ?_); exact rfl; intro w1 g1 hc1 hb1 hg1; have HA := hid (RBox.mk' HR.out hc1); have HB := hid hb1; clear hc1 hb1)
   | ((with_reducible refine wpList_load_at 40 _ rfl ?_ g1 0 ?_ r.cs (.struct (Tryz.prog.fieldsOf 40)) ?_ underRec rfl ?_ ?_); exact rfl; exact rfl; exact HA.out.whole; (rw [HR.out.size]; exact sizeR))
   | (go_at_call 60; refine (HCK.out _ HB.out).mono ?_; rintro e w4 ⟨rfl, hb4⟩; have HB4 := hid (below_on HB.out hb4); have HA4 := hid (HA.out.below HR.out hb4); have c2 := HA4.out.c2; have c5 := HA4.out.c5; have c6 := HA4.out.c6; clear hb4; rw [HM.out] at c2; rw [HRK.out] at c5; rw [HRM.out] at c6))
 go_ret
 exact ⟨rfl, HB4.out⟩
theorem rmay11_any (r : Rv) (hr : r.ok) (ps : Ps) (po : Option Addr) (n c : Nat) (w : World) (hp : PL w r.pv ps) : Calls Tryz.prog 38 #[.slice po n c, .agg r.cs] w fun e w' => e = .returned (.bool (mayB r ps n)) ∧ Below w.heap.size w w' := by
 unfold mayB
 cases hok : okRc (r.rc ps)
 ·exact rmay_bad r hr ps po n c w hp hok
 ·cases hm : r.mark
  ·have h := okRc_km hok hm
   obtain ⟨k, hk⟩ : ∃ k : Nat, r.k = k := ⟨r.k.toNat, by omega⟩
   obtain ⟨m, hm2⟩ : ∃ m : Nat, r.m = m := ⟨r.m.toNat, by omega⟩
   have e : (true && !false && decide ((n : Int) = r.k + r.m)) = decide (n = k + m) := by rw [hk, hm2, Bool.eq_iff_iff]; simp; omega
   rw [e]
   exact rmay_len r hr ps po n c k m w hp hok hm hk hm2 (by omega)
  ·exact rmay_mark r hr ps po n c w hp hok hm
end Go.Proofs.YtopibkoklagceaaGreat

/- Contracts of SameInts and CopyBytes of the statements' kit; small laws for the walks of the statements. -/
namespace Go.Proofs.YtopibkoklagceaaGreat.H
open Go Go.RowKit

/-- A guarded append whose guard says yes. -/
theorem wpList_append_run {P : Program} {w w' : World} {ops : Array Oper} {rest : List Oper} {o : Oper} {a : Act} {Q : Exit → Act → World → Prop} (s x : Operand) (t : TypeId)
  (ho : o.op = .call { callee := .builtin .append, args := #[s, x], argTypes := #[t, t] }) (hw : Region.wanted o (yielded ops a.tmps) = true)
  (v xv v' : Value) (hs : a.eval s = v) (hx : a.eval x = xv) (hr : (Builtin.append_ #[t, t] o.type #[v, xv]).run P w = .ok v' w') (h : wpList P ops Q rest (a.put o.dst v') w') : wpList P ops Q (o :: rest) a w := by
 refine BigFrame.wpList_want hw fun K hK => ?_
 unfold Oper.wp execOp
 simp only [ho, resolve, invoke, builtin, Sem.run_bind, Sem.run_pure, Result.andThen_ok, List.map_toArray, List.map_cons, List.map_nil, hs, hx, hr]
 exact hK _ _ h
/-- Numbers in memory. -/
def IntAt (w : World) (p : Option Addr) (n : Nat) (x : Nat → Nat) : Prop := n = 0 ∨ ∃ b o, p = some ⟨b, o, none⟩ ∧ ∀ i, i < n → w.cell? ⟨b, o + i, none⟩ = some (.int .i64 (x i : Nat))
theorem BufI.ints {B : Nat} {w : World} {v : Value} {L : List Nat} (h : BufI B w v L) : ∃ p c, v = .slice p L.length c ∧ IntAt w p L.length (fun i => L.getD i 0) := by
 have h0 : w.ownsRow B 3 1 v L.length (L.map i64v) := h
 obtain ⟨hl, ⟨h1, h2⟩ | ⟨g, cap, cur, rfl, hB, hg, hc, _, hs, ht⟩⟩ := h0
 ·exact ⟨none, 0, by rw [h1, h2], .inl h2⟩
 ·refine ⟨some ⟨g, 0, none⟩, cap, rfl, .inr ⟨g, 0, rfl, fun i hi => ?_⟩⟩
  have h1 : w.ownsRow B 3 1 (.slice (some ⟨g, 0, none⟩) L.length cap) L.length (L.map i64v) := h
  have h2 := h1.cellAt i (by omega)
  rw [Nat.zero_add, h2]
  simp [hi, i64v]
theorem IntAt.below {w w' : World} {p : Option Addr} {n : Nat} {x : Nat → Nat} (h : IntAt w p n x) (hb : Below w.heap.size w w') : IntAt w' p n x := by
 rcases h with h | ⟨b, o, rfl, hr⟩
 ·exact .inl h
 ·refine .inr ⟨b, o, rfl, fun i hi => ?_⟩
  have h1 := hr i hi
  exact (hb.cell (p := ⟨b, o + i, none⟩) (cell_lt h1)).trans h1
set_option maxHeartbeats 400000 in
theorem sameInts_true (p q : Option Addr) (n c d : Nat) (x : Nat → Nat) (w : World) (hn : n ≤ 100000) (hp : IntAt w p n x) (hq : IntAt w q n x) :
  Calls Tryz.prog 24 #[.slice p n c, .slice q n d] w fun e w' => e = .returned (.bool true) ∧ ∃ k, w' = w.drewN k := by
 have HP := hid hp
 have HQ := hid hq
 clear hp hq
 go_enter Tryz.func24, Tryz.ntmps24
 go_wp2
 go_loopw [5] (fun v wr => ∃ i : Nat, i ≤ n ∧ v = .int .i64 (i : Int) ∧ ∃ k, wr = w.drewN k) (fun v _ => (n - intOf v).toNat)
 case atStart => exact ⟨0, by omega, rfl, 0, rfl⟩
 case round =>
  obtain ⟨i, hi, rfl, hw⟩ := hrel
  have HW := hid hw
  have hcell : ∀ a : Addr, wr.cell? a = w.cell? a := by obtain ⟨k, rfl⟩ := hw; intro a; rfl
  have HCE := hid hcell
  clear hw hcell
  by_cases hlt : i < n
  ·rcases HP.out with h | ⟨b, o, rfl, hb⟩
   ·omega
   rcases HQ.out with h | ⟨b2, o2, rfl, hb2⟩
   ·omega
   have c1 := (HCE.out _).trans (hb i hlt)
   have c2 := (HCE.out _).trans (hb2 i hlt)
   have hlt' : (i : Int) < (n : Int) := by omega
   clear hb hb2
   go_wp2
   go_quiet (fail)
   go_wp2
   go_roundw
   case rel =>
    refine ⟨i + 1, by omega, by go_num, ?_⟩
    obtain ⟨k, rfl⟩ := HW.out
    first | exact ⟨_, rfl⟩ | exact ⟨k + nq, by simp [World.drewN, Nat.add_assoc]⟩
   case measure => simp [intOf]; omega
  ·have hlt' : ¬ (i : Int) < (n : Int) := by omega
   go_wp2
   go_ret
   exact ⟨rfl, HW.out⟩
theorem BufL.empty (B : Nat) (w : World) (hB : B ≤ w.heap.size) : BufL B (w.alloc (.cells #[] 5)) (.slice (some ⟨w.heap.size, 0, none⟩) 0 0) [] :=
 ⟨rfl, .inr ⟨_, _, _, rfl, hB, heap_alloc_new _ _, Nat.le_refl _, by unfold maxLen; omega, rfl, rfl⟩⟩
def CopyAt (w : World) (L : List Nat) (e : Ending) (w' : World) : Prop := ∃ v, e = .returned v ∧ BufL w.heap.size w' v L ∧ Below w.heap.size w w'
set_option maxRecDepth 100000 in
theorem copyB_any (p : Option Addr) (n c : Nat) (x : Nat → Nat) (w : World) (hn : n ≤ 100000) (hp : p = none → n = 0 ∧ c = 0) (hx : StrAt w p n x) :
  Calls Tryz.prog 35 #[.slice p n c] w (CopyAt w ((List.range n).map x)) := by
 have b1 : Below w.heap.size w (w.alloc (.cells #[] 5)) := (Below.refl _ _).alloc (by omega) _
 obtain ⟨v, w1, r1, f1, g1, _⟩ := (BufL.empty w.heap.size w (Nat.le_refl _)).app p n c x (hx.below b1) hp (by simp; omega) (by simp)
 have HR := hid r1
 have HF := hid (show BufL w.heap.size w1 v ((List.range n).map x) by simpa using f1)
 have HB := hid (b1.grown g1 (by simp) (fun k e => by cases e; exact Nat.le_refl _))
 clear r1 f1 g1 hx hp
 go_enter Tryz.func35, Tryz.ntmps35
 go_wp2_with (refine wpList_append_eq rfl _ _ 22 rfl _ _ rfl rfl _ _ HR.out ?_)
 go_ret
 exact ⟨v, rfl, HF.out, HB.out⟩
end Go.Proofs.YtopibkoklagceaaGreat.H

/- Contracts of Part, Read and Bad of the document's own answer. -/
namespace Go.Proofs.YtopibkoklagceaaGreat.H
open Go Go.RowKit

structure RPaM (w W : World) (v : Value) (L : List Nat) : Prop where
 buf : BufL w.heap.size W v L
 below : Below w.heap.size w W
def RPartU (w : World) (L : List Nat) (E : Int) (e : Ending) (w' : World) : Prop := ∃ v, e = .returned (.tuple #[v, .int .i64 E]) ∧ BufL w.heap.size w' v L ∧ Below w.heap.size w w'
end Go.Proofs.YtopibkoklagceaaGreat.H

/- Contracts of Part and Read of the document's own answer. -/
namespace Go.Proofs.YtopibkoklagceaaGreat.H
open Go Go.RowKit

theorem pcs_flat_len (y : Nat → Nat) (n a b : Nat) : ∀ k, ((List.range k).flatMap (pcs y n a b)).length ≤ 256 * k
 | 0 => by simp
 | k + 1 => by
  have := pcs_flat_len y n a b k
  have h : (pcs y n a b k).length ≤ 256 := by rw [pcs_len]; unfold phi plo bend; omega
  rw [List.range_succ, List.flatMap_append, List.length_append]
  simp only [List.flatMap_cons, List.flatMap_nil, List.append_nil]
  omega
theorem pcs_flat_succ (y : Nat → Nat) (n a b k : Nat) : (List.range (k + 1)).flatMap (pcs y n a b) = (List.range k).flatMap (pcs y n a b) ++ pcs y n a b k := by
 rw [List.range_succ, List.flatMap_append]; simp
theorem parOK_upto {y : Nat → Nat} {m n a b : Nat} (h : ∀ i, i < cnt n → phi n b i ≤ plo a i ∨ snd y m n i = true) : parOK y m n a b = true := by
 unfold parOK
 rw [List.all_eq_true]
 intro i hi
 have := h i (List.mem_range.1 hi)
 simpa using this
def RPaAt (w : World) (ok : Bool) (L : List Nat) (e : Ending) (w' : World) : Prop := Below w.heap.size w w' ∧ ((ok = true ∧ ∃ v, e = .returned (.tuple #[v, .int .i64 0]) ∧ BufL w.heap.size w' v L) ∨ (ok = false ∧ e = .returned (.tuple #[.slice none 0 0, .int .i64 14])))
theorem block_numsV (n i : Nat) (hi : i < cnt n) : 256 * i < bend n i ∧ bend n i ≤ n ∧ bend n i - 256 * i ≤ 256 := by
 have hc : cnt n = (n + 255) / 256 := rfl
 have hb : bend n i = min (256 * i + 256) n := rfl
 generalize cnt n = C at *
 generalize bend n i = r at *
 refine ⟨by omega, by omega, by omega⟩
theorem piece_nums (n a b i : Nat) (hi : i < cnt n) (hab : a ≤ b) (A Bv Hv : Int) (hA : A = (a : Int) - ((256 * i : Nat) : Int)) (hB : Bv = (b : Int) - ((256 * i : Nat) : Int)) (hH : Hv = if ((bend n i - 256 * i : Nat) : Int) < Bv then ((bend n i - 256 * i : Nat) : Int) else Bv) :
  (if A < 0 then 0 else A) = ((plo a i - 256 * i : Nat) : Int) ∧ (Hv ≤ ((plo a i - 256 * i : Nat) : Int) ↔ phi n b i ≤ plo a i) ∧ (¬ phi n b i ≤ plo a i → Hv = ((phi n b i - 256 * i : Nat) : Int) ∧ plo a i - 256 * i ≤ phi n b i - 256 * i ∧ phi n b i - 256 * i ≤ bend n i - 256 * i ∧ (phi n b i - 256 * i) - (plo a i - 256 * i) = phi n b i - plo a i ∧ phi n b i - plo a i ≤ 256) := by
 have hbk := (block_numsV n i hi)
 generalize cnt n = C at *
 unfold phi plo
 generalize bend n i = r at *
 generalize 256 * i = q at *
 refine ⟨by split <;> omega, ?_, ?_⟩
 ·split at hH <;> omega
 ·intro h
  split at hH <;> refine ⟨by omega, by omega, by omega, by omega, by omega⟩
set_option maxRecDepth 100000 in
set_option maxHeartbeats 2000000 in
theorem rpart_ok (p : Option Addr) (m c n a b : Nat) (y : Nat → Nat) (w : World) (hn : n ≤ 65536) (hm : m = n + 32 * cnt n) (hab : a ≤ b) (hbn : b ≤ n) (hc : m ≤ c) (hp : p = none → m = 0 ∧ c = 0) (hy : StrAt w p m y) (hb : ∀ i, i < m → y i < 256) :
  Calls Tryz.prog 61 #[.slice p m c, .int .i64 (n : Int), .int .i64 (a : Int), .int .i64 (b : Int)] w (RPaAt w (parOK y m n a b) (parL y n a b)) := by
 have HY := hid hy
 have HB := hid hb
 have HP := hid hp
 have HM0 := hid hm
 have HAB := hid hab
 have HBN := hid hbn
 have hd : mayB (n : Int) = true := decide_eq_true ⟨by omega, by omega⟩
 have hsz := szV_nat n hn
 have hse := szE_nat n hn
 rw [← hm] at hsz
 have hcn : cnt n ≤ 257 := by unfold cnt; omega
 have hm2 : m ≤ 100000 := by omega
 obtain ⟨C, hC⟩ : ∃ C, cnt n = C := ⟨_, rfl⟩
 have HC := hid hC
 rw [hC] at hcn
 have t1 : ¬ (a : Int) < 0 := by omega
 have t2 : ¬ (b : Int) < (a : Int) := by omega
 have t3 : ¬ (n : Int) < (b : Int) := by omega
 clear hy hb hp hC hm hab hbn
 go_enter Tryz.func61, Tryz.ntmps61
 go_wp2_with (first
  | (go_at_call 90; refine (rmay_any _ _).mono ?_; rintro e w5 ⟨rfl, hw⟩; have h3 := hw.symm; subst h3; rw [hd])
  | (go_at_call 91; refine (rsize_any _ _).mono ?_; rintro e w5 ⟨rfl, hw⟩; have h3 := hw.symm; subst h3; rw [hsz, hse]))
 clear t1 t2 t3 hd hsz hse
 go_loopw [12, 13] (fun v i wr => ∃ k : Nat, k ≤ C ∧ i = .int .i64 (k : Int) ∧ RPaM w wr v ((List.range k).flatMap (pcs y n a b)) ∧ ∀ i, i < k → phi n b i ≤ plo a i ∨ snd y m n i = true) (fun _ i _ => (300 - intOf i).toNat)
 case atStart => exact ⟨0, by omega, rfl, ⟨BufL.nil _ _, Below.refl _ _⟩, fun i hi => by omega⟩
 case round =>
  obtain ⟨k, hk, rfl, hM, hS⟩ := hrel
  have HS := hid hS
  clear hS
  by_cases hlt : k < C
  ·have hlt' : (k : Int) < (C : Int) := by omega
   have hkc : k < cnt n := by rw [HC.out]; exact hlt
   have HST := hid (fun W' (hW' : Below w.heap.size w W') => rstands_any p m c y n k W' hn hkc hm2 hc HP.out (HY.out.below hW') HB.out)
   have hfull := sEnd_full n k hkc
   rw [← HM0.out] at hfull
   have hne := piece_nums n a b k hkc HAB.out _ _ _ rfl rfl rfl
   have HSU := hid (pcs_flat_succ y n a b k)
   have HLL := hid (pcs_flat_len y n a b k)
   have HPC : Hid (pcs y n a b k = (List.range (phi n b k - plo a k)).map fun j => y (288 * k + 32 + (plo a k - 256 * k) + j)) := rfl
   have HNIL := hid (pcs_nil y n a b k)
   have HOKF := hid (fun h1 h2 => @parOK_false y m n a b k hkc h1 h2)
   have HFU := hid hfull
   obtain ⟨po, k0, cc, hv⟩ := hM.buf.form3
   have HM := hid hM
   subst hv
   clear hM hfull
   obtain ⟨q, hq⟩ : ∃ q, 256 * k = q := ⟨_, rfl⟩
   obtain ⟨l, hl⟩ : ∃ l, bend n k - 256 * k = l := ⟨_, rfl⟩
   obtain ⟨A, hA⟩ : ∃ A, (a : Int) - ((256 * k : Nat) : Int) = A := ⟨_, rfl⟩
   obtain ⟨Bv, hBv⟩ : ∃ Bv, (b : Int) - ((256 * k : Nat) : Int) = Bv := ⟨_, rfl⟩
   obtain ⟨Hv, hHv⟩ : ∃ Hv, (if ((bend n k - 256 * k : Nat) : Int) < Bv then ((bend n k - 256 * k : Nat) : Int) else Bv) = Hv := ⟨_, rfl⟩
   rw [hA, hBv, hHv] at hne
   rw [hq] at hA hBv
   rw [hl] at hHv
   have e0 : IntKind.i64.wrap ((k : Int) * 256) = (q : Int) := by rw [IntWalk.i64_in _ ⟨by omega, by omega⟩]; omega
   have e1 : IntKind.i64.wrap ((a : Int) - (q : Int)) = A := by have := HAB.out; have := HBN.out; rw [IntWalk.i64_in _ ⟨by omega, by omega⟩]; exact hA
   have e2 : IntKind.i64.wrap ((b : Int) - (q : Int)) = Bv := by have := HBN.out; rw [IntWalk.i64_in _ ⟨by omega, by omega⟩]; exact hBv
   have e3 := hne.1
   obtain ⟨la, hla⟩ : ∃ la, plo a k - 256 * k = la := ⟨_, rfl⟩
   rw [hla] at e3
   have e4 : IntKind.i64.wrap ((k : Int) + 1) = (k : Int) + 1 := IntWalk.i64_in _ ⟨by omega, by omega⟩
   have HNE := hid hne
   have HLA := hid hla
   have HQ := hid hq
   have HL := hid hl
   clear hne hla hq hl hA hBv
   go_upto_region 11 with (first
    | (go_at_call 56; refine (rblocks_any n (by omega) _).mono ?_; rintro e w5 ⟨rfl, hw⟩; have h3 := hw.symm; subst h3; rw [HC.out])
    | (go_at_call 92; refine (HST.out _ HM.out.below).mono ?_; rintro e w5 ⟨p2, k2, c2, rfl, hbw, hx2⟩; have HB5 := hid hbw; have HX2 := hid hx2; clear hbw hx2))
   obtain ⟨hk2, hstr, hkc2, hpn⟩ := HX2.out HFU.out.2
   have hk2' : k2 = l := by rw [hk2, HFU.out.1, HL.out]
   subst hk2'
   have HM5 : Hid (RPaM w w5 (.slice po k0 cc) ((List.range k).flatMap (pcs y n a b))) := ⟨HM.out.buf.below HB5.out, HM.out.below.trans (HB5.out.mono HM.out.below.size)⟩
   have HSTR := hid (hstr w5 HB5.out)
   have HPN := hid hpn
   clear hstr hpn hk2 HX2 HST
   obtain ⟨s, hs⟩ : ∃ s, snd y m n k = s := ⟨_, rfl⟩
   have HSS := hid hs
   rw [hs] at HOKF ⊢
   clear hs
   by_cases h5 : phi n b k ≤ plo a k
   ·have t5 : Hv ≤ (la : Int) := by rw [← HLA.out]; exact HNE.out.2.1.2 h5
    go_wp2
    go_roundw
    case rel => exact ⟨k + 1, by omega, by go_num, by rw [HSU.out, HNIL.out h5, List.append_nil]; exact HM5.out, fun j hj => by
     by_cases e : j < k
     ·exact HS.out j e
     ·rw [show j = k by omega]; exact .inl h5⟩
    case measure => simp [intOf]; omega
   ·have t5 : ¬ Hv ≤ (la : Int) := by rw [← HLA.out]; exact fun h => h5 (HNE.out.2.1.1 h)
    cases s with
    | false =>
     go_wp2
     go_ret2
     exact ⟨HM5.out.below, .inr ⟨HOKF.out (by omega) (by first | rfl | trivial), rfl⟩⟩
    | true =>
     obtain ⟨n1, n2, n3, n4, n5⟩ := HNE.out.2.2 h5
     obtain ⟨hb', hhb⟩ : ∃ hb', phi n b k - 256 * k = hb' := ⟨_, rfl⟩
     obtain ⟨u, hu⟩ : ∃ u, phi n b k - plo a k = u := ⟨_, rfl⟩
     rw [hhb] at n1 n2 n3 n4
     rw [HLA.out] at n2 n4
     rw [hu] at n4 n5
     rw [HL.out] at n3
     obtain ⟨p3, hcut, hp3, hp4⟩ := run_cut p2 k2 c2 la hb' n2 (by omega)
     rw [n4] at hcut
     have hs3 := HSTR.out.cut (h := hb') hkc2 n3 hp3
     rw [n4] at hs3
     have HPC2 := HPC.out
     rw [hu, HLA.out] at HPC2
     obtain ⟨v7, W7, r7, f7, g7, _⟩ := HM5.out.buf.app p3 u (c2 - la) (fun j => y (288 * k + 32 + (la + j))) hs3 (fun h => by have := HPN.out (hp4 h); omega) (by have := HLL.out; omega) HM5.out.below.size
     have f7' : BufL w.heap.size W7 v7 ((List.range k).flatMap (pcs y n a b) ++ pcs y n a b k) := by
      rw [HPC2]
      simpa [Nat.add_assoc] using f7
     have hb7 := HM5.out.below.grown g7 HM5.out.below.size (fun j e => (HM5.out.buf.ge j e).1)
     obtain ⟨po7, k7, cc7, rfl⟩ := f7.form3
     have HM7 : Hid (RPaM w W7 (.slice po7 k7 cc7) ((List.range k).flatMap (pcs y n a b) ++ pcs y n a b k)) := ⟨f7', hb7⟩
     have HR7 := hid r7
     have n2' : (la : Int) ≤ (hb' : Int) := by omega
     rw [n1] at hHv t5
     clear n1 n3 n4 n5 hp3 hp4 hs3 HPC2 r7 f7 g7 f7' hb7 hhb hu
     go_wp2_with (refine wpList_append_eq rfl _ _ 22 rfl _ _ rfl rfl _ _ HR7.out ?_)
     go_roundw
     case rel => exact ⟨k + 1, by omega, by go_num, by rw [HSU.out]; exact HM7.out, fun j hj => by
      by_cases e : j < k
      ·exact HS.out j e
      ·rw [show j = k by omega]; exact .inr HSS.out⟩
     case measure => simp [intOf]; omega
  ·have hlt' : ¬ (k : Int) < (C : Int) := by omega
   have hkC : k = C := by omega
   have HM := hid hM
   clear hM
   go_wp2_with (go_at_call 56; refine (rblocks_any n (by omega) _).mono ?_; rintro e w5 ⟨rfl, hw⟩; have h3 := hw.symm; subst h3; rw [HC.out])
   go_ret2
   refine ⟨HM.out.below, .inl ⟨parOK_upto (fun i hi => HS.out i (by rw [HC.out] at hi; omega)), _, rfl, ?_⟩⟩
   unfold parL; rw [HC.out, ← hkC]; exact HM.out.buf
end Go.Proofs.YtopibkoklagceaaGreat.H

/- Part and Read of the document's own answer, of any numbers. -/
namespace Go.Proofs.YtopibkoklagceaaGreat.H
open Go Go.RowKit

set_option maxRecDepth 100000 in
set_option maxHeartbeats 1000000 in
theorem rpart_range (p : Option Addr) (m c : Nat) (z a b : Int) (w : World) (h : ¬ rngB z a b) :
  Calls Tryz.prog 61 #[.slice p m c, .int .i64 z, .int .i64 a, .int .i64 b] w fun e w' => e = .returned (.tuple #[.slice none 0 0, .int .i64 5]) ∧ w' = w := by
 by_cases h1 : 0 ≤ z ∧ z ≤ 65536
 ·have hd : mayB z = true := decide_eq_true h1
  by_cases h2 : a < 0
  ·go_enter Tryz.func61, Tryz.ntmps61
   go_wp2_with (go_at_call 90; refine (rmay_any _ _).mono ?_; rintro e w5 ⟨rfl, hw⟩; have h3 := hw.symm; subst h3; rw [hd])
   go_ret2
   exact ⟨rfl, rfl⟩
  ·by_cases h3 : b < a
   ·go_enter Tryz.func61, Tryz.ntmps61
    go_wp2_with (go_at_call 90; refine (rmay_any _ _).mono ?_; rintro e w5 ⟨rfl, hw⟩; have h3 := hw.symm; subst h3; rw [hd])
    go_ret2
    exact ⟨rfl, rfl⟩
   ·have h4 : z < b := by unfold rngB at h; omega
    have h2' : ¬ a < 0 := h2
    go_enter Tryz.func61, Tryz.ntmps61
    go_wp2_with (go_at_call 90; refine (rmay_any _ _).mono ?_; rintro e w5 ⟨rfl, hw⟩; have h3 := hw.symm; subst h3; rw [hd])
    go_ret2
    exact ⟨rfl, rfl⟩
 ·have hd : mayB z = false := decide_eq_false h1
  clear h
  go_enter Tryz.func61, Tryz.ntmps61
  go_wp2_with (go_at_call 90; refine (rmay_any _ _).mono ?_; rintro e w5 ⟨rfl, hw⟩; have h3 := hw.symm; subst h3; rw [hd])
  go_ret2
  exact ⟨rfl, rfl⟩
set_option maxRecDepth 100000 in
set_option maxHeartbeats 1000000 in
theorem rpart_size (p : Option Addr) (m c : Nat) (z a b : Int) (w : World) (h : rngB z a b) (hm : ¬ (m : Int) = szV z) :
  Calls Tryz.prog 61 #[.slice p m c, .int .i64 z, .int .i64 a, .int .i64 b] w fun e w' => e = .returned (.tuple #[.slice none 0 0, .int .i64 4]) ∧ w' = w := by
 have hd : mayB z = true := decide_eq_true ⟨h.1, h.2.1⟩
 have h2 : ¬ a < 0 := by have := h.2.2; omega
 have h3 : ¬ b < a := by have := h.2.2; omega
 have h4 : ¬ z < b := by have := h.2.2; omega
 clear h
 go_enter Tryz.func61, Tryz.ntmps61
 go_wp2_with (first
  | (go_at_call 90; refine (rmay_any _ _).mono ?_; rintro e w5 ⟨rfl, hw⟩; have h3 := hw.symm; subst h3; rw [hd])
  | (go_at_call 91; refine (rsize_any _ _).mono ?_; rintro e w5 ⟨rfl, hw⟩; have h3 := hw.symm; subst h3))
 go_ret2
 exact ⟨rfl, rfl⟩
theorem rpart_any (p : Option Addr) (m c : Nat) (y : Nat → Nat) (z a b : Int) (w : World) (hc : m ≤ c) (hp : p = none → m = 0 ∧ c = 0) (hy : StrAt w p m y) (hb : ∀ i, i < m → y i < 256) :
  Calls Tryz.prog 61 #[.slice p m c, .int .i64 z, .int .i64 a, .int .i64 b] w (RPartU w (partL y m z a b) (partE y m z a b)) := by
 by_cases h1 : rngB z a b
 ·by_cases h2 : (m : Int) = szV z
  ·obtain ⟨h5, h6, h7, h8, h9⟩ := h1
   obtain ⟨n, rfl⟩ : ∃ n : Nat, z = n := ⟨z.toNat, by omega⟩
   obtain ⟨a, rfl⟩ : ∃ n : Nat, a = n := ⟨a.toNat, by omega⟩
   obtain ⟨b, rfl⟩ : ∃ n : Nat, b = n := ⟨b.toNat, by omega⟩
   have hr : rngB (n : Int) a b := ⟨h5, h6, h7, h8, h9⟩
   have hm : m = n + 32 * cnt n := by rw [szV_nat n (by omega)] at h2; omega
   refine (rpart_ok p m c n a b y w (by omega) hm (by omega) (by omega) hc hp hy hb).mono ?_
   rintro e w' ⟨hbel, ⟨hok, v, rfl, hrow⟩ | ⟨hok, rfl⟩⟩
   ·have hL : partL y m n a b = parL y n a b := by unfold partL; rw [if_pos ⟨hr, h2, hok⟩]; rfl
    have hE : partE y m n a b = 0 := by unfold partE; rw [if_pos hr, if_pos h2]; exact if_pos hok
    rw [hL, hE]
    exact ⟨_, rfl, hrow, hbel⟩
   ·have hok' : ¬ parOK y m ((n : Int)).toNat ((a : Int)).toNat ((b : Int)).toNat = true := by simp [hok]
    have hL : partL y m n a b = [] := by unfold partL; rw [if_neg (fun h => hok' h.2.2)]
    have hE : partE y m n a b = 14 := by unfold partE; rw [if_pos hr, if_pos h2, if_neg hok']
    rw [hL, hE]
    exact ⟨_, rfl, BufL.nil _ _, hbel⟩
  ·have hL : partL y m z a b = [] := by unfold partL; rw [if_neg (fun h => h2 h.2.1)]
   have hE : partE y m z a b = 4 := by unfold partE; rw [if_pos h1, if_neg h2]
   rw [hL, hE]
   refine (rpart_size p m c z a b w h1 h2).mono ?_
   rintro e w' ⟨rfl, rfl⟩
   exact ⟨_, rfl, BufL.nil _ _, Below.refl _ _⟩
 ·have hL : partL y m z a b = [] := by unfold partL; rw [if_neg (fun h => h1 h.1)]
  have hE : partE y m z a b = 5 := by unfold partE; rw [if_neg h1]
  rw [hL, hE]
  refine (rpart_range p m c z a b w h1).mono ?_
  rintro e w' ⟨rfl, rfl⟩
  exact ⟨_, rfl, BufL.nil _ _, Below.refl _ _⟩
theorem partL_max (y : Nat → Nat) (m : Nat) (z : Int) : partL y m z 0 (if z < 0 then 0 else z) = partL y m z 0 z ∧ partE y m z 0 (if z < 0 then 0 else z) = partE y m z 0 z := by
 by_cases h : z < 0
 ·have h1 : ¬ rngB z 0 0 := fun q => by have := q.1; omega
  have h2 : ¬ rngB z 0 z := fun q => by have := q.1; omega
  rw [if_pos h]
  unfold partL partE
  rw [if_neg (fun q => h1 q.1), if_neg (fun q => h2 q.1), if_neg h1, if_neg h2]
  exact ⟨rfl, rfl⟩
 ·rw [if_neg h]; exact ⟨rfl, rfl⟩
theorem rread_any (p : Option Addr) (m c : Nat) (y : Nat → Nat) (z : Int) (w : World) (hc : m ≤ c) (hp : p = none → m = 0 ∧ c = 0) (hy : StrAt w p m y) (hb : ∀ i, i < m → y i < 256) :
  Calls Tryz.prog 40 #[.slice p m c, .int .i64 z] w (RPartU w (partL y m z 0 z) (partE y m z 0 z)) := by
 have h0 := rpart_any p m c y z 0 (if z < 0 then 0 else z) w hc hp hy hb
 rw [(partL_max y m z).1, (partL_max y m z).2] at h0
 have HP := hid h0
 generalize partL y m z 0 z = L at *
 generalize partE y m z 0 z = E at *
 clear hp hy hb h0
 by_cases h : z < 0
 ·go_enter Tryz.func40, Tryz.ntmps40
  go_wp2_with (go_at_call 61; rw [if_pos h] at HP; refine HP.out.mono ?_; rintro e w5 ⟨v, rfl, hx⟩; have HX := hid hx; clear hx)
  go_ret2
  exact ⟨v, rfl, HX.out⟩
 ·go_enter Tryz.func40, Tryz.ntmps40
  go_wp2_with (go_at_call 61; rw [if_neg h] at HP; refine HP.out.mono ?_; rintro e w5 ⟨v, rfl, hx⟩; have HX := hid hx; clear hx)
  go_ret2
  exact ⟨v, rfl, HX.out⟩
end Go.Proofs.YtopibkoklagceaaGreat.H

/- What the loop of the document's Read of shard carries. -/
namespace Go.Proofs.YtopibkoklagceaaGreat
open Go Go.RowKit

theorem rbread_any (po : Option Addr) (c : Nat) (bs : List Nat) (n : Nat) (w : World) (hb : BL w po bs) (h8 : ∀ z ∈ bs, z < 256) (hc : bs.length ≤ c) (hp : po = none → c = 0) :
  Calls Tryz.prog 40 #[.slice po bs.length c, .int .i64 (n : Int)] w fun e w' => ∃ v, e = .returned (.tuple #[v, .int .i64 (rdE bs n)]) ∧ Buf w.heap.size w' v (rdB bs n) ∧ Below w.heap.size w w' :=
 H.rread_any po bs.length c (fun j => bs.getD j 0) n w hc (fun e => ⟨by have := hp e; omega, hp e⟩) hb.str (fun i hi => get256 h8 i hi)
def rowV (N i n k : Nat) (l : List Cp) (V : Nat → Value) : Array Value := rowF N fun j => if j < i ∧ hvB n k l j = true then V j else .slice none 0 0
/-- Shards and have, once the first i drives are gone through. -/
structure RJ (w0 : World) (gs gh N n k : Nat) (l : List Cp) (i : Nat) (W : World) : Prop where
 be : Below w0.heap.size w0 W
 ex : ∃ V : Nat → Value, CAt W gs (rowV N i n k l V) 22 ∧ ∀ j, j < i → hvB n k l j = true → Buf w0.heap.size W (V j) (rdS n l j)
 hv : CAt W gh (rowH N i n k l) 4
theorem RJ.start {w0 W : World} {gs gh N n k : Nat} {l : List Cp} (hb : Below w0.heap.size w0 W) (hs : CAt W gs (madeCells #[.slice none 0 0] N) 22) (hh : CAt W gh (madeCells #[.bool false] N) 4) : RJ w0 gs gh N n k l 0 W where
 be := hb
 ex := ⟨fun _ => .slice none 0 0, by
  rw [rowF_made] at hs
  have e : rowV N 0 n k l (fun _ => .slice none 0 0) = rowF N (fun _ => .slice none 0 0) := by unfold rowV; apply rowF_congr; intro j _; simp
  rw [e]; exact hs, fun j hj => absurd hj (by omega)⟩
 hv := by
  rw [rowF_made] at hh
  have e : rowH N 0 n k l = rowF N (fun _ => .bool false) := by unfold rowH; apply rowF_congr; intro j _; simp
  rw [e]; exact hh
theorem RJ.below {w0 W W' : World} {gs gh N n k i : Nat} {l : List Cp} (h : RJ w0 gs gh N n k l i W) (hb : Below W.heap.size W W') : RJ w0 gs gh N n k l i W' where
 be := below_on h.be hb
 ex := by
  obtain ⟨V, h1, h2⟩ := h.ex
  exact ⟨V, h1.below hb, fun j hj hv => (h2 j hj hv).below hb⟩
 hv := h.hv.below hb
theorem RJ.skip {w0 W : World} {gs gh N n k i : Nat} {l : List Cp} (h : RJ w0 gs gh N n k l i W) {c : Cp} (hc : l[i]? = some c) (hs : sdB n c = false) : RJ w0 gs gh N n k l (i + 1) W := by
 have hv : hvB n k l i = false := by unfold hvB; rw [hc]; simp [hs]
 obtain ⟨V, h1, h2⟩ := h.ex
 refine ⟨h.be, ⟨V, ?_, fun j hj hj2 => h2 j ?_ hj2⟩, ?_⟩
 ·have e : rowV N (i + 1) n k l V = rowV N i n k l V := by
    unfold rowV
    apply rowF_congr
    intro j _
    by_cases q : j = i
    ·subst q; simp [hv]
    ·have : (j < i + 1) = (j < i) := propext ⟨fun _ => by omega, fun _ => by omega⟩
     simp only [this]
  rw [e]; exact h1
 ·rcases Nat.lt_or_ge j i with q | q
  ·exact q
  ·have : j = i := by omega
   subst this; rw [hv] at hj2; cases hj2
 ·have e : rowH N (i + 1) n k l = rowH N i n k l := by
    unfold rowH
    apply rowF_congr
    intro j _
    by_cases q : j = i
    ·subst q; simp [hv]
    ·have : (decide (j < i + 1)) = (decide (j < i)) := by simp; omega
     rw [this]
  rw [e]; exact h.hv
theorem RJ.put {w0 W : World} {gs gh N n k i : Nat} {l : List Cp} (h : RJ w0 gs gh N n k l i W) {c : Cp} (hc : l[i]? = some c) (hs : sdB n c = true) (hlt : csN n l i < k) {v : Value} (hp : Buf w0.heap.size W v (rdB c.b n)) (hgs : w0.heap.size ≤ gs) (hgh : w0.heap.size ≤ gh) :
  RJ w0 gs gh N n k l (i + 1) ((W.setCell ⟨gs, i, none⟩ v).setCell ⟨gh, i, none⟩ (.bool true)) := by
 have hv : hvB n k l i = true := by unfold hvB; rw [hc]; simp [hs, hlt]
 obtain ⟨V, h1, h2⟩ := h.ex
 have n1 : gs ≠ gh := cat_ne h1 h.hv (by decide)
 have keep : ∀ {u : Value} {L : List Nat}, Buf w0.heap.size W u L → Buf w0.heap.size ((W.setCell ⟨gs, i, none⟩ v).setCell ⟨gh, i, none⟩ (.bool true)) u L := fun {u L} hu => ownsRow_keep hu fun b hb => by
  have q1 : b ≠ gs := by
   rintro rfl
   rcases hu.2 with ⟨rfl, _⟩ | ⟨g2, cap, cur, rfl, _, hg, _⟩
   ·cases hb
   ·cases hb; unfold CAt at h1; rw [hg] at h1; cases h1
  have q2 : b ≠ gh := by
   rintro rfl
   have h3 := h.hv
   rcases hu.2 with ⟨rfl, _⟩ | ⟨g2, cap, cur, rfl, _, hg, _⟩
   ·cases hb
   ·cases hb; unfold CAt at h3; rw [hg] at h3; cases h3
  exact (heap_setCell_ne _ _ _ _ q2).trans (heap_setCell_ne _ _ _ _ q1)
 refine ⟨?_, ⟨fun j => if j = i then v else V j, ?_, fun j hj hj2 => ?_⟩, ?_⟩
 ·exact (h.be.setCell hgs _).setCell hgh _
 ·have e : rowV N (i + 1) n k l (fun j => if j = i then v else V j) = (rowV N i n k l V).setIfInBounds i v := by
    unfold rowV
    rw [rowF_set]
    apply rowF_congr
    intro j _
    by_cases q : j = i
    ·subst q; simp [hv]
    ·have : (j < i + 1) = (j < i) := propext ⟨fun _ => by omega, fun _ => by omega⟩
     simp only [this, if_neg q]
  rw [e]
  exact (h1.set i v).keep (heap_setCell_ne _ _ _ _ n1)
 ·show Buf _ _ (if j = i then v else V j) _
  by_cases q : j = i
  ·subst q
   rw [if_pos rfl]
   have : rdS n l j = rdB c.b n := by unfold rdS; rw [hc]
   rw [this]
   exact keep hp
  ·rw [if_neg q]
   exact keep (h2 j (by omega) hj2)
 ·have e : rowH N (i + 1) n k l = (rowH N i n k l).setIfInBounds i (.bool true) := by
    unfold rowH
    rw [rowF_set]
    apply rowF_congr
    intro j _
    by_cases q : j = i
    ·subst q; simp [hv]
    ·have : (decide (j < i + 1)) = (decide (j < i)) := by simp; omega
     rw [this, if_neg q]
  rw [e]
  exact CAt.set (h.hv.keep (heap_setCell_ne _ _ _ _ n1.symm)) i (.bool true)
/-- As stripe's contracts ask for it, once all are gone through or k are sound. -/
theorem RJ.mat {w0 W : World} {gs gh N n k i : Nat} {l : List Cp} (h : RJ w0 gs gh N n k l i W) (hi : i ≤ N) (hq : i = N ∨ k ≤ csN n l i) (h8 : ∀ c ∈ l, ∀ z ∈ c.b, z < 256) :
  (∃ A C, U.MatAt W (some ⟨gs, 0, none⟩) N A (fun j => if hvB n k l j = true then n else 0) C (fun i => kx (rdS n l i))) ∧ U.BoolsAt W (some ⟨gh, 0, none⟩) N (hvB n k l) := by
 have hp : ∀ j, j < N → hvB n k l j = true → j < i := fun j hj hv => by
  rcases hq with rfl | hq
  ·exact hj
  ·rcases Nat.lt_or_ge j i with q | q
   ·exact q
   ·rw [hv_past hq q] at hv; cases hv
 obtain ⟨V, h1, h2⟩ := h.ex
 have fm : ∀ j, j < N → hvB n k l j = true → ∃ po c, V j = .slice po n c ∧ BL W po (rdS n l j) ∧ n ≤ c ∧ (rdS n l j).length = n ∧ ∀ z ∈ rdS n l j, z < 256 := fun j hj hv => by
  obtain ⟨c, hc, hs⟩ : ∃ c, l[j]? = some c ∧ sdB n c = true := by
   have hv2 := hv
   unfold hvB at hv2
   cases hq : l[j]? with
   | none => rw [hq] at hv2; simp at hv2
   | some c => rw [hq] at hv2; simp at hv2; exact ⟨c, rfl, hv2.1⟩
  have hr : rdE c.b n = 0 := by unfold sdB at hs; simp at hs; exact hs.2
  have e : rdS n l j = rdB c.b n := by unfold rdS; rw [hc]
  have hb := h2 j (hp j hj hv) hv
  obtain ⟨po, cc, ev⟩ := Buf.form hb
  rw [e, rdB_len hr] at ev
  rw [ev] at hb
  exact ⟨po, cc, ev, hb.bl, hb.cap.2, by rw [e]; exact rdB_len hr, by rw [e]; exact rdB_lt (h8 c (List.mem_of_getElem? hc)) hr⟩
 refine ⟨⟨fun j => match (if hvB n k l j = true then V j else .slice none 0 0) with | .slice po _ _ => po | _ => none, fun j => match (if hvB n k l j = true then V j else .slice none 0 0) with | .slice _ _ c => c | _ => 0, ?_, fun j hj => ?_, fun j hj => ?_⟩, ?_⟩
 ·right
  refine ⟨gs, 0, rfl, fun j hj => ?_⟩
  rw [Nat.zero_add, h1.cell, rowV, rowF_get hj]
  cases hv : hvB n k l j
  ·simp [hv]
  ·obtain ⟨po, c, ev, _⟩ := fm j hj hv
   simp [hp j hj hv, ev, hv]
 ·cases hv : hvB n k l j
  ·left; simp
  ·obtain ⟨po, c, ev, hbl, _, hl, h8'⟩ := fm j hj hv
   simp only [if_true, ev]
   have := bl_of_str hbl h8'
   rw [hl] at this
   exact this
 ·cases hv : hvB n k l j
  ·simp
  ·obtain ⟨po, c, ev, _, hle, _, _⟩ := fm j hj hv
   simp only [if_true, ev]
   exact hle
 ·right
  refine ⟨gh, 0, rfl, fun j hj => ?_⟩
  rw [Nat.zero_add, h.hv.cell, rowH, rowF_get hj]
  cases hv : hvB n k l j
  ·simp
  ·simp [hp j hj hv]
end Go.Proofs.YtopibkoklagceaaGreat
