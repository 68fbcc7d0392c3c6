/- Texts laid into one, cut to what is needed: the remark ahead of each part says what is proved there. -/
import Derived.Test.YtdohmokhfajjpaaGreatDoorPbc
import Derived.Test.YtdohmokhfajjpaaGreatDoorPaq
/- Contracts of whole and Read of package shard: a version's bytes in new memory, or the error's number; what was there is as it was. -/
namespace Go.Proofs.YtdohmokhfajjpaaGreatDoor
open Go Go.RowKit

/-- Bytes in new memory, and an error's number. -/
def WhU (w : World) (E : Int) (B : List Nat) (e : Ending) (w' : World) : Prop := ∃ po, e = .returned (.tuple #[.slice po B.length B.length, .int .i64 E]) ∧ Buf w.heap.size w' (.slice po B.length B.length) B ∧ Below w.heap.size w w'
theorem WhU.bad {w w' : World} (E : Int) (hb : Below w.heap.size w w') : WhU w E [] (.returned (.tuple #[.slice none 0 0, .int .i64 E])) w' := ⟨none, rfl, Buf.nil _ _, hb⟩
theorem run_sumAt {w : World} {g : Nat} {r : Rv} (hr : r.ok) (h : RBox w g r) : (Instr.loadAt 41 (.pointer (some ⟨g, 8, none⟩))).run Tryz.prog w = .ok (.agg (sumC r.sum)) w := by
 have := run_loadVar_at w g 8 41 (sumC r.sum) _ h.cs Tryz.underlying41 rfl (by rw [sumC_size, hr.sl]; kernel_rfl)
 simp only [Instr.loadAt, Instr.sureAddr, Sem.run_bind, Sem.run_pure, Result.andThen_ok, this]
theorem exec_bin {a : Act} {o : Oper} {op : BinOp} {t t2 : TypeId} {x y : Operand} {u v r : Value} {W : World} (ho : o.op = .binOp op t x y t2) (hx : a.eval x = u) (hy : a.eval y = v) (hg : (eqGuard op t x y u v).run Tryz.prog W = .ok () W) (h : (binOp op t u v).run Tryz.prog W = .ok r W) : (execOp a.eval o).run Tryz.prog W = .ok (.value r) W := by
 unfold execOp
 simp only [ho, hx, hy, Sem.run_bind, hg, h, Result.andThen_ok, Sem.run_pure]
set_option maxRecDepth 100000 in
set_option maxHeartbeats 1000000 in
theorem whole_few (r : Rv) (hr : r.ok) (k m s : Nat) (v : Value) (l : List Cv) (w : World) (hl : CL w v l) (hq : csN (U.lgt s k) (cps l) (cps l).length < k) (hj : ∀ w', Below w.heap.size w w' → Calls Tryz.prog 34 #[v, .agg r.cs] w' (JnU w' k m s (cps l))) :
  Calls Tryz.prog 21 #[v, .agg r.cs] w (WhU w 10 []) := by
 obtain ⟨po, c, rfl, _⟩ := hl
 have HR := hid hr
 have HJ := hid hj
 have HQ := hid hq
 clear hr hj hq
 go_enter Tryz.func21, Tryz.ntmps21
 go_wp2_with (first
  | ((with_reducible refine wpList_boxR rfl _ rfl r.cs ?_ ?_); exact rfl; intro w1 g1 hc1 hb1 hg1; have HA := hid (RBox.mk' HR.out hc1); have HB := hid hb1; clear hc1 hb1)
  | ((with_reducible refine wpList_load_at 44 _ rfl ?_ g1 0 ?_ r.cs (.struct (Tryz.prog.fieldsOf 44)) ?_ underRec rfl ?_ ?_); exact rfl; exact rfl; exact HA.out.whole; (rw [HR.out.size]; exact sizeR))
  | (go_at_call 34; refine (HJ.out _ HB.out).mono ?_; rintro e w4 ⟨hb4, hans⟩; obtain rfl := (hans.resolve_right (fun h => absurd h.1 (Nat.not_le.2 HQ.out))).2; have HB4 := hid (below_on HB.out hb4); clear hb4 hans))
 go_ret2
 exact WhU.bad 10 HB4.out
set_option maxRecDepth 100000 in
set_option maxHeartbeats 1000000 in
theorem whole_enough (r : Rv) (hr : r.ok) (k m s : Nat) (hs : s ≤ 65536) (v : Value) (l : List Cv) (w : World) (hl : CL w v l) (hq : k ≤ csN (U.lgt s k) (cps l) (cps l).length) (hj : ∀ w', Below w.heap.size w w' → Calls Tryz.prog 34 #[v, .agg r.cs] w' (JnU w' k m s (cps l))) :
  Calls Tryz.prog 21 #[v, .agg r.cs] w (WhU w (if dig (jnB k m s (cps l)) = r.sum then 0 else 14) (if dig (jnB k m s (cps l)) = r.sum then jnB k m s (cps l) else [])) := by
 obtain ⟨po, c, rfl, _⟩ := hl
 have HR := hid hr
 have HJ := hid hj
 have HQ := hid hq
 have HS := hid hs
 obtain ⟨B, hB⟩ : ∃ B, jnB k m s (cps l) = B := ⟨_, rfl⟩
 have HBL := hid (show B.length = s by rw [← hB]; exact jnB_len _ _ _ _)
 have HB8 := hid (show ∀ z ∈ B, z < 256 by rw [← hB]; exact jnB_lt _ _ _ _)
 unfold JnU at HJ
 rw [hB] at HJ ⊢
 have hneq := neqSum11 (dig_len B) hr.sl
 obtain ⟨b, hb⟩ : ∃ b : Bool, decide (dig B = r.sum) = b := ⟨_, rfl⟩
 rw [hb] at hneq
 have hbb : b = true ↔ dig B = r.sum := by rw [← hb]; simp
 obtain ⟨E, hE⟩ : ∃ E : Int, (if dig B = r.sum then 0 else 14 : Int) = E := ⟨_, rfl⟩
 obtain ⟨L, hL⟩ : ∃ L : List Nat, (if dig B = r.sum then B else []) = L := ⟨_, rfl⟩
 rw [hE, hL]
 have HDG := hid (show (sumC (dig B)) = ((dig B).map u8).toArray from rfl)
 clear hr hj hq hs hB hb
 go_enter Tryz.func21, Tryz.ntmps21
 go_wp2_with (first
  | ((with_reducible refine wpList_boxR rfl _ rfl r.cs ?_ ?_); exact rfl; intro w1 g1 hc1 hb1 hg1; have HA := hid (RBox.mk' HR.out hc1); have HB := hid hb1; clear hc1 hb1)
  | ((with_reducible refine wpList_load_at 44 _ rfl ?_ g1 0 ?_ r.cs (.struct (Tryz.prog.fieldsOf 44)) ?_ underRec rfl ?_ ?_); exact rfl; exact rfl; exact HA.out.whole; (rw [HR.out.size]; exact sizeR))
  | (go_at_call 34; refine (HJ.out _ HB.out).mono ?_; rintro e w4 ⟨hb4, hans⟩; obtain ⟨g, rfl, ho⟩ := (hans.resolve_left (fun h => absurd h.1 (Nat.not_lt.2 HQ.out))).2; have HB4 := hid (below_on HB.out hb4); have HA4 := hid (HA.out.below HR.out hb4); have HO := hid (own_base ho HB.out.size); clear hb4 hans ho))
 have HSM := hid (fun (W : World) (h : Below w4.heap.size w4 W) => run_sumAt HR.out (HA4.out.below HR.out h))
 have HDS := hid (fun (W : World) (h : Below w4.heap.size w4 W) => dsum_any (some ⟨g, 0, none⟩) s B W (by rw [HBL.out]; have := HS.out; omega) (by rw [HBL.out]; exact Nat.le_refl _) ((Buf.bl (show Buf w.heap.size w4 (.slice (some ⟨g, 0, none⟩) s s) B from by unfold Buf; rw [HBL.out]; exact HO.out)).below h) HB8.out)
 rw [HBL.out] at HDS
 refine wp_region_held_drew (S := fun W => (Instr.loadAt 41 (.pointer (some ⟨g1, 8, none⟩))).run Tryz.prog W = .ok (.agg (sumC r.sum)) W) (by kernel_rfl) (HSM.out _ (below_drew w4)) ?_
 have HBD := hid (below_drew w4)
 generalize w4.drew = wd at HBD ⊢
 intro hHeld
 refine wpAnyH_take (i := 0) (oi := ⟨some 17, .move (.tmp 6), _, _, _, none⟩) (v := .slice (some ⟨g, 0, none⟩) s s) rfl (by kernel_rfl) (by kernel_rfl) (by kernel_rfl) (fun _ _ _ h => h) (Or.inl ⟨by kernel_rfl, by intro W hW; go_simp⟩) hHeld ?_
 refine wpAnyH_take (i := 2) (oi := ⟨some 19, .fieldAddr 44 (.tmp 3) 8, _, _, _, none⟩) (v := .pointer (some ⟨g1, 8, none⟩)) rfl (by kernel_rfl) (by kernel_rfl) (by kernel_rfl) (fun _ _ _ h => h) (Or.inl ⟨by kernel_rfl, by intro W hW; go_simp⟩) hHeld ?_
 refine wpAnyH_take (i := 3) (oi := ⟨some 20, .load 41 (.tmp 19), _, _, _, none⟩) (v := .agg (sumC r.sum)) rfl (by kernel_rfl) (by kernel_rfl) (by kernel_rfl) (fun _ _ _ h => h) (Or.inl ⟨by kernel_rfl, fun W hW => exec_load rfl (by kernel_rfl) hW⟩) hHeld ?_
 refine wpAnyH_ready (rs := [1]) (by kernel_rfl) (by simp) ?_
 refine AllReadyH.cons (o := ⟨some 18, .call { callee := .value (.func 22), args := #[.tmp 17], argTypes := #[22] }, _, _, _, none⟩) rfl (fun K hK => ?_) AllReadyH.nil
 refine step_call rfl 22 #[.slice (some ⟨g, 0, none⟩) s s] (by kernel_rfl) ((HDS.out wd HBD.out).mono ?_)
 rintro e w6 ⟨rfl, hb6⟩
 refine ⟨_, rfl, hK.out _ _ (HSM.out _ (below_on HBD.out hb6)) (fun hHeld => ?_)⟩
 clear hK K
 have HB6 := hid (below_on HBD.out hb6)
 clear hb6
 rw [← HDG.out]
 refine wpAnyH_take (i := 4) (oi := ⟨some 21, .binOp .neq 41 (.tmp 18) (.tmp 20) 41, _, _, _, none⟩) (v := .bool (!b)) rfl (by kernel_rfl) (by kernel_rfl) (by kernel_rfl) (fun _ _ _ h => h) (Or.inl ⟨by kernel_rfl, fun W _ => exec_bin rfl (by kernel_rfl) (by kernel_rfl) (by simp [eqGuard]) (hneq W)⟩) hHeld ?_
 refine wpAnyH_done (by kernel_rfl) ?_ _
 cases b
 ·have e1 : E = 14 := by rw [← hE, if_neg (fun h => by have := hbb.2 h; cases this)]
  have e2 : L = [] := by rw [← hL, if_neg (fun h => by have := hbb.2 h; cases this)]
  subst e1 e2
  clear hbb hE hL hneq
  go_wp2
  go_ret2
  exact WhU.bad 14 (below_on HB4.out HB6.out)
 ·have hq := hbb.1 rfl
  have e1 : E = 0 := by rw [← hE, if_pos hq]
  have e2 : L = B := by rw [← hL, if_pos hq]
  subst e1 e2
  clear hbb hE hL hneq hq
  go_wp2
  go_ret2
  exact ⟨some ⟨g, 0, none⟩, by rw [HBL.out]; rfl, by unfold Buf; rw [HBL.out]; exact ownsRow_keep HO.out (fun b hb => HB6.out.block b (own_ge HO.out b hb).2), below_on HB4.out HB6.out⟩
theorem whole_any (r : Rv) (hr : r.ok) (k m s : Nat) (hk : r.k = k) (hm : r.m = m) (hs : r.size = s) (h0 : 1 ≤ k) (h1 : 1 ≤ m) (h : k + m ≤ 16) (hs' : s ≤ 65536) (v : Value) (l : List Cv) (w : World) (hl : CL w v l) (hn : l.length = k + m) :
  Calls Tryz.prog 21 #[v, .agg r.cs] w (WhU w (whE k m s r.sum (cps l)) (whB k m s r.sum (cps l))) := by
 have hj : ∀ w', Below w.heap.size w w' → Calls Tryz.prog 34 #[v, .agg r.cs] w' (JnU w' k m s (cps l)) := fun w' hb => join_any r hr k m s hk hm hs h0 h1 h hs' v l w' (hl.below hb) hn
 rcases Nat.lt_or_ge (csN (U.lgt s k) (cps l) (cps l).length) k with hq | hq
 ·have e : whE k m s r.sum (cps l) = 10 := by unfold whE; rw [if_pos hq]
  unfold whB
  rw [e, if_neg (by decide)]
  exact whole_few r hr k m s v l w hl hq hj
 ·have e : whE k m s r.sum (cps l) = if dig (jnB k m s (cps l)) = r.sum then 0 else 14 := by unfold whE; rw [if_neg (by omega)]
  have e2 : whB k m s r.sum (cps l) = if dig (jnB k m s (cps l)) = r.sum then jnB k m s (cps l) else [] := by
   unfold whB; rw [e]
   by_cases q : dig (jnB k m s (cps l)) = r.sum
   ·rw [if_pos q, if_pos q, if_pos rfl]
   ·rw [if_neg q, if_neg q, if_neg (by decide)]
  rw [e, e2]
  exact whole_enough r hr k m s hs' v l w hl hq hj
/-- What Read tells. -/
def rdrE (r : Rv) (ps : Ps) (l : List Cp) : Int := if mayB r ps l.length = true then whE r.k.toNat r.m.toNat r.size.toNat r.sum l else 2
def rdrB (r : Rv) (ps : Ps) (l : List Cp) : List Nat := if mayB r ps l.length = true then whB r.k.toNat r.m.toNat r.size.toNat r.sum l else []
theorem mayB_parts {r : Rv} {ps : Ps} {n : Nat} (h : mayB r ps n = true) : ∃ k m s : Nat, r.k = k ∧ r.m = m ∧ r.size = s ∧ 1 ≤ k ∧ 1 ≤ m ∧ k + m ≤ 16 ∧ s ≤ 65536 ∧ n = k + m := by
 unfold mayB at h
 simp at h
 have h2 := okRc_km h.1.1 h.1.2
 exact ⟨r.k.toNat, r.m.toNat, r.size.toNat, by omega, by omega, by omega, by omega, by omega, by omega, by omega, by omega⟩
set_option maxRecDepth 100000 in
set_option maxHeartbeats 1000000 in
theorem sread_any (r : Rv) (hr : r.ok) (ps : Ps) (v : Value) (l : List Cv) (w : World) (hp : PL w r.pv ps) (hl : CL w v l) : Calls Tryz.prog 8 #[v, .agg r.cs] w (WhU w (rdrE r ps (cps l)) (rdrB r ps (cps l))) := by
 have HCH := hid (fun (w' : World) (hb : Below w.heap.size w w') (po : Option Addr) (c : Nat) => chk_any r hr ps po l.length c w' (hp.below hb))
 have HL := hid hl
 obtain ⟨po, c, rfl, _⟩ := hl
 have HR := hid hr
 unfold rdrE rdrB
 rw [cps_len]
 unfold mayE at HCH
 cases hq : mayB r ps l.length
 ·rw [hq] at HCH
  simp only [if_neg (show ¬ (false = true) by decide)] at HCH ⊢
  clear hr hp hq
  go_enter Tryz.func8, Tryz.ntmps8
  go_wp2_with (first
   | ((with_reducible refine wpList_boxR rfl _ rfl r.cs ?_ ?_); exact rfl; intro w1 g1 hc1 hb1 hg1; have HA := hid (RBox.mk' HR.out hc1); have HB := hid hb1; clear hc1 hb1)
   | ((with_reducible refine wpList_load_at 44 _ rfl ?_ g1 0 ?_ r.cs (.struct (Tryz.prog.fieldsOf 44)) ?_ underRec rfl ?_ ?_); exact rfl; exact rfl; exact HA.out.whole; (rw [HR.out.size]; exact sizeR))
   | (go_at_call 20; refine (HCH.out _ HB.out _ _).mono ?_; rintro e w4 ⟨rfl, hb4⟩; have HB4 := hid (below_on HB.out hb4); clear hb4))
  go_ret2
  exact WhU.bad 2 HB4.out
 ·rw [hq] at HCH
  simp only [if_true] at HCH ⊢
  obtain ⟨k, m, s, hk, hm, hs, h0, h1, h, hs', hn⟩ := mayB_parts hq
  have HWH := hid (fun (w' : World) (hb : Below w.heap.size w w') => whole_any r hr k m s hk hm hs h0 h1 h hs' (.slice po l.length c) l w' (HL.out.below hb) hn)
  rw [hk, hm, hs]
  simp only [Int.toNat_natCast]
  generalize whE k m s r.sum (cps l) = E at HWH ⊢
  generalize whB k m s r.sum (cps l) = L at HWH ⊢
  clear hr hp hq hn hk hm hs
  go_enter Tryz.func8, Tryz.ntmps8
  go_wp2_with (first
   | ((with_reducible refine wpList_boxR rfl _ rfl r.cs ?_ ?_); exact rfl; intro w1 g1 hc1 hb1 hg1; have HA := hid (RBox.mk' HR.out hc1); have HB := hid hb1; clear hc1 hb1)
   | ((with_reducible refine wpList_load_at 44 _ rfl ?_ g1 0 ?_ r.cs (.struct (Tryz.prog.fieldsOf 44)) ?_ underRec rfl ?_ ?_); exact rfl; exact rfl; exact HA.out.whole; (rw [HR.out.size]; exact sizeR))
   | (go_at_call 20; refine (HCH.out _ HB.out _ _).mono ?_; rintro e w4 ⟨rfl, hb4⟩; replace HA := hid (HA.out.below HR.out hb4); have HB4 := hid (below_on HB.out hb4); clear hb4)
   | (go_at_call 21; refine (HWH.out _ HB4.out).mono ?_; rintro e w5 ⟨pq, rfl, ho, hb5⟩; have HO := hid ho; have HB5 := hid hb5; clear ho hb5))
  go_ret2
  exact ⟨pq, rfl, own_base HO.out HB4.out.size, below_on HB4.out HB5.out⟩
end Go.Proofs.YtdohmokhfajjpaaGreatDoor

/- Contract of Lay of package shard: the shard files of bytes in new memory, or the error's number; what was there is as it was. -/
namespace Go.Proofs.YtdohmokhfajjpaaGreatDoor
open Go Go.RowKit

/-- A row just as long as its bytes. -/
def ExR (w : World) (v : Value) (L : List Nat) : Prop := ∃ g, v = .slice (some ⟨g, 0, none⟩) L.length L.length ∧ CAt w g (L.map u8).toArray 5
theorem ExR.keep {w w' : World} {v : Value} {L : List Nat} (h : ExR w v L) (hk : ∀ g cs, CAt w g cs 5 → w'.heap[g]? = w.heap[g]?) : ExR w' v L := by
 obtain ⟨g, h1, h2⟩ := h
 exact ⟨g, h1, h2.keep (hk g _ h2)⟩
theorem ExR.below {w w' : World} {v : Value} {L : List Nat} (h : ExR w v L) (hb : Below w.heap.size w w') : ExR w' v L := h.keep fun g _ hc => hb.block g hc.lt
theorem blay_any (po : Option Addr) (c : Nat) (bs : List Nat) (w : World) (hb : BL w po bs) (h8 : ∀ z ∈ bs, z < 256) (hl : bs.length ≤ 65536) (hc : bs.length ≤ c) (hp : po = none → c = 0) :
  Calls Tryz.prog 18 #[.slice po bs.length c] w fun e w' => ∃ v, e = .returned (.tuple #[v, .int .i64 0]) ∧ (Buf w.heap.size w' v (flL bs) ∧ ExR w' v (flL bs)) ∧ Below w.heap.size w w' := by
 refine (H.lay_g po bs.length c (fun j => bs.getD j 0) w hl hc (fun e => ⟨by have := hp e; omega, hp e⟩) hb.str (fun i hi => get256 h8 i hi)).mono ?_
 rintro e w' ⟨g, h1, _, h4, h2, h3⟩
 exact ⟨_, h1, ⟨own_base h2 (Nat.le_succ _), g, rfl, h4⟩, h3⟩
/-- Lists of bytes in memory of the call's own. -/
def LL (B : Nat) (w : World) (v : Value) (Ls : List (List Nat)) : Prop := ∃ (g : Nat) (vs : Array Value), v = .slice (some ⟨g, 0, none⟩) Ls.length Ls.length ∧ B ≤ g ∧ CAt w g vs 22 ∧ vs.size = Ls.length ∧ ∀ (i : Nat) (u : Value) (L : List Nat), vs[i]? = some u → Ls[i]? = some L → Buf B w u L ∧ ExR w u L
theorem LL.below {B : Nat} {w w' : World} {v : Value} {Ls : List (List Nat)} (h : LL B w v Ls) (hb : Below w.heap.size w w') : LL B w' v Ls := by
 obtain ⟨g, vs, h1, h2, h3, h4, h5⟩ := h
 exact ⟨g, vs, h1, h2, h3.below hb, h4, fun i u L hu hL => ⟨(h5 i u L hu hL).1.below hb, (h5 i u L hu hL).2.below hb⟩⟩
theorem LL.base {B B' : Nat} {w : World} {v : Value} {Ls : List (List Nat)} (h : LL B w v Ls) (hb : B' ≤ B) : LL B' w v Ls := by
 obtain ⟨g, vs, h1, h2, h3, h4, h5⟩ := h
 exact ⟨g, vs, h1, by omega, h3, h4, fun i u L hu hL => ⟨own_base (h5 i u L hu hL).1 hb, (h5 i u L hu hL).2⟩⟩
theorem ownmat_bl {B : Nat} {w : World} {g c n m : Nat} {G Q : Nat → Nat} {X : Nat → Nat → U.K} (h : U.OwnMat B w g c n m G Q X) (i : Nat) (hi : i < n) : BL w (some ⟨G i, 0, none⟩) ((List.range m).map fun j => (X i j).val) := by
 have h1 := h.row i hi
 have e : U.vals m (fun j => U.kv (X i j)) = ((List.range m).map fun j => (X i j).val).map u8 := by
  unfold U.vals
  rw [List.map_map]; rfl
 rw [e] at h1
 have h2 : Buf B w (.slice (some ⟨G i, 0, none⟩) m (Q i)) ((List.range m).map fun j => (X i j).val) := by
  unfold Buf; simpa using h1
 exact h2.bl
theorem ownmat_cell {B : Nat} {w : World} {g c n m : Nat} {G Q : Nat → Nat} {X : Nat → Nat → U.K} (h : U.OwnMat B w g c n m G Q X) (i : Nat) (hi : i < n) : w.cell? ⟨g, i, none⟩ = some (.slice (some ⟨G i, 0, none⟩) m (Q i)) := by
 have h1 := h.toMat.top
 rcases h1 with h1 | ⟨b, o, h1, h2⟩
 ·omega
 ·cases h1
  have := h2 i hi
  simpa using this
theorem bl_of_str {w : World} {po : Option Addr} {b : List Nat} (h : BL w po b) (h8 : ∀ z ∈ b, z < 256) : U.StrAt w po b.length fun j => (kx b j).val := by
 rcases h with h | ⟨g, o, h1, h2⟩
 ·left; rw [h]; rfl
 ·right
  refine ⟨g, o, h1, fun i hi => ?_⟩
  rw [h2 i hi]
  show some (u8 _) = some (.int .u8 (((kx b i).val : Nat) : Int))
  rw [kx_val h8]; rfl
/-- What Lay's loop carries. -/
structure LI (w w1 : World) (gf N k : Nat) (b : List Nat) (i : Nat) (W : World) : Prop where
 ex : ∃ F : Nat → Value, CAt W gf (rowF N fun j => if j < i then F j else .slice none 0 0) 22 ∧ ∀ j, j < i → Buf w.heap.size W (F j) (flL (shd k b j)) ∧ ExR W (F j) (flL (shd k b j))
 be : Below w1.heap.size w1 W
theorem LI.next {w w1 : World} {gf N k i : Nat} {b : List Nat} {W W2 : World} {v : Value} (h : LI w w1 gf N k b i W) (hb : Below W.heap.size W W2) (hw : Below w.heap.size w w1) (hv : Buf W.heap.size W2 v (flL (shd k b i)) ∧ ExR W2 v (flL (shd k b i))) (hg : w1.heap.size ≤ gf) : LI w w1 gf N k b (i + 1) (W2.setCell ⟨gf, i, none⟩ v) := by
 obtain ⟨F, h1, h2⟩ := h.ex
 have h3 := h1.below hb
 have keep : ∀ {u : Value} {L : List Nat}, Buf w.heap.size W2 u L → Buf w.heap.size (W2.setCell ⟨gf, i, none⟩ v) u L := fun {u L} hu => ownsRow_keep hu fun x hx => heap_setCell_ne _ _ _ _ (by
  rintro rfl
  rcases hu.2 with ⟨rfl, _⟩ | ⟨g, cap, cur, rfl, _, hg9, _⟩
  ·cases hx
  ·cases hx; unfold CAt at h3; rw [hg9] at h3; cases h3)
 have keepE : ∀ {u : Value} {L : List Nat}, ExR W2 u L → ExR (W2.setCell ⟨gf, i, none⟩ v) u L := fun {u L} hu => hu.keep fun g _ hc => heap_setCell_ne _ _ _ _ (cat_ne hc h3 (by decide))
 refine ⟨⟨fun j => if j = i then v else F j, ?_, fun j hj => ?_⟩, below_tr h.be (below_tr (below_less hb h.be.size) ⟨rfl, rfl, rfl, by rw [setCell_size]; exact Nat.le_refl _, fun x hx => heap_setCell_ne _ _ _ _ (by show x ≠ gf; omega)⟩)⟩
 ·have e : (rowF N fun j => if j < i + 1 then (if j = i then v else F j) else .slice none 0 0) = (rowF N fun j => if j < i then F j else .slice none 0 0).setIfInBounds i v := by
    rw [rowF_set]
    apply rowF_congr
    intro j _
    by_cases q : j = i
    ·subst q; simp
    ·have : (j < i + 1) = (j < i) := propext ⟨fun _ => by omega, fun _ => by omega⟩
     simp only [this, if_neg q]
  rw [e]
  exact h3.set i v
 ·show Buf _ _ (if j = i then v else F j) _ ∧ ExR _ (if j = i then v else F j) _
  by_cases q : j = i
  ·subst q; rw [if_pos rfl]; exact ⟨keep (own_base hv.1 (by have := h.be.size; have := hw.size; omega)), keepE hv.2⟩
  ·rw [if_neg q]; exact ⟨keep ((h2 j (by omega)).1.below hb), keepE ((h2 j (by omega)).2.below hb)⟩
set_option maxRecDepth 100000 in
set_option maxHeartbeats 2000000 in
theorem lay_ok (po : Option Addr) (c k m : Nat) (b : List Nat) (w : World) (h0 : 1 ≤ k) (h1 : 1 ≤ m) (h : k + m ≤ 16) (hn : b.length ≤ 65536) (hc : b.length ≤ c) (hb : BL w po b) (h8 : ∀ z ∈ b, z < 256) :
  Calls Tryz.prog 5 #[.slice po b.length c, .int .i64 (k : Int), .int .i64 (m : Int)] w fun e w' => ∃ v, e = .returned (.tuple #[v, .int .i64 0]) ∧ LL w.heap.size w' v (fls k m b) ∧ Below w.heap.size w w' := by
 obtain ⟨N, hN⟩ : ∃ N, N = k + m := ⟨_, rfl⟩
 obtain ⟨n, hnl⟩ : ∃ n, n = U.lgt b.length k := ⟨_, rfl⟩
 have hln := U.lgt_le b.length k hn h0
 have hsp := U.split_ok po b.length c k m (kx b) w h0 h1 h hn hc (bl_of_str hb h8)
 have HN := hid hN
 rw [← hN, ← hnl] at hsp
 have HSP := hid hsp
 have hN16 : N ≤ 16 := by omega
 have HMB := run_makeB N (by omega)
 have HNL := hid hnl
 rw [← hnl] at hln
 have HLN := hid hln
 clear hsp hN hnl hb h8 h0 h1 h hn hc hln
 go_enter Tryz.func5, Tryz.ntmps5
 go_wp2_with (go_at_call 17; refine HSP.out.mono ?_; rintro e w1 ⟨g, cp, G, rfl, hm, hb1⟩; have HM := hid hm; have HB1 := hid hb1; clear hm hb1)
 have HI0 : Hid (LI w w1 w1.heap.size N k b 0 (w1.alloc (.cells (madeCells #[.slice none 0 0] N) 22))) := by
  refine ⟨⟨fun _ => .slice none 0 0, ?_, fun j hj => absurd hj (by omega)⟩, below_al _ _⟩
  have := CAt.made w1 (madeCells #[.slice none 0 0] N) 22
  rw [rowF_made] at this ⊢
  have e : (rowF N fun j => if j < 0 then (Value.slice none 0 0) else .slice none 0 0) = rowF N (fun _ => .slice none 0 0) := by apply rowF_congr; intro j _; simp
  rw [e]; exact this
 clear HMB HSP
 go_loopw [28] (fun q wr => ∃ i : Nat, i ≤ N ∧ q = .int .i64 (i : Int) ∧ Hid (LI w w1 w1.heap.size N k b i wr)) (fun q _ => (1000000 - intOf q).toNat)
 case atStart => exact ⟨0, Nat.zero_le _, rfl, HI0⟩
 case round =>
  obtain ⟨i, hi, rfl, HI⟩ := hrel
  by_cases hlt : i < N
  ·have c1 : wr.cell? ⟨g, i, none⟩ = some (.slice (some ⟨G i, 0, none⟩) n n) := by
     have h1 := ownmat_cell HM.out i hlt
     rw [World.cell?_of_block (HI.out.be.block g (World.block_lt_of_cell? _ _ h1)), h1]
   have hbl := ownmat_bl HM.out i hlt
   have e1 : ((List.range n).map fun j => (U.ash k n b.length (kx b) i j).val) = shd k b i := by unfold shd; rw [← HNL.out]
   rw [e1] at hbl
   have hbl2 := hbl.below HI.out.be
   have hsl : (shd k b i).length = n := by rw [shd_len, ← HNL.out]
   have hca := blay_any (some ⟨G i, 0, none⟩) n (shd k b i) wr hbl2 (shd_lt k b i) (by rw [hsl]; exact HLN.out) (by rw [hsl]; exact Nat.le_refl _) (fun e => by cases e)
   rw [hsl] at hca
   have HCA := hid hca
   have hi' : (i : Int) < (N : Int) := by omega
   have hw : IntKind.i64.wrap ((i : Int) + 1) = (i : Int) + 1 := IntWalk.i64_in _ ⟨by omega, by omega⟩
   clear hca hsl hbl hbl2 e1
   go_wp2_with (go_at_call 18; refine HCA.out.mono ?_; rintro e w5 ⟨v5, rfl, hv5, hb5⟩; obtain ⟨p5, n5, rfl⟩ := Buf.form hv5.1; have HV5 := hid hv5; have HB5 := hid hb5; have cf : w5.frozen? ⟨w1.heap.size, i, none⟩ = false := (by obtain ⟨F, h1, _⟩ := HI.out.ex; exact (h1.below hb5).free i); have cc : ∃ u, w5.cell? ⟨w1.heap.size, i, none⟩ = some u := (by obtain ⟨F, h1, _⟩ := HI.out.ex; exact ⟨_, by rw [(h1.below hb5).cell, rowF_get hlt]⟩); obtain ⟨u5, cc⟩ := cc; clear hv5 hb5)
   go_roundw
   case rel => exact ⟨i + 1, hlt, by congr 1, HI.out.next HB5.out HB1.out HV5.out (Nat.le_refl _)⟩
   case measure => simp [intOf]; omega
  ·have hq : ¬ (i : Int) < (N : Int) := by omega
   have hk' : i = N := by omega
   subst hk'
   go_wp2
   go_ret2
   obtain ⟨F, h1, h2⟩ := HI.out.ex
   refine ⟨_, rfl, ⟨w1.heap.size, _, by rw [fls_len, ← HN.out]; rfl, HB1.out.size, h1, by rw [rowF_size, fls_len, ← HN.out], fun j u L hu hL => ?_⟩, below_on HB1.out HI.out.be⟩
   have hj : j < i := by
    rcases Nat.lt_or_ge j i with q | q
    ·exact q
    ·have : (fls k m b)[j]? = none := by rw [List.getElem?_eq_none]; rw [fls_len, ← HN.out]; exact q
     rw [this] at hL; cases hL
   rw [rowF_get hj] at hu
   rw [fls_get k m b j (by rw [← HN.out]; exact hj)] at hL
   cases hL
   have : F j = u := by simpa [hj] using hu
   rw [← this]; exact h2 j hj
end Go.Proofs.YtdohmokhfajjpaaGreatDoor

/- Contracts of bytes.Equal and bytes.Clone, and of state, isDataName, Name and Part of package shard; what was there is as it was. -/
namespace Go.Proofs.YtdohmokhfajjpaaGreatDoor
open Go Go.RowKit

theorem equalS_any {w : World} {u v : Value} {x y : List Nat} (hu : SL w u x) (hv : SL w v y) (hx : ∀ z ∈ x, z < 256) (hy : ∀ z ∈ y, z < 256) :
  Calls Tryz.prog 39 #[u, v] w fun e w' => e = .returned (.bool (decide (x = y))) ∧ w' = w := by
 obtain ⟨p, c, rfl, hp, _⟩ := hu
 obtain ⟨q, d, rfl, hq, _⟩ := hv
 have h1 := hp.conv c
 have h2 := hq.conv d
 have h3 := lst_beq (ba x) (ba y)
 rw [lst_ba hx, lst_ba hy] at h3
 generalize ba x = X at *
 generalize ba y = Y at *
 generalize decide (x = y) = b at *
 go_enter Tryz.func39, Tryz.ntmps39
 go_wp2
 go_ret
 exact ⟨rfl, rfl⟩
set_option maxRecDepth 100000 in
theorem clone_any (po : Option Addr) (n c : Nat) (x : List Nat) (w : World) (hx : x.length = n) (hb : BL w po x) (hn : n ≤ 1000000) (hp : po = none → c = 0) (hp2 : po = none → n = 0) :
  Calls Tryz.prog 24 #[.slice po n c] w fun e w' => ∃ v, e = .returned v ∧ Buf w.heap.size w' v x ∧ Below w.heap.size w w' := by
 subst hx
 cases po with
 | none =>
  have h0 := hp2 rfl
  have hx0 : x = [] := List.length_eq_zero_iff.1 h0
  subst hx0
  have hc := hp rfl
  subst hc
  have hq : ∀ W : World, (binOp .eql 22 (.slice none 0 0) (.slice none 0 0)).run Tryz.prog W = .ok (.bool true) W := fun W => by
   first | exact Lib.run_eql_slice_nil W 22 _ none 0 0 0 0 Tryz.underlying22 | exact Lib.run_eql_slice_nil W 22 _ none 0 0 Tryz.underlying22
  go_enter Tryz.func24, Tryz.ntmps24
  go_wp2
  go_ret
  exact ⟨_, rfl, Buf.nil _ _, Below.refl _ _⟩
 | some a =>
  obtain ⟨v', w', hr, hbf, hg⟩ := (Buf.made0 w w.heap.size (Nat.le_refl _)).app (some a) c x (hb.below (below_al _ _)) (fun e => by cases e) (by simp; omega) (by rw [size_al]; omega)
  have HRUN := hid hr
  have hq : ∀ W : World, (binOp .eql 22 (.slice (some a) x.length c) (.slice none 0 0)).run Tryz.prog W = .ok (.bool false) W := fun W => by
   first | exact Lib.run_eql_slice_nil W 22 _ (some a) x.length c 0 0 Tryz.underlying22 | exact Lib.run_eql_slice_nil W 22 _ (some a) x.length c Tryz.underlying22
  clear hr
  go_enter Tryz.func24, Tryz.ntmps24
  go_wp2_with (at_builtin; refine wpList_append_run _ _ 22 22 rfl rfl _ _ _ rfl rfl HRUN.out ?_)
  go_ret
  exact ⟨v', rfl, by simpa using hbf, below_grown (below_al _ _) hg (Nat.le_refl _) (fun b hb => by cases hb; exact Nat.le_refl _)⟩
/-- How a drive's file is. -/
def sttN (c : Cp) (f : List Nat) : Int := if c.err = 0 then (if c.b = f then 1 else 3) else if c.err = 6 then 2 else 4
theorem state_any (x : Cv) (f : List Nat) (u : Value) (w : World) (hx : CvOk w x) (hu : SL w u f) (h8 : ∀ z ∈ f, z < 256) : Calls Tryz.prog 23 #[.agg #[.int .i64 x.err, x.v], u] w fun e w' => e = .returned (.int .i64 (sttN x.cp f)) ∧ Below w.heap.size w w' := by
 obtain ⟨er, xv, bs⟩ := x
 have hs := hx.slv
 obtain ⟨⟨px, cx, hxv, hbl, hlc, hnc⟩, hxs, hx8⟩ := hx
 simp only at hxv hs ⊢
 subst hxv
 obtain ⟨pu, cu, rfl, hbu, _⟩ := hu
 simp only at hbl hlc hnc hxs hx8
 obtain ⟨E, hE⟩ : ∃ E, sttN (Cv.cp ⟨er, .slice px bs.length cx, bs⟩) f = E := ⟨_, rfl⟩
 rw [hE]
 have hE2 : (if er = 0 then (if bs = f then 1 else 3) else if er = 6 then 2 else 4 : Int) = E := hE
 have HEQ := hid (fun (W : World) (hb : Below w.heap.size w W) => equalS_any (hs.below hb) (SL.below (show SL w (.slice pu f.length cu) f from ⟨pu, cu, rfl, hbu, by assumption⟩) hb) hx8 h8)
 clear hE hbl hbu hlc hs
 by_cases h0 : er = 0
 ·rw [if_pos h0] at hE2
  subst h0
  by_cases h1 : bs = f
  ·rw [if_pos h1] at hE2
   rw [decide_eq_true h1] at HEQ
   subst hE2
   clear h1
   go_enter Tryz.func23, Tryz.ntmps23
   go_wp2_with (go_at_call 39; refine (HEQ.out _ (below_al _ _)).mono ?_; rintro e w' ⟨rfl, rfl⟩)
   go_ret
   exact ⟨rfl, below_al _ _⟩
  ·rw [if_neg h1] at hE2
   rw [decide_eq_false h1] at HEQ
   subst hE2
   clear h1
   go_enter Tryz.func23, Tryz.ntmps23
   go_wp2_with (go_at_call 39; refine (HEQ.out _ (below_al _ _)).mono ?_; rintro e w' ⟨rfl, rfl⟩)
   go_ret
   exact ⟨rfl, below_al _ _⟩
 ·rw [if_neg h0] at hE2
  have h0' : (er == 0) = false := by simpa using h0
  by_cases h1 : er = 6
  ·rw [if_pos h1] at hE2
   subst hE2 h1
   clear HEQ
   go_enter Tryz.func23, Tryz.ntmps23
   go_wp2
   go_ret
   exact ⟨rfl, below_al _ _⟩
  ·rw [if_neg h1] at hE2
   have h1' : (er == 6) = false := by simpa using h1
   subst hE2
   clear HEQ
   go_enter Tryz.func23, Tryz.ntmps23
   go_wp2
   go_ret
   exact ⟨rfl, below_al _ _⟩
end Go.Proofs.YtdohmokhfajjpaaGreatDoor

/- Contract of Part of package shard: a part of a version's bytes in new memory, or the error's number; what was there is as it was. -/
namespace Go.Proofs.YtdohmokhfajjpaaGreatDoor
open Go Go.RowKit

/-- Bytes of the call's own, and an error's number. -/
def PtU (w : World) (E : Int) (B : List Nat) (e : Ending) (w' : World) : Prop := ∃ v, e = .returned (.tuple #[v, .int .i64 E]) ∧ Buf w.heap.size w' v B ∧ Below w.heap.size w w'
/-- What Part tells. -/
def prtE (r : Rv) (ps : Ps) (l : List Cp) (a b : Int) : Int := if mayB r ps l.length = true then (if a < 0 ∨ b < a ∨ r.size < b then 5 else rdrE r ps l) else 2
def prtB (r : Rv) (ps : Ps) (l : List Cp) (a b : Int) : List Nat := if mayB r ps l.length = true then (if a < 0 ∨ b < a ∨ r.size < b then [] else ((rdrB r ps l).drop a.toNat).take (b.toNat - a.toNat)) else []
theorem buf_none {B : Nat} {w : World} {n c : Nat} {L : List Nat} (h : Buf B w (.slice none n c) L) : n = 0 ∧ c = 0 := by
 rcases h.2 with ⟨e, _⟩ | ⟨g, cap, cur, e, _⟩ <;> cases e
 exact ⟨rfl, rfl⟩
theorem bl_cut {w : World} {po p2 : Option Addr} {a b : Nat} {x : List Nat} (hab : a ≤ b) (hb : b ≤ x.length) (h2 : ∀ g o, po = some ⟨g, o, none⟩ → a < x.length → p2 = some ⟨g, o + a, none⟩) (h : BL w po x) : BL w p2 ((x.drop a).take (b - a)) := by
 rcases Nat.lt_or_ge a x.length with q | q
 ·rcases h with h | ⟨g, o, h, h3⟩
  ·rw [h] at q; simp at q
  ·subst h
   have h4 : BL w (some ⟨g, o, none⟩) x := .inr ⟨g, o, rfl, h3⟩
   rw [h2 g o rfl q]
   exact (h4.drop a).take _
 ·have : b - a = 0 := by omega
  rw [this]; exact .inl (by simp)
set_option maxRecDepth 100000 in
set_option maxHeartbeats 1000000 in
theorem part_any (r : Rv) (hr : r.ok) (ps : Ps) (v : Value) (l : List Cv) (a b : Int) (w : World) (hp : PL w r.pv ps) (hl : CL w v l) (ha : (Lit.int .i64 a).wf = true) (hb : (Lit.int .i64 b).wf = true) :
  Calls Tryz.prog 15 #[v, .agg r.cs, .int .i64 a, .int .i64 b] w (PtU w (prtE r ps (cps l) a b) (prtB r ps (cps l) a b)) := by
 have HCH := hid (fun (w' : World) (hb : Below w.heap.size w w') (po : Option Addr) (c : Nat) => chk_any r hr ps po l.length c w' (hp.below hb))
 have HL := hid hl
 obtain ⟨po, c, rfl, _⟩ := hl
 have HR := hid hr
 unfold prtE prtB
 rw [cps_len]
 unfold mayE at HCH
 cases hq : mayB r ps l.length
 ·rw [hq] at HCH
  simp only [if_neg (show ¬ (false = true) by decide)] at HCH ⊢
  clear hr hp hq
  go_enter Tryz.func15, Tryz.ntmps15
  go_wp2_with (first
   | ((with_reducible refine wpList_boxR rfl _ rfl r.cs ?_ ?_); exact rfl; intro w1 g1 hc1 hb1 hg1; have HA := hid (RBox.mk' HR.out hc1); have HB := hid hb1; clear hc1 hb1)
   | ((with_reducible refine wpList_load_at 44 _ rfl ?_ g1 0 ?_ r.cs (.struct (Tryz.prog.fieldsOf 44)) ?_ underRec rfl ?_ ?_); exact rfl; exact rfl; exact HA.out.whole; (rw [HR.out.size]; exact sizeR))
   | (go_at_call 20; refine (HCH.out _ HB.out _ _).mono ?_; rintro e w4 ⟨rfl, hb4⟩; have HB4 := hid (below_on HB.out hb4); clear hb4))
  go_ret2
  exact ⟨_, rfl, Buf.nil _ _, HB4.out⟩
 ·have e1 : rdrE r ps (cps l) = whE r.k.toNat r.m.toNat r.size.toNat r.sum (cps l) := by unfold rdrE; rw [cps_len, hq, if_pos rfl]
  have e2 : rdrB r ps (cps l) = whB r.k.toNat r.m.toNat r.size.toNat r.sum (cps l) := by unfold rdrB; rw [cps_len, hq, if_pos rfl]
  rw [hq] at HCH
  simp only [if_true] at HCH ⊢
  obtain ⟨k, m, s, hk, hm, hs, h0, h1, h, hs', hn⟩ := mayB_parts hq
  have HWH := hid (fun (w' : World) (hb : Below w.heap.size w w') => whole_any r hr k m s hk hm hs h0 h1 h hs' (.slice po l.length c) l w' (HL.out.below hb) hn)
  rw [e1, e2, hk, hm, hs]
  simp only [Int.toNat_natCast]
  have HLB : Hid (whE k m s r.sum (cps l) = 0 → (whB k m s r.sum (cps l)).length = s) := fun q => by unfold whB; rw [if_pos q]; exact jnB_len _ _ _ _
  have HLN : Hid (whE k m s r.sum (cps l) ≠ 0 → whB k m s r.sum (cps l) = []) := fun q => by unfold whB; rw [if_neg q]
  generalize whE k m s r.sum (cps l) = E at HWH HLB HLN ⊢
  generalize whB k m s r.sum (cps l) = L at HWH HLB HLN ⊢
  have HS := hid hs
  clear hr hp hq hn hk hm hs e1 e2
  by_cases hr1 : a < 0
  ·rw [if_pos (.inl hr1), if_pos (.inl hr1)]
   go_enter Tryz.func15, Tryz.ntmps15
   go_wp2_with (first
    | ((with_reducible refine wpList_boxR rfl _ rfl r.cs ?_ ?_); exact rfl; intro w1 g1 hc1 hb1 hg1; have HA := hid (RBox.mk' HR.out hc1); have HB := hid hb1; clear hc1 hb1)
    | ((with_reducible refine wpList_load_at 44 _ rfl ?_ g1 0 ?_ r.cs (.struct (Tryz.prog.fieldsOf 44)) ?_ underRec rfl ?_ ?_); exact rfl; exact rfl; exact HA.out.whole; (rw [HR.out.size]; exact sizeR))
    | (go_at_call 20; refine (HCH.out _ HB.out _ _).mono ?_; rintro e w4 ⟨rfl, hb4⟩; replace HA := hid (HA.out.below HR.out hb4); have HB4 := hid (below_on HB.out hb4); have c3 := HA.out.c3; rw [HS.out] at c3; clear hb4))
   go_ret2
   exact ⟨_, rfl, Buf.nil _ _, HB4.out⟩
  ·by_cases hr2 : b < a
   ·rw [if_pos (.inr (.inl hr2)), if_pos (.inr (.inl hr2))]
    go_enter Tryz.func15, Tryz.ntmps15
    go_wp2_with (first
     | ((with_reducible refine wpList_boxR rfl _ rfl r.cs ?_ ?_); exact rfl; intro w1 g1 hc1 hb1 hg1; have HA := hid (RBox.mk' HR.out hc1); have HB := hid hb1; clear hc1 hb1)
     | ((with_reducible refine wpList_load_at 44 _ rfl ?_ g1 0 ?_ r.cs (.struct (Tryz.prog.fieldsOf 44)) ?_ underRec rfl ?_ ?_); exact rfl; exact rfl; exact HA.out.whole; (rw [HR.out.size]; exact sizeR))
     | (go_at_call 20; refine (HCH.out _ HB.out _ _).mono ?_; rintro e w4 ⟨rfl, hb4⟩; replace HA := hid (HA.out.below HR.out hb4); have HB4 := hid (below_on HB.out hb4); have c3 := HA.out.c3; rw [HS.out] at c3; clear hb4))
    go_ret2
    exact ⟨_, rfl, Buf.nil _ _, HB4.out⟩
   ·by_cases hr3 : (s : Int) < b
    ·rw [if_pos (.inr (.inr hr3)), if_pos (.inr (.inr hr3))]
     have hr3' : b > (s : Int) := hr3
     go_enter Tryz.func15, Tryz.ntmps15
     go_wp2_with (first
      | ((with_reducible refine wpList_boxR rfl _ rfl r.cs ?_ ?_); exact rfl; intro w1 g1 hc1 hb1 hg1; have HA := hid (RBox.mk' HR.out hc1); have HB := hid hb1; clear hc1 hb1)
      | ((with_reducible refine wpList_load_at 44 _ rfl ?_ g1 0 ?_ r.cs (.struct (Tryz.prog.fieldsOf 44)) ?_ underRec rfl ?_ ?_); exact rfl; exact rfl; exact HA.out.whole; (rw [HR.out.size]; exact sizeR))
      | (go_at_call 20; refine (HCH.out _ HB.out _ _).mono ?_; rintro e w4 ⟨rfl, hb4⟩; replace HA := hid (HA.out.below HR.out hb4); have HB4 := hid (below_on HB.out hb4); have c3 := HA.out.c3; rw [HS.out] at c3; clear hb4))
     go_ret2
     exact ⟨_, rfl, Buf.nil _ _, HB4.out⟩
    ·rw [if_neg (by omega), if_neg (by omega)]
     obtain ⟨x, rfl⟩ : ∃ x : Nat, a = x := ⟨a.toNat, by omega⟩
     obtain ⟨y, rfl⟩ : ∃ y : Nat, b = y := ⟨b.toNat, by omega⟩
     simp only [Int.toNat_natCast]
     have hr3' : ¬ (y : Int) > (s : Int) := by omega
     by_cases hE : E = 0
     ·have hLs := HLB.out hE
      subst hE
      obtain ⟨L2, hL2⟩ : ∃ L2, (L.drop x).take (y - x) = L2 := ⟨_, rfl⟩
      rw [hL2]
      have HL2 := hid (show L2.length = y - x by rw [← hL2]; simp; omega)
      unfold WhU at HWH
      rw [hLs] at HWH
      have HXY := hid (And.intro (show x ≤ y by omega) (show y ≤ s by omega))
      have HCUT := hid (fun pq => H.run_cut pq s s x y (by omega) (by omega))
      have HBC := hid (fun (W : World) (pq p2 : Option Addr) (h2 : ∀ g o, pq = some ⟨g, o, none⟩ → x < s → p2 = some ⟨g, o + x, none⟩) (hb : BL W pq L) => (by rw [← hL2]; exact bl_cut HXY.out.1 (by rw [hLs]; exact HXY.out.2) (by rw [hLs]; exact h2) hb : BL W p2 L2))
      have HSS := hid hs'
      clear hL2 hLs hs' HLB
      go_enter Tryz.func15, Tryz.ntmps15
      go_wp2_with (first
       | ((with_reducible refine wpList_boxR rfl _ rfl r.cs ?_ ?_); exact rfl; intro w1 g1 hc1 hb1 hg1; have HA := hid (RBox.mk' HR.out hc1); have HB := hid hb1; clear hc1 hb1)
       | ((with_reducible refine wpList_load_at 44 _ rfl ?_ g1 0 ?_ r.cs (.struct (Tryz.prog.fieldsOf 44)) ?_ underRec rfl ?_ ?_); exact rfl; exact rfl; exact HA.out.whole; (rw [HR.out.size]; exact sizeR))
       | (go_at_call 20; refine (HCH.out _ HB.out _ _).mono ?_; rintro e w4 ⟨rfl, hb4⟩; replace HA := hid (HA.out.below HR.out hb4); have HB4 := hid (below_on HB.out hb4); have c3 := HA.out.c3; rw [HS.out] at c3; clear hb4)
       | (go_at_call 21; refine (HWH.out _ HB4.out).mono ?_; rintro e w5 ⟨pq, rfl, ho, hb5⟩; obtain ⟨p2, hcut, hp2, hpn⟩ := HCUT.out pq; have HO := hid ho; have HB5 := hid (below_on HB4.out hb5); have HCL := hid (clone_any p2 (y - x) (s - x) L2 w5 HL2.out (HBC.out w5 pq p2 hp2 ho.bl) (by have := HXY.out; have := HSS.out; omega) (fun e => by have h9 := hpn e; subst h9; have := (buf_none ho).1; omega) (fun e => by have h9 := hpn e; subst h9; have := (buf_none ho).1; have := HXY.out; omega)); clear ho hb5 hp2 hpn)
       | (go_at_call 24; refine HCL.out.mono ?_; rintro e w6 ⟨v6, rfl, ho6, hb6⟩; have HO6 := hid ho6; have HB6 := hid hb6; clear ho6 hb6))
      go_ret2
      exact ⟨_, rfl, own_base HO6.out HB5.out.size, below_on HB5.out HB6.out⟩
     ·have hE' : (E != 0) = true := by simpa using hE
      have hLn := HLN.out hE
      subst hLn
      rw [show ((([] : List Nat).drop x).take (y - x)) = [] by simp]
      clear HLB HLN hE
      go_enter Tryz.func15, Tryz.ntmps15
      go_wp2_with (first
       | ((with_reducible refine wpList_boxR rfl _ rfl r.cs ?_ ?_); exact rfl; intro w1 g1 hc1 hb1 hg1; have HA := hid (RBox.mk' HR.out hc1); have HB := hid hb1; clear hc1 hb1)
       | ((with_reducible refine wpList_load_at 44 _ rfl ?_ g1 0 ?_ r.cs (.struct (Tryz.prog.fieldsOf 44)) ?_ underRec rfl ?_ ?_); exact rfl; exact rfl; exact HA.out.whole; (rw [HR.out.size]; exact sizeR))
       | (go_at_call 20; refine (HCH.out _ HB.out _ _).mono ?_; rintro e w4 ⟨rfl, hb4⟩; replace HA := hid (HA.out.below HR.out hb4); have HB4 := hid (below_on HB.out hb4); have c3 := HA.out.c3; rw [HS.out] at c3; clear hb4)
       | (go_at_call 21; refine (HWH.out _ HB4.out).mono ?_; rintro e w5 ⟨pq, rfl, ho, hb5⟩; have HB5 := hid (below_on HB4.out hb5); clear ho hb5))
      go_ret2
      exact ⟨_, rfl, Buf.nil _ _, HB5.out⟩
end Go.Proofs.YtdohmokhfajjpaaGreatDoor
