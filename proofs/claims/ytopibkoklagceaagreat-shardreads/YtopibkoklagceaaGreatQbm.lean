/- Texts laid into one, cut to what is needed: the remark ahead of each part says what is proved there. -/
import Derived.Test.YtopibkoklagceaaGreatQbl
import Derived.Test.YtopibkoklagceaaGreatQbk
import Derived.Test.YtopibkoklagceaaGreatQab
import Derived.Test.YtopibkoklagceaaGreatQbb
import Derived.Test.YtopibkoklagceaaGreatQal
/- The document's Part of shard: as the program's contract says. -/
namespace Go.Proofs.YtopibkoklagceaaGreat
open Go Go.RowKit

set_option maxRecDepth 100000 in
set_option maxHeartbeats 2000000 in
theorem rpart11_any (r : Rv) (hr : r.ok) (ps : Ps) (v : Value) (l : List Cv) (a b : Int) (w : World) (hp : PL w r.pv ps) (hl : CL w v l) :
  Calls Tryz.prog 20 #[v, .agg r.cs, .int .i64 a, .int .i64 b] w (PtU w (prtE r ps (cps l) a b) (prtB r ps (cps l) a b)) := by
 have HMY := hid (fun (w' : World) (hb : Below w.heap.size w w') (po : Option Addr) (c : Nat) => rmay11_any r hr ps po l.length c w' (hp.below hb))
 have HRD := hid (fun (w' : World) (hb : Below w.heap.size w w') => rread11_any r hr ps v l w' (hp.below hb) (hl.below hb))
 obtain ⟨po, c, rfl, _⟩ := hl
 have HR := hid hr
 unfold prtE prtB
 rw [cps_len]
 cases hq : mayB r ps l.length
 ·rw [hq] at HMY
  simp only [if_neg (show ¬ (false = true) by decide)]
  clear hr hp hq HRD
  go_enter Tryz.func20, Tryz.ntmps20
  go_wp2_with (first
   | ((with_reducible refine wpList_boxR rfl _ rfl r.cs ?_ ?_); exact rfl; intro w1 g1 hc1 hb1 hg1; have HA := hid (RBox.mk' HR.out hc1); have HB := hid hb1; clear hc1 hb1)
   | ((with_reducible refine wpList_load_at 40 _ rfl ?_ g1 0 ?_ r.cs (.struct (Tryz.prog.fieldsOf 40)) ?_ underRec rfl ?_ ?_); exact rfl; exact rfl; exact HA.out.whole; (rw [HR.out.size]; exact sizeR))
   | (go_at_call 38; refine (HMY.out _ HB.out _ _).mono ?_; rintro e w4 ⟨rfl, hb4⟩; have HB4 := hid (below_on HB.out hb4); clear hb4))
  go_ret2
  exact ⟨_, rfl, Buf.nil _ _, HB4.out⟩
 ·rw [hq] at HMY
  simp only [if_true]
  obtain ⟨k, m, s, hk, hm, hs, h0, h1, h, hs', hn⟩ := mayB_parts hq
  have e1 : rdrE r ps (cps l) = whE k m s r.sum (cps l) := by unfold rdrE; rw [cps_len, hq, if_pos rfl, hk, hm, hs]; simp
  have e2 : rdrB r ps (cps l) = whB k m s r.sum (cps l) := by unfold rdrB; rw [cps_len, hq, if_pos rfl, hk, hm, hs]; simp
  have HLB : Hid (rdrE r ps (cps l) = 0 → (rdrB r ps (cps l)).length = s) := fun q => by rw [e1] at q; rw [e2]; unfold whB; rw [if_pos q]; exact jnB_len _ _ _ _
  have HLN : Hid (rdrE r ps (cps l) ≠ 0 → rdrB r ps (cps l) = []) := fun q => by rw [e1] at q; rw [e2]; unfold whB; rw [if_neg q]
  rw [hs]
  generalize rdrE r ps (cps l) = E at HRD HLB HLN ⊢
  generalize rdrB r ps (cps l) = L at HRD HLB HLN ⊢
  have HS := hid hs
  clear hr hp hq hn hk hm hs e1 e2
  by_cases hr1 : a < 0
  ·rw [if_pos (.inl hr1), if_pos (.inl hr1)]
   go_enter Tryz.func20, Tryz.ntmps20
   go_wp2_with (first
    | ((with_reducible refine wpList_boxR rfl _ rfl r.cs ?_ ?_); exact rfl; intro w1 g1 hc1 hb1 hg1; have HA := hid (RBox.mk' HR.out hc1); have HB := hid hb1; clear hc1 hb1)
    | ((with_reducible refine wpList_load_at 40 _ rfl ?_ g1 0 ?_ r.cs (.struct (Tryz.prog.fieldsOf 40)) ?_ underRec rfl ?_ ?_); exact rfl; exact rfl; exact HA.out.whole; (rw [HR.out.size]; exact sizeR))
    | (go_at_call 38; refine (HMY.out _ HB.out _ _).mono ?_; rintro e w4 ⟨rfl, hb4⟩; replace HA := hid (HA.out.below HR.out hb4); have HB4 := hid (below_on HB.out hb4); have c3 := HA.out.c3; rw [HS.out] at c3; clear hb4))
   go_ret2
   exact ⟨_, rfl, Buf.nil _ _, HB4.out⟩
  ·by_cases hr2 : b < a
   ·rw [if_pos (.inr (.inl hr2)), if_pos (.inr (.inl hr2))]
    go_enter Tryz.func20, Tryz.ntmps20
    go_wp2_with (first
     | ((with_reducible refine wpList_boxR rfl _ rfl r.cs ?_ ?_); exact rfl; intro w1 g1 hc1 hb1 hg1; have HA := hid (RBox.mk' HR.out hc1); have HB := hid hb1; clear hc1 hb1)
     | ((with_reducible refine wpList_load_at 40 _ rfl ?_ g1 0 ?_ r.cs (.struct (Tryz.prog.fieldsOf 40)) ?_ underRec rfl ?_ ?_); exact rfl; exact rfl; exact HA.out.whole; (rw [HR.out.size]; exact sizeR))
     | (go_at_call 38; refine (HMY.out _ HB.out _ _).mono ?_; rintro e w4 ⟨rfl, hb4⟩; replace HA := hid (HA.out.below HR.out hb4); have HB4 := hid (below_on HB.out hb4); have c3 := HA.out.c3; rw [HS.out] at c3; clear hb4))
    go_ret2
    exact ⟨_, rfl, Buf.nil _ _, HB4.out⟩
   ·by_cases hr3 : (s : Int) < b
    ·rw [if_pos (.inr (.inr hr3)), if_pos (.inr (.inr hr3))]
     have hr3' : b > (s : Int) := hr3
     go_enter Tryz.func20, Tryz.ntmps20
     go_wp2_with (first
      | ((with_reducible refine wpList_boxR rfl _ rfl r.cs ?_ ?_); exact rfl; intro w1 g1 hc1 hb1 hg1; have HA := hid (RBox.mk' HR.out hc1); have HB := hid hb1; clear hc1 hb1)
      | ((with_reducible refine wpList_load_at 40 _ rfl ?_ g1 0 ?_ r.cs (.struct (Tryz.prog.fieldsOf 40)) ?_ underRec rfl ?_ ?_); exact rfl; exact rfl; exact HA.out.whole; (rw [HR.out.size]; exact sizeR))
      | (go_at_call 38; refine (HMY.out _ HB.out _ _).mono ?_; rintro e w4 ⟨rfl, hb4⟩; replace HA := hid (HA.out.below HR.out hb4); have HB4 := hid (below_on HB.out hb4); have c3 := HA.out.c3; rw [HS.out] at c3; clear hb4))
     go_ret2
     exact ⟨_, rfl, Buf.nil _ _, HB4.out⟩
    ·rw [if_neg (by omega), if_neg (by omega)]
     obtain ⟨x, rfl⟩ : ∃ x : Nat, a = x := ⟨a.toNat, by omega⟩
     obtain ⟨y, rfl⟩ : ∃ y : Nat, b = y := ⟨b.toNat, by omega⟩
     simp only [Int.toNat_natCast]
     have hr3' : ¬ (y : Int) > (s : Int) := by omega
     by_cases hE : E = 0
     ·have hLs := HLB.out hE
      subst hE
      obtain ⟨L2, hL2⟩ : ∃ L2, (L.drop x).take (y - x) = L2 := ⟨_, rfl⟩
      rw [hL2]
      have HL2 := hid (show L2.length = y - x by rw [← hL2]; simp; omega)
      unfold RdU at HRD
      rw [hLs] at HRD
      have HXY := hid (And.intro (show x ≤ y by omega) (show y ≤ s by omega))
      have HCUT := hid (fun (pq : Option Addr) (cq : Nat) (hq : s ≤ cq) => H.run_cut pq s cq x y (by omega) (by omega))
      have HBC := hid (fun (W : World) (pq p2 : Option Addr) (cq : Nat) (hq : s ≤ cq) (h2 : ∀ g o, pq = some ⟨g, o, none⟩ → x < cq → p2 = some ⟨g, o + x, none⟩) (hb : BL W pq L) => (by rw [← hL2]; exact bl_cut HXY.out.1 (by rw [hLs]; exact HXY.out.2) (by rw [hLs]; exact fun g o e q => h2 g o e (by omega)) hb : BL W p2 L2))
      have HSS := hid hs'
      have HAP := hid (fun (W : World) (p2 : Option Addr) (c2 : Nat) (hb : BL W p2 L2) (hn : p2 = none → c2 = 0) => (Buf.made0 W W.heap.size (Nat.le_refl _)).app p2 c2 L2 (hb.below (below_al _ _)) hn (by rw [HL2.out]; simp; have := HXY.out; have := HSS.out; omega) (by rw [size_al]; omega))
      clear hL2 hLs hs' HLB
      go_enter Tryz.func20, Tryz.ntmps20
      go_wp2_with (first
       | ((with_reducible refine wpList_boxR rfl _ rfl r.cs ?_ ?_); exact rfl; intro w1 g1 hc1 hb1 hg1; have HA := hid (RBox.mk' HR.out hc1); have HB := hid hb1; clear hc1 hb1)
       | ((with_reducible refine wpList_load_at 40 _ rfl ?_ g1 0 ?_ r.cs (.struct (Tryz.prog.fieldsOf 40)) ?_ underRec rfl ?_ ?_); exact rfl; exact rfl; exact HA.out.whole; (rw [HR.out.size]; exact sizeR))
       | (go_at_call 38; refine (HMY.out _ HB.out _ _).mono ?_; rintro e w4 ⟨rfl, hb4⟩; replace HA := hid (HA.out.below HR.out hb4); have HB4 := hid (below_on HB.out hb4); have c3 := HA.out.c3; rw [HS.out] at c3; clear hb4)
       | (go_at_call 18; refine (HRD.out _ HB4.out).mono ?_; rintro e w5 ⟨pq, cq, rfl, hbl, hle, hnn, hb5⟩; obtain ⟨p2, hcut, hp2, hpn⟩ := HCUT.out pq cq hle; obtain ⟨v', w', hrn, hbf, hgr⟩ := HAP.out w5 p2 (cq - x) (HBC.out w5 pq p2 cq hle hp2 hbl) (fun e => by have h9 := hnn (hpn e); omega); have HRUN := hid hrn; have HBF := hid hbf; have HGR := hid hgr; have HB5 := hid (below_on HB4.out hb5); rw [HL2.out] at HRUN; clear hbl hnn hb5 hp2 hpn hrn hbf hgr)
       | (at_builtin; refine wpList_append_run _ _ 22 22 rfl rfl _ _ _ rfl rfl HRUN.out ?_))
      go_ret2
      exact ⟨_, rfl, own_base (show Buf w5.heap.size w' v' L2 by simpa using HBF.out) HB5.out.size, below_on HB5.out (below_grown (below_al _ _) HGR.out (Nat.le_refl _) (fun b hb => by cases hb; exact Nat.le_refl _))⟩
     ·have hE' : (E != 0) = true := by simpa using hE
      have hLn := HLN.out hE
      subst hLn
      rw [show ((([] : List Nat).drop x).take (y - x)) = [] by simp]
      clear HLB HLN hE
      go_enter Tryz.func20, Tryz.ntmps20
      go_wp2_with (first
       | ((with_reducible refine wpList_boxR rfl _ rfl r.cs ?_ ?_); exact rfl; intro w1 g1 hc1 hb1 hg1; have HA := hid (RBox.mk' HR.out hc1); have HB := hid hb1; clear hc1 hb1)
       | ((with_reducible refine wpList_load_at 40 _ rfl ?_ g1 0 ?_ r.cs (.struct (Tryz.prog.fieldsOf 40)) ?_ underRec rfl ?_ ?_); exact rfl; exact rfl; exact HA.out.whole; (rw [HR.out.size]; exact sizeR))
       | (go_at_call 38; refine (HMY.out _ HB.out _ _).mono ?_; rintro e w4 ⟨rfl, hb4⟩; replace HA := hid (HA.out.below HR.out hb4); have HB4 := hid (below_on HB.out hb4); have c3 := HA.out.c3; rw [HS.out] at c3; clear hb4)
       | (go_at_call 18; refine (HRD.out _ HB4.out).mono ?_; rintro e w5 ⟨pq, cq, rfl, _, _, _, hb5⟩; have HB5 := hid (below_on HB4.out hb5); clear hb5))
      go_ret2
      exact ⟨_, rfl, Buf.nil _ _, HB5.out⟩
end Go.Proofs.YtopibkoklagceaaGreat

/- Contracts of OverBytes and SameLists over lists of bytes, the document's Lay of any numbers, and the walk of ShardLays. -/
namespace Go.Proofs.YtopibkoklagceaaGreat
open Go Go.RowKit

set_option maxRecDepth 100000 in
set_option maxHeartbeats 1000000 in
theorem over11_any (g n c : Nat) (w : World) (hn : c ≤ maxLen) (h : CellsU w g c) (cs : Array Value) (ha : CAt w g cs 5) (hsz : cs.size = c) :
  Calls Tryz.prog 11 #[.slice (some ⟨g, 0, none⟩) n c] w fun e w' => e = .returned (.tuple #[]) ∧ Only (fun b => b = g) w w' ∧ CellsU w' g c ∧ ∃ cs', CAt w' g cs' 5 ∧ cs'.size = c := by
 have hs := run_cap8 g n c
 have H := hid h
 have HA : Hid (∃ cs', CAt w g cs' 5 ∧ cs'.size = c) := ⟨cs, ha, hsz⟩
 clear ha hsz
 have hn' : c ≤ 9223372036854775807 := hn
 clear h hn
 go_enter Tryz.func11, Tryz.ntmps11
 go_wp2
 clear hs
 go_loopw [3] (fun i wr => ∃ k : Nat, k ≤ c ∧ i = .int .i64 k ∧ Only (fun b => b = g) w wr ∧ CellsU wr g c ∧ Hid (∃ cs', CAt wr g cs' 5 ∧ cs'.size = c)) (fun i _ => (c - intOf i).toNat)
 case atStart => exact ⟨0, by omega, rfl, Only.refl _ _, H.out, HA⟩
 case round =>
  clear H HA
  obtain ⟨k, hk, rfl, ho, hr, HA2⟩ := hrel
  by_cases hlt : k < c
  ·have hlt' : (k : Int) < (c : Int) := by omega
   obtain ⟨z, hz, hcz⟩ := hr.c k hlt
   have hfz := hr.f k
   have hx : bits BinOp.xor IntKind.u8 (z : Int) 90 = ((z ^^^ 90 : Nat) : Int) := u8_xor_nat z 90 hz (by decide)
   have HO := hid (ho.trans (Only.set (S := fun b => b = g) wr ⟨g, k, none⟩ (.int .u8 ((z ^^^ 90 : Nat) : Int)) rfl))
   have HR := hid (hr.set k (z ^^^ 90) (xor_lt hz (by decide)))
   have HA3 : Hid (∃ cs', CAt (wr.setCell ⟨g, k, none⟩ (.int .u8 ((z ^^^ 90 : Nat) : Int))) g cs' 5 ∧ cs'.size = c) := by
    obtain ⟨cs', h1, h2⟩ := HA2.out
    exact ⟨_, h1.set k _, by rw [Array.size_setIfInBounds]; exact h2⟩
   clear hr ho HA2
   generalize z ^^^ 90 = y at *
   go_wp2
   go_roundw
   case rel => exact ⟨k + 1, by omega, by go_num, HO.out, HR.out, HA3⟩
   case measure => simp [intOf]; omega
  ·have hlt' : ¬ (k : Int) < (c : Int) := by omega
   have HO := hid ho
   have HR := hid hr
   clear hr ho
   go_wp2
   go_end0
   exact ⟨rfl, HO.out, HR.out, HA2.out⟩
/-- Lists of bytes that can be read. -/
def LR (w : World) (v : Value) (Ls : List (List Nat)) : Prop := ∃ po c, v = .slice po Ls.length c ∧ ∀ i L, Ls[i]? = some L → ∃ b o u, po = some ⟨b, o, none⟩ ∧ w.cell? ⟨b, o + i, none⟩ = some u ∧ SL w u L
theorem LR.nil (w : World) : LR w (.slice none 0 0) [] := ⟨none, 0, rfl, fun i L h => by simp at h⟩
theorem LR.below {w w' : World} {v : Value} {Ls : List (List Nat)} (h : LR w v Ls) (hb : Below w.heap.size w w') : LR w' v Ls := by
 obtain ⟨po, c, h1, h2⟩ := h
 refine ⟨po, c, h1, fun i L hL => ?_⟩
 obtain ⟨b, o, u, e, hc, hs⟩ := h2 i L hL
 exact ⟨b, o, u, e, (World.cell?_of_block (hb.block b (World.block_lt_of_cell? _ _ hc))).trans hc, hs.below hb⟩
theorem LL.lr {B : Nat} {w : World} {v : Value} {Ls : List (List Nat)} (h : LL B w v Ls) : LR w v Ls := by
 obtain ⟨g, vs, h1, _, h3, h4, h5⟩ := h
 refine ⟨_, _, h1, fun i L hL => ?_⟩
 have hi : i < vs.size := by rw [h4]; exact (List.getElem?_eq_some_iff.1 hL).1
 have hv : vs[i]? = some vs[i] := Array.getElem?_eq_getElem hi
 exact ⟨g, 0, vs[i], rfl, by rw [Nat.zero_add, h3.cell]; exact hv, (h5 i _ L hv hL).1.sl⟩
theorem LX.lr {B : Nat} {w : World} {v : Value} {Ls : List (List Nat)} (h : LX B w v Ls) : LR w v Ls := by
 obtain ⟨us, h1, h2, h3⟩ := h
 by_cases h0 : 0 < Ls.length
 ·obtain ⟨g, c, e, _, _, _, hc⟩ := h1.cells (row1_len us) (by rw [List.length_map, h2]; exact h0)
  rw [List.length_map, h2] at e
  refine ⟨_, _, e, fun i L hL => ?_⟩
  have hi : i < us.length := by rw [h2]; exact (List.getElem?_eq_some_iff.1 hL).1
  have hu : us[i]? = some us[i] := List.getElem?_eq_getElem hi
  have := hc i [us[i]] (by rw [List.getElem?_map, hu]; rfl) 0 us[i] rfl
  exact ⟨g, 0, us[i], rfl, by simpa using this, (h3 i _ L hu hL).sl⟩
 ·obtain ⟨po, c, e, _⟩ := h1.form
  rw [List.length_map, h2] at e
  exact ⟨po, c, e, fun i L hL => absurd (List.getElem?_eq_some_iff.1 hL).1 (by omega)⟩
set_option maxRecDepth 100000 in
set_option maxHeartbeats 2000000 in
theorem sameL11 (u v : Value) (Ls : List (List Nat)) (w : World) (hu : LR w u Ls) (hv : LR w v Ls) (h8 : ∀ L ∈ Ls, ∀ z ∈ L, z < 256) (hn : Ls.length ≤ 1000) : Calls Tryz.prog 10 #[u, v] w fun e w' => e = .returned (.bool true) ∧ Below w.heap.size w w' := by
 have HU := hid hu
 have HV := hid hv
 have H8 := hid h8
 obtain ⟨po, c, rfl, _⟩ := hu
 obtain ⟨qo, d, rfl, _⟩ := hv
 obtain ⟨N, hN⟩ : ∃ N, Ls.length = N := ⟨_, rfl⟩
 have HN := hid hN
 rw [hN] at HU HV ⊢
 have hN2 : N ≤ 1000 := by omega
 clear hN hn h8
 go_enter Tryz.func10, Tryz.ntmps10
 go_wp2
 go_loopw [5] (fun q wr => ∃ i : Nat, i ≤ N ∧ q = .int .i64 (i : Int) ∧ Hid (Below w.heap.size w wr)) (fun q _ => (1000000 - intOf q).toNat)
 case atStart => exact ⟨0, Nat.zero_le _, rfl, Below.refl _ _⟩
 case round =>
  obtain ⟨i, hi, rfl, HB⟩ := hrel
  by_cases hlt : i < N
  ·obtain ⟨L, hL⟩ : ∃ L, Ls[i]? = some L := ⟨_, List.getElem?_eq_getElem (by rw [HN.out]; exact hlt)⟩
   have hu2 := HU.out.below HB.out
   have hv2 := HV.out.below HB.out
   obtain ⟨p1, c1, e1, h1⟩ := hu2
   obtain ⟨p2, c2, e2, h2⟩ := hv2
   rw [HN.out] at e1 e2
   cases e1
   cases e2
   obtain ⟨b1, o1, u1, rfl, q1, s1⟩ := h1 i L hL
   obtain ⟨b2, o2, u2, rfl, q2, s2⟩ := h2 i L hL
   obtain ⟨y1, x1, f1, _, _⟩ := id s1
   obtain ⟨y2, x2, f2, _, _⟩ := id s2
   subst f1 f2
   have HSM := hid (fun n => sameB_any (s1.below (below_drewN wr n)) (s2.below (below_drewN wr n)) (H8.out L (List.mem_of_getElem? hL)) (H8.out L (List.mem_of_getElem? hL)))
   rw [show decide (L = L) = true from by simp] at HSM
   have hi' : (i : Int) < (N : Int) := by omega
   have hw : IntKind.i64.wrap ((i : Int) + 1) = (i : Int) + 1 := IntWalk.i64_in _ ⟨by omega, by omega⟩
   have HD := hid (fun n => below_on HB.out (below_drewN wr n))
   clear h1 h2 s1 s2 hL
   go_wp2_with fail
   have hHeld : (fun W' : World => W'.cell? ⟨b1, o1 + i, none⟩ = some (.slice y1 L.length x1) ∧ W'.cell? ⟨b2, o2 + i, none⟩ = some (.slice y2 L.length x2)) wr.drew := ⟨q1, q2⟩
   clear q1 q2 HU HV
   refine wp_region_held_drew (S := (fun W' : World => W'.cell? ⟨b1, o1 + i, none⟩ = some (.slice y1 L.length x1) ∧ W'.cell? ⟨b2, o2 + i, none⟩ = some (.slice y2 L.length x2))) (by kernel_rfl) hHeld ?_
   clear hHeld
   intro hHeld
   refine wpAnyH_take (i := 0) (oi := ⟨some 17, .move (.tmp 0), _, _, _, none⟩) (v := .slice (some ⟨b1, o1, none⟩) N c) rfl (by kernel_rfl) (by kernel_rfl) (by kernel_rfl) (fun _ _ _ h => h) (Or.inl ⟨by kernel_rfl, by intro W hW; obtain ⟨q0, q1⟩ := hW; go_simp⟩) hHeld ?_
   refine wpAnyH_take (i := 1) (oi := ⟨some 18, .move (.tmp 5), _, _, _, none⟩) (v := .int .i64 (i : Int)) rfl (by kernel_rfl) (by kernel_rfl) (by kernel_rfl) (fun _ _ _ h => h) (Or.inl ⟨by kernel_rfl, by intro W hW; obtain ⟨q0, q1⟩ := hW; go_simp⟩) hHeld ?_
   refine wpAnyH_take (i := 2) (oi := ⟨some 19, .indexAddr 24 (.tmp 17) (.tmp 18), _, _, _, none⟩) (v := .pointer (some ⟨b1, o1 + i, none⟩)) rfl (by kernel_rfl) (by kernel_rfl) (by kernel_rfl) (fun _ _ _ h => h) (Or.inl ⟨by kernel_rfl, by intro W hW; obtain ⟨q0, q1⟩ := hW; go_simp⟩) hHeld ?_
   refine wpAnyH_take (i := 3) (oi := ⟨some 20, .load 22 (.tmp 19), _, _, _, none⟩) (v := .slice y1 L.length x1) rfl (by kernel_rfl) (by kernel_rfl) (by kernel_rfl) (fun _ _ _ h => h) (Or.inl ⟨by kernel_rfl, by intro W hW; obtain ⟨q0, q1⟩ := hW; go_simp⟩) hHeld ?_
   refine wpAnyH_take (i := 4) (oi := ⟨some 21, .move (.tmp 1), _, _, _, none⟩) (v := .slice (some ⟨b2, o2, none⟩) N d) rfl (by kernel_rfl) (by kernel_rfl) (by kernel_rfl) (fun _ _ _ h => h) (Or.inl ⟨by kernel_rfl, by intro W hW; obtain ⟨q0, q1⟩ := hW; go_simp⟩) hHeld ?_
   refine wpAnyH_take (i := 5) (oi := ⟨some 22, .move (.tmp 5), _, _, _, none⟩) (v := .int .i64 (i : Int)) rfl (by kernel_rfl) (by kernel_rfl) (by kernel_rfl) (fun _ _ _ h => h) (Or.inl ⟨by kernel_rfl, by intro W hW; obtain ⟨q0, q1⟩ := hW; go_simp⟩) hHeld ?_
   refine wpAnyH_take (i := 6) (oi := ⟨some 23, .indexAddr 24 (.tmp 21) (.tmp 22), _, _, _, none⟩) (v := .pointer (some ⟨b2, o2 + i, none⟩)) rfl (by kernel_rfl) (by kernel_rfl) (by kernel_rfl) (fun _ _ _ h => h) (Or.inl ⟨by kernel_rfl, by intro W hW; obtain ⟨q0, q1⟩ := hW; go_simp⟩) hHeld ?_
   refine wpAnyH_take (i := 7) (oi := ⟨some 24, .load 22 (.tmp 23), _, _, _, none⟩) (v := .slice y2 L.length x2) rfl (by kernel_rfl) (by kernel_rfl) (by kernel_rfl) (fun _ _ _ h => h) (Or.inl ⟨by kernel_rfl, by intro W hW; obtain ⟨q0, q1⟩ := hW; go_simp⟩) hHeld ?_
   refine wpAnyH_ready (rs := [8]) (by kernel_rfl) (by simp) ?_
   refine AllReadyH.cons (o := ⟨some 25, .call { callee := .value (.func 23), args := #[.tmp 20, .tmp 24], argTypes := #[22, 22] }, _, _, _, none⟩) rfl (fun K hK => ?_) AllReadyH.nil
   refine step_call rfl 23 #[.slice y1 L.length x1, .slice y2 L.length x2] (by kernel_rfl) ((HSM.out 1).mono ?_)
   rintro e w9 ⟨rfl, hw9⟩
   have hw8 := hw9.symm
   subst hw8
   refine ⟨_, rfl, hK.out _ _ hHeld (fun hHeld => ?_)⟩
   clear hK K
   refine wpAnyH_take (i := 9) (oi := ⟨some 26, .unOp .not 4 (.tmp 25), _, _, _, none⟩) (v := .bool false) rfl (by kernel_rfl) (by kernel_rfl) (by kernel_rfl) (fun _ _ _ h => h) (Or.inl ⟨by kernel_rfl, by intro W hW; obtain ⟨q0, q1⟩ := hW; go_simp⟩) hHeld ?_
   refine wpAnyH_done (by kernel_rfl) ?_ _
   simp only [Act.put, List.setIfInBounds_toArray, List.set_cons_zero, List.set_cons_succ]
   have HB9 := hid (HD.out 1)
   clear hHeld HSM HD
   go_wp2
   go_roundw
   case rel => exact ⟨i + 1, hlt, by congr 1, HB9⟩
   case measure => simp [intOf]; omega
  ·have hq : ¬ (i : Int) < (N : Int) := by omega
   go_wp2
   go_ret
   exact ⟨rfl, HB.out⟩
/-- What the loop of OverBytes carries: only blocks from B on are turned, and each file is still a row of bytes. -/
structure OvI (B : Nat) (w W : World) (pv : Option Addr) (N : Nat) : Prop where
 on : Only (fun b => B ≤ b) w W
 row : ∀ i, i < N → ∃ (g : Nat) (vs : Array Value) (gj : Nat) (cs : Array Value), pv = some ⟨g, 0, none⟩ ∧ CAt W g vs 22 ∧ vs[i]? = some (.slice (some ⟨gj, 0, none⟩) cs.size cs.size) ∧ B ≤ gj ∧ CellsU W gj cs.size ∧ CAt W gj cs 5 ∧ cs.size ≤ maxLen
theorem OvI.step {B : Nat} {w W W2 : World} {pv : Option Addr} {N gi : Nat} {ci : Array Value} (h : OvI B w W pv N) (hg : B ≤ gi) (hc : CAt W gi ci 5) (ho : Only (fun b => b = gi) W W2) (hu : CellsU W2 gi ci.size) (ha : ∃ cs', CAt W2 gi cs' 5 ∧ cs'.size = ci.size) : OvI B w W2 pv N where
 on := h.on.trans (ho.mono fun b e => by show B ≤ b; rw [show b = gi from e]; exact hg)
 row := fun i hi => by
  obtain ⟨g, vs, gj, cs, h1, h2, h3, h4, h5, h6, h7⟩ := h.row i hi
  have hne : g ≠ gi := cat_ne h2 hc (by decide)
  by_cases e : gj = gi
  ·subst e
   have e2 : cs = ci := by unfold CAt at h6 hc; rw [h6] at hc; cases hc; rfl
   subst e2
   obtain ⟨cs', h8, h9⟩ := ha
   exact ⟨g, vs, gj, cs', h1, h2.keep (ho.block g h2.lt hne), by rw [h9]; exact h3, h4, by rw [h9]; exact hu, h8, by rw [h9]; exact h7⟩
  ·refine ⟨g, vs, gj, cs, h1, h2.keep (ho.block g h2.lt hne), h3, h4, ⟨fun x hx => ?_, fun x => ?_⟩, h6.keep (ho.block gj h6.lt e), h7⟩
   ·obtain ⟨z, hz, q⟩ := h5.c x hx
    exact ⟨z, hz, (World.cell?_of_block (ho.block gj h6.lt e)).trans q⟩
   ·rw [(h6.keep (ho.block gj h6.lt e)).free]
theorem ll_ovI {B : Nat} {w : World} {v : Value} {Ls : List (List Nat)} {po : Option Addr} {n c : Nat} (hv : v = .slice po n c) (h : (v = .slice none 0 0 ∧ Ls = []) ∨ LL B w v Ls) (h8 : ∀ L ∈ Ls, ∀ z ∈ L, z < 256) : OvI B w w po Ls.length where
 on := Only.refl _ _
 row := fun i hi => by
  rcases h with ⟨_, h⟩ | ⟨g, vs, h1, _, h3, h4, h5⟩
  ·rw [h] at hi; simp at hi
  ·have hv2 : vs[i]? = some (vs[i]'(by rw [h4]; exact hi)) := Array.getElem?_eq_getElem _
   have hL : Ls[i]? = some Ls[i] := List.getElem?_eq_getElem hi
   obtain ⟨hb, gj, e, hc⟩ := h5 i _ _ hv2 hL
   have hsz : (Ls[i].map u8).toArray.size = Ls[i].length := by simp
   rw [hv] at h1
   cases h1
   refine ⟨g, vs, gj, (Ls[i].map u8).toArray, rfl, h3, by rw [hsz, ← e]; exact hv2, ?_, ⟨fun x hx => ?_, fun x => hc.free x⟩, hc, ?_⟩
   ·have := (own_ge hb gj (by rw [e]; rfl)).1; exact this
   ·rw [hsz] at hx
    exact ⟨Ls[i].getD x 0, get256 (h8 _ (List.mem_of_getElem? hL)) x hx, by rw [hc.cell]; simp [hx, u8]⟩
   ·rw [hsz]
    rcases hb.2 with ⟨e2, _⟩ | ⟨g2, cap, cur, e2, _, _, h6, h7, _⟩
    ·rw [e] at e2; cases e2
    ·exact Nat.le_trans h6 h7
theorem OvI.below {B : Nat} {w W W2 : World} {pv : Option Addr} {N : Nat} (h : OvI B w W pv N) (hb : Below W.heap.size W W2) : OvI B w W2 pv N where
 on := h.on.trans (Only.of_below hb)
 row := fun i hi => by
  obtain ⟨g, vs, gj, cs, h1, h2, h3, h4, h5, h6, h7⟩ := h.row i hi
  refine ⟨g, vs, gj, cs, h1, h2.below hb, h3, h4, ⟨fun x hx => ?_, fun x => (h6.below hb).free x⟩, h6.below hb, h7⟩
  obtain ⟨z, hz, q⟩ := h5.c x hx
  exact ⟨z, hz, (World.cell?_of_block (hb.block gj h6.lt)).trans q⟩
end Go.Proofs.YtopibkoklagceaaGreat

/- The document's Mend of shard: as the program's contract says. (Written by tools/gen_Zze.py.) -/
namespace Go.Proofs.YtopibkoklagceaaGreat
open Go Go.RowKit

/-- How a drive's file is, as a number from 0 on. -/
def stM (c : Cp) (f : List Nat) : Nat := if c.err = 0 then (if c.b = f then 1 else 3) else if c.err = 6 then 2 else 4
theorem stM_eq (c : Cp) (f : List Nat) : sttN c f = ((stM c f : Nat) : Int) := by
 unfold sttN stM
 split
 ·split <;> rfl
 ·split <;> rfl
theorem SL.run11 {w : World} {p : Option Addr} {n c : Nat} {x : List Nat} (h : SL w (.slice p n c) x) : (convert 22 9 (.slice p n c)).run Tryz.prog w = .ok (.string (ba x)) w := by
 obtain ⟨po, c', e, h1, _⟩ := h
 cases e
 exact h1.conv c
def stms (l : List Cp) (fs : List (List Nat)) : List Nat := (List.range l.length).map fun i => stM (l.getD i ⟨0, []⟩) (fs.getD i [])
theorem stms_len (l : List Cp) (fs : List (List Nat)) : (stms l fs).length = l.length := by simp [stms]
theorem stms_take {l : List Cp} {fs : List (List Nat)} {i : Nat} {x : Cp} {F : List Nat} (hx : l[i]? = some x) (hF : fs[i]? = some F) : (stms l fs).take (i + 1) = (stms l fs).take i ++ [stM x F] := by
 have hi : i < l.length := (List.getElem?_eq_some_iff.1 hx).1
 rw [List.take_add_one]
 congr 1
 have e : l[i] = x := (List.getElem?_eq_some_iff.1 hx).2
 simp [stms, hi, List.getD_eq_getElem?_getD, hF, e]
theorem stts_stms (l : List Cp) (fs : List (List Nat)) : stts l fs = (stms l fs).map fun n => ((n : Nat) : Int) := by
 unfold stts stms
 rw [List.map_map]
 apply List.map_congr_left
 intro i _
 exact stM_eq _ _
/-- What the document's Mend tells. -/
def RmU (w : World) (E : Int) (Ls : List (List Nat)) (ns : List Nat) (e : Ending) (w' : World) : Prop := ∃ u v, e = .returned (.tuple #[u, v, .int .i64 E]) ∧ Below w.heap.size w w' ∧ LR w' u Ls ∧ ∃ p c, v = .slice p ns.length c ∧ H.IntAt w' p ns.length (fun i => ns.getD i 0)
set_option maxRecDepth 100000 in
set_option maxHeartbeats 2000000 in
theorem rmend_bad (r : Rv) (hr : r.ok) (ps : Ps) (v : Value) (l : List Cv) (w : World) (hp : PL w r.pv ps) (hl : CL w v l) (hE : rdrE r ps (cps l) ≠ 0) : Calls Tryz.prog 22 #[v, .agg r.cs] w (RmU w (rdrE r ps (cps l)) [] []) := by
 have HRD := hid (fun (w' : World) (hb : Below w.heap.size w w') => rread11_any r hr ps v l w' (hp.below hb) (hl.below hb))
 obtain ⟨po, c, rfl, _⟩ := hl
 have HR := hid hr
 generalize rdrE r ps (cps l) = E at hE HRD ⊢
 have HE := hid hE
 have hE' : (E != 0) = true := by simpa using hE
 clear hr hp hE
 go_enter Tryz.func22, Tryz.ntmps22
 go_wp2_with (first
  | ((with_reducible refine wpList_boxR rfl _ rfl r.cs ?_ ?_); exact rfl; intro w1 g1 hc1 hb1 hg1; have HA := hid (RBox.mk' HR.out hc1); have HB := hid hb1; clear hc1 hb1)
  | ((with_reducible refine wpList_load_at 40 _ rfl ?_ g1 0 ?_ r.cs (.struct (Tryz.prog.fieldsOf 40)) ?_ underRec rfl ?_ ?_); exact rfl; exact rfl; exact HA.out.whole; (rw [HR.out.size]; exact sizeR))
  | (go_at_call 18; refine (HRD.out _ HB.out).mono ?_; rintro e w5 ⟨pq, cq, rfl, _, _, _, hb5⟩; have HB5 := hid (below_on HB.out hb5); clear hb5))
 go_ret3
 exact ⟨_, _, rfl, HB5.out, LR.nil _, none, 0, rfl, .inl rfl⟩
set_option maxRecDepth 100000 in
set_option maxHeartbeats 4000000 in
theorem rmend_good (r : Rv) (hr : r.ok) (ps : Ps) (v : Value) (l : List Cv) (w : World) (k m : Nat) (L : List Nat) (hp : PL w r.pv ps) (hl : CL w v l) (hE : rdrE r ps (cps l) = 0) (hL : rdrB r ps (cps l) = L) (hk : r.k = k) (hm : r.m = m) (h0 : 1 ≤ k) (h1 : 1 ≤ m) (h : k + m ≤ 16) (hn : L.length ≤ 65536) (h8 : ∀ z ∈ L, z < 256) (hll : l.length = k + m) :
  Calls Tryz.prog 22 #[v, .agg r.cs] w (RmU w 0 (fls k m L) (stms (cps l) (fls k m L))) := by
 have HRD := hid (fun (w' : World) (hb : Below w.heap.size w w') => rread11_any r hr ps v l w' (hp.below hb) (hl.below hb))
 rw [hE, hL] at HRD
 have HL := hid hl
 obtain ⟨po, c, rfl, _⟩ := hl
 have HR := hid hr
 have HLAY := hid (fun (W : World) (pq : Option Addr) (cq : Nat) (hb : BL W pq L) => rlay11_ok pq cq k m L W h0 h1 h hn hb h8)
 obtain ⟨fs, hfs⟩ : ∃ fs, fls k m L = fs := ⟨_, rfl⟩
 obtain ⟨N, hN⟩ : ∃ N, N = k + m := ⟨_, rfl⟩
 have HFS := hid (show fs.length = N by rw [← hfs, fls_len, hN])
 have HF8 := hid (show ∀ F ∈ fs, ∀ z ∈ F, z < 256 by
  intro F hF
  rw [← hfs] at hF
  unfold fls at hF
  obtain ⟨i, _, rfl⟩ := List.mem_map.1 hF
  exact flL_lt (shd_lt k L i))
 have hlN : l.length = N := by omega
 have HLN := hid hlN
 obtain ⟨ns, hns⟩ : ∃ ns, stms (cps l) fs = ns := ⟨_, rfl⟩
 have HNS := hid hns
 have HNL := hid (show ns.length = N by rw [← hns, stms_len, cps_len, hlN])
 rw [hfs, hns]
 rw [hfs] at HLAY
 have hN16 : N ≤ 16 := by omega
 have HK := hid hk
 have HM := hid hm
 unfold RdU at HRD
 rw [hlN] at HL HRD ⊢
 obtain ⟨nL, hnL⟩ : ∃ nL, L.length = nL := ⟨_, rfl⟩
 rw [hnL] at HRD HLAY
 clear hr hp hE hL hk hm h0 h1 h h8 hll hfs hN hlN hns hn
 go_enter Tryz.func22, Tryz.ntmps22
 go_wp2_with (first
  | ((with_reducible refine wpList_boxR rfl _ rfl r.cs ?_ ?_); exact rfl; intro w1 g1 hc1 hb1 hg1; have HA := hid (RBox.mk' HR.out hc1); have HB := hid hb1; clear hc1 hb1)
  | ((with_reducible refine wpList_load_at 40 _ rfl ?_ g1 0 ?_ r.cs (.struct (Tryz.prog.fieldsOf 40)) ?_ underRec rfl ?_ ?_); exact rfl; exact rfl; exact HA.out.whole; (rw [HR.out.size]; exact sizeR))
  | (go_at_call 18; refine (HRD.out _ HB.out).mono ?_; rintro e w5 ⟨pq, cq, rfl, hbl, _, _, hb5⟩; replace HA := hid (HA.out.below HR.out hb5); have HO := hid hbl; have HB5 := hid (below_on HB.out hb5); have c5 := HA.out.c5; have c6 := HA.out.c6; rw [HK.out] at c5; rw [HM.out] at c6; clear hbl hb5)
  | (go_at_call 7; refine (HLAY.out w5 pq cq HO.out).mono ?_; rintro e w6 ⟨v6, rfl, hv6, hb6⟩; have HV6 := hid hv6.lr; obtain ⟨pf, cf, rfl, _⟩ := id HV6.out; have HB6 := hid (below_on HB5.out hb6); clear hv6 hb6))
 rw [HFS.out] at HV6 ⊢
 clear HRD HLAY c5 c6 HO HA HK HM
 go_loopw [11, 12] (fun u q wr => ∃ i : Nat, i ≤ N ∧ q = .int .i64 (i : Int) ∧ ∃ po k c, u = .slice po k c ∧ Hid (H.BufI w6.heap.size wr u (ns.take i)) ∧ Hid (Below w6.heap.size w6 wr)) (fun _ q _ => ((N : Int) - intOf q).toNat)
 case atStart => exact ⟨0, Nat.zero_le _, rfl, none, 0, 0, rfl, H.BufI.nil _ _, Below.refl _ _⟩
 case round =>
  obtain ⟨i, hi, rfl, pa, ka, ca, rfl, HX, HB⟩ := hrel
  by_cases hlt : i < N
  ·have HLT := hid hlt
   have HTL := hid (show (ns.take i).length = i by rw [List.length_take, HNL.out]; omega)
   obtain ⟨⟨er, xv, xs⟩, hx⟩ : ∃ x, l[i]? = some x := ⟨_, List.getElem?_eq_getElem (by rw [HLN.out]; exact hlt)⟩
   obtain ⟨b, o, c', e1, -⟩ := HL.out.where hx
   rw [HLN.out] at e1
   cases e1
   obtain ⟨F, hF⟩ : ∃ F, fs[i]? = some F := ⟨_, List.getElem?_eq_getElem (by rw [HFS.out]; exact hlt)⟩
   obtain ⟨pf2, cf2, e2, hrow⟩ := HV6.out.below HB.out
   rw [HFS.out] at e2
   cases e2
   obtain ⟨bf, of, uu, rfl, hcu, hsu⟩ := hrow i F hF
   obtain ⟨pu, cu, euu, -⟩ := id hsu
   obtain ⟨nu, hnu⟩ : ∃ nu, F.length = nu := ⟨_, rfl⟩
   rw [hnu] at euu
   subst euu
   obtain ⟨k0, -, hok⟩ := HL.out.at (below_on HB6.out HB.out) hx
   obtain ⟨p1, c1, hxv, -⟩ := hok.sl
   simp only at hxv k0
   obtain ⟨m1, hm1⟩ : ∃ m, xs.length = m := ⟨_, rfl⟩
   rw [hm1] at hxv
   subst hxv
   have hse : ((ba xs).toList == (ba F).toList) = decide (xs = F) := by rw [lst_beq, lst_ba hok.byte, lst_ba (HF8.out F (List.mem_of_getElem? hF))]
   have HSF : Hid (∀ W, Below wr.heap.size wr W → (fun W => W.cell? ⟨b, o + i * 2 + 1, none⟩ = some (.slice p1 m1 c1) ∧ W.cell? ⟨bf, of + i, none⟩ = some (.slice pu nu cu) ∧ (convert 22 9 (.slice p1 m1 c1)).run Tryz.prog W = .ok (.string (ba xs)) W ∧ (convert 22 9 (.slice pu nu cu)).run Tryz.prog W = .ok (.string (ba F)) W) W) := hid (fun W hW => by
    obtain ⟨-, h2, hok2⟩ := HL.out.at (below_on HB6.out (below_on HB.out hW)) hx
    exact ⟨h2, (World.cell?_of_block (hW.block bf (World.block_lt_of_cell? _ _ hcu))).trans hcu, hok2.slv.run11, (hsu.below hW).run11⟩)
   have HBD := hid (below_drew wr)
   have hT := stms_take (l := cps l) (fs := fs) (i := i) (by rw [cps_get, hx]; rfl) hF
   rw [HNS.out] at hT
   have HT := hid hT
   have hi' : (i : Int) < (N : Int) := by omega
   have hw : IntKind.i64.wrap ((i : Int) + 1) = (i : Int) + 1 := IntWalk.i64_in _ ⟨by omega, by omega⟩
   clear hrow hcu hsu hok hx hF hnu hm1 hT
   by_cases h0 : er = 0
   ·subst h0
    by_cases hq : xs = F
    ·rw [decide_eq_true hq] at hse
     have HST := hid (show stM (Cv.cp ⟨0, .slice p1 m1 c1, xs⟩) F = 1 by unfold stM Cv.cp; simp [hq])
     clear hq
     go_wp2_with fail
     refine wp_region_held_drew (S := (fun W => W.cell? ⟨b, o + i * 2 + 1, none⟩ = some (.slice p1 m1 c1) ∧ W.cell? ⟨bf, of + i, none⟩ = some (.slice pu nu cu) ∧ (convert 22 9 (.slice p1 m1 c1)).run Tryz.prog W = .ok (.string (ba xs)) W ∧ (convert 22 9 (.slice pu nu cu)).run Tryz.prog W = .ok (.string (ba F)) W)) (by kernel_rfl) (HSF.out _ (below_drew _)) (fun hHeld => ?_)
     generalize wr.drew = wd at hHeld HBD ⊢
     obtain ⟨v6, w7, hr6, hi6, hg6⟩ := (HX.out.below HBD.out).push 1 (by have := HLT.out; rw [HTL.out]; omega) (by have := HB.out.size; have := HBD.out.size; omega)
     obtain ⟨p6, k6, c6, rfl⟩ := hi6.form3
     have HRUN := hid hr6
     simp only [Int.cast_ofNat_Int] at HRUN
     have HX6 := hid hi6
     have HB6 := hid (below_tr HB.out (below_tr (below_less HBD.out HB.out.size) (below_grown (below_less (below_al wd _) (by have := HB.out.size; have := HBD.out.size; omega)) hg6 (by have := HB.out.size; have := HBD.out.size; omega) (fun b hb => ((HX.out.below HBD.out).ge b hb).1))))
     clear hr6 hi6 hg6
     refine wpAnyH_take (i := 0) (oi := ⟨some 50, .move (.tmp 0), _, _, _, none⟩) (v := .slice (some ⟨b, o, none⟩) N c) rfl (by kernel_rfl) (by kernel_rfl) (by kernel_rfl) (fun _ _ _ h => h) (Or.inl ⟨by kernel_rfl, by intro W hW; obtain ⟨q0, q1, q2, q3⟩ := hW; go_simp⟩) hHeld ?_
     refine wpAnyH_take (i := 1) (oi := ⟨some 51, .move (.tmp 12), _, _, _, none⟩) (v := .int .i64 (i : Int)) rfl (by kernel_rfl) (by kernel_rfl) (by kernel_rfl) (fun _ _ _ h => h) (Or.inl ⟨by kernel_rfl, by intro W hW; obtain ⟨q0, q1, q2, q3⟩ := hW; go_simp⟩) hHeld ?_
     refine wpAnyH_take (i := 2) (oi := ⟨some 52, .indexAddr 35 (.tmp 50) (.tmp 51), _, _, _, none⟩) (v := .pointer (some ⟨b, o + i * 2, none⟩)) rfl (by kernel_rfl) (by kernel_rfl) (by kernel_rfl) (fun _ _ _ h => h) (Or.inl ⟨by kernel_rfl, by intro W hW; obtain ⟨q0, q1, q2, q3⟩ := hW; go_simp⟩) hHeld ?_
     refine wpAnyH_take (i := 3) (oi := ⟨some 53, .fieldAddr 59 (.tmp 52) 1, _, _, _, none⟩) (v := .pointer (some ⟨b, o + i * 2 + 1, none⟩)) rfl (by kernel_rfl) (by kernel_rfl) (by kernel_rfl) (fun _ _ _ h => h) (Or.inl ⟨by kernel_rfl, by intro W hW; obtain ⟨q0, q1, q2, q3⟩ := hW; go_simp⟩) hHeld ?_
     refine wpAnyH_take (i := 4) (oi := ⟨some 54, .load 22 (.tmp 53), _, _, _, none⟩) (v := .slice p1 m1 c1) rfl (by kernel_rfl) (by kernel_rfl) (by kernel_rfl) (fun _ _ _ h => h) (Or.inl ⟨by kernel_rfl, by intro W hW; obtain ⟨q0, q1, q2, q3⟩ := hW; go_simp⟩) hHeld ?_
     refine wpAnyH_take (i := 5) (oi := ⟨some 55, .convert 22 9 (.tmp 54), _, _, _, none⟩) (v := .string (ba xs)) rfl (by kernel_rfl) (by kernel_rfl) (by kernel_rfl) (fun _ _ _ h => h) (Or.inl ⟨by kernel_rfl, by intro W hW; obtain ⟨q0, q1, q2, q3⟩ := hW; go_simp⟩) hHeld ?_
     refine wpAnyH_take (i := 6) (oi := ⟨some 56, .move (.tmp 9), _, _, _, none⟩) (v := .slice (some ⟨bf, of, none⟩) N cf) rfl (by kernel_rfl) (by kernel_rfl) (by kernel_rfl) (fun _ _ _ h => h) (Or.inl ⟨by kernel_rfl, by intro W hW; obtain ⟨q0, q1, q2, q3⟩ := hW; go_simp⟩) hHeld ?_
     refine wpAnyH_take (i := 7) (oi := ⟨some 57, .move (.tmp 12), _, _, _, none⟩) (v := .int .i64 (i : Int)) rfl (by kernel_rfl) (by kernel_rfl) (by kernel_rfl) (fun _ _ _ h => h) (Or.inl ⟨by kernel_rfl, by intro W hW; obtain ⟨q0, q1, q2, q3⟩ := hW; go_simp⟩) hHeld ?_
     refine wpAnyH_take (i := 8) (oi := ⟨some 58, .indexAddr 24 (.tmp 56) (.tmp 57), _, _, _, none⟩) (v := .pointer (some ⟨bf, of + i, none⟩)) rfl (by kernel_rfl) (by kernel_rfl) (by kernel_rfl) (fun _ _ _ h => h) (Or.inl ⟨by kernel_rfl, by intro W hW; obtain ⟨q0, q1, q2, q3⟩ := hW; go_simp⟩) hHeld ?_
     refine wpAnyH_take (i := 9) (oi := ⟨some 59, .load 22 (.tmp 58), _, _, _, none⟩) (v := .slice pu nu cu) rfl (by kernel_rfl) (by kernel_rfl) (by kernel_rfl) (fun _ _ _ h => h) (Or.inl ⟨by kernel_rfl, by intro W hW; obtain ⟨q0, q1, q2, q3⟩ := hW; go_simp⟩) hHeld ?_
     refine wpAnyH_take (i := 10) (oi := ⟨some 60, .convert 22 9 (.tmp 59), _, _, _, none⟩) (v := .string (ba F)) rfl (by kernel_rfl) (by kernel_rfl) (by kernel_rfl) (fun _ _ _ h => h) (Or.inl ⟨by kernel_rfl, by intro W hW; obtain ⟨q0, q1, q2, q3⟩ := hW; go_simp⟩) hHeld ?_
     refine wpAnyH_take (i := 11) (oi := ⟨some 61, .binOp .eql 9 (.tmp 55) (.tmp 60) 9, _, _, _, none⟩) (v := .bool true) rfl (by kernel_rfl) (by kernel_rfl) (by kernel_rfl) (fun _ _ _ h => h) (Or.inl ⟨by kernel_rfl, by intro W hW; obtain ⟨q0, q1, q2, q3⟩ := hW; go_simp⟩) hHeld ?_
     refine wpAnyH_done (by kernel_rfl) ?_ _
     simp only [Act.put, List.setIfInBounds_toArray, List.set_cons_zero, List.set_cons_succ]
     clear hHeld
     go_wp2_with (at_builtin; refine wpList_append_run _ _ 47 47 rfl rfl _ _ _ rfl rfl HRUN.out ?_)
     go_roundw
     case rel => exact ⟨i + 1, hlt, by congr 1, p6, k6, c6, rfl, (by rw [HT.out, HST.out]; exact HX6.out), HB6⟩
     case measure => simp only [intOf]; omega
    ·rw [decide_eq_false hq] at hse
     have HST := hid (show stM (Cv.cp ⟨0, .slice p1 m1 c1, xs⟩) F = 3 by unfold stM Cv.cp; simp [hq])
     clear hq
     go_wp2_with fail
     refine wp_region_held_drew (S := (fun W => W.cell? ⟨b, o + i * 2 + 1, none⟩ = some (.slice p1 m1 c1) ∧ W.cell? ⟨bf, of + i, none⟩ = some (.slice pu nu cu) ∧ (convert 22 9 (.slice p1 m1 c1)).run Tryz.prog W = .ok (.string (ba xs)) W ∧ (convert 22 9 (.slice pu nu cu)).run Tryz.prog W = .ok (.string (ba F)) W)) (by kernel_rfl) (HSF.out _ (below_drew _)) (fun hHeld => ?_)
     generalize wr.drew = wd at hHeld HBD ⊢
     obtain ⟨v6, w7, hr6, hi6, hg6⟩ := (HX.out.below HBD.out).push 3 (by have := HLT.out; rw [HTL.out]; omega) (by have := HB.out.size; have := HBD.out.size; omega)
     obtain ⟨p6, k6, c6, rfl⟩ := hi6.form3
     have HRUN := hid hr6
     simp only [Int.cast_ofNat_Int] at HRUN
     have HX6 := hid hi6
     have HB6 := hid (below_tr HB.out (below_tr (below_less HBD.out HB.out.size) (below_grown (below_less (below_al wd _) (by have := HB.out.size; have := HBD.out.size; omega)) hg6 (by have := HB.out.size; have := HBD.out.size; omega) (fun b hb => ((HX.out.below HBD.out).ge b hb).1))))
     clear hr6 hi6 hg6
     refine wpAnyH_take (i := 0) (oi := ⟨some 50, .move (.tmp 0), _, _, _, none⟩) (v := .slice (some ⟨b, o, none⟩) N c) rfl (by kernel_rfl) (by kernel_rfl) (by kernel_rfl) (fun _ _ _ h => h) (Or.inl ⟨by kernel_rfl, by intro W hW; obtain ⟨q0, q1, q2, q3⟩ := hW; go_simp⟩) hHeld ?_
     refine wpAnyH_take (i := 1) (oi := ⟨some 51, .move (.tmp 12), _, _, _, none⟩) (v := .int .i64 (i : Int)) rfl (by kernel_rfl) (by kernel_rfl) (by kernel_rfl) (fun _ _ _ h => h) (Or.inl ⟨by kernel_rfl, by intro W hW; obtain ⟨q0, q1, q2, q3⟩ := hW; go_simp⟩) hHeld ?_
     refine wpAnyH_take (i := 2) (oi := ⟨some 52, .indexAddr 35 (.tmp 50) (.tmp 51), _, _, _, none⟩) (v := .pointer (some ⟨b, o + i * 2, none⟩)) rfl (by kernel_rfl) (by kernel_rfl) (by kernel_rfl) (fun _ _ _ h => h) (Or.inl ⟨by kernel_rfl, by intro W hW; obtain ⟨q0, q1, q2, q3⟩ := hW; go_simp⟩) hHeld ?_
     refine wpAnyH_take (i := 3) (oi := ⟨some 53, .fieldAddr 59 (.tmp 52) 1, _, _, _, none⟩) (v := .pointer (some ⟨b, o + i * 2 + 1, none⟩)) rfl (by kernel_rfl) (by kernel_rfl) (by kernel_rfl) (fun _ _ _ h => h) (Or.inl ⟨by kernel_rfl, by intro W hW; obtain ⟨q0, q1, q2, q3⟩ := hW; go_simp⟩) hHeld ?_
     refine wpAnyH_take (i := 4) (oi := ⟨some 54, .load 22 (.tmp 53), _, _, _, none⟩) (v := .slice p1 m1 c1) rfl (by kernel_rfl) (by kernel_rfl) (by kernel_rfl) (fun _ _ _ h => h) (Or.inl ⟨by kernel_rfl, by intro W hW; obtain ⟨q0, q1, q2, q3⟩ := hW; go_simp⟩) hHeld ?_
     refine wpAnyH_take (i := 5) (oi := ⟨some 55, .convert 22 9 (.tmp 54), _, _, _, none⟩) (v := .string (ba xs)) rfl (by kernel_rfl) (by kernel_rfl) (by kernel_rfl) (fun _ _ _ h => h) (Or.inl ⟨by kernel_rfl, by intro W hW; obtain ⟨q0, q1, q2, q3⟩ := hW; go_simp⟩) hHeld ?_
     refine wpAnyH_take (i := 6) (oi := ⟨some 56, .move (.tmp 9), _, _, _, none⟩) (v := .slice (some ⟨bf, of, none⟩) N cf) rfl (by kernel_rfl) (by kernel_rfl) (by kernel_rfl) (fun _ _ _ h => h) (Or.inl ⟨by kernel_rfl, by intro W hW; obtain ⟨q0, q1, q2, q3⟩ := hW; go_simp⟩) hHeld ?_
     refine wpAnyH_take (i := 7) (oi := ⟨some 57, .move (.tmp 12), _, _, _, none⟩) (v := .int .i64 (i : Int)) rfl (by kernel_rfl) (by kernel_rfl) (by kernel_rfl) (fun _ _ _ h => h) (Or.inl ⟨by kernel_rfl, by intro W hW; obtain ⟨q0, q1, q2, q3⟩ := hW; go_simp⟩) hHeld ?_
     refine wpAnyH_take (i := 8) (oi := ⟨some 58, .indexAddr 24 (.tmp 56) (.tmp 57), _, _, _, none⟩) (v := .pointer (some ⟨bf, of + i, none⟩)) rfl (by kernel_rfl) (by kernel_rfl) (by kernel_rfl) (fun _ _ _ h => h) (Or.inl ⟨by kernel_rfl, by intro W hW; obtain ⟨q0, q1, q2, q3⟩ := hW; go_simp⟩) hHeld ?_
     refine wpAnyH_take (i := 9) (oi := ⟨some 59, .load 22 (.tmp 58), _, _, _, none⟩) (v := .slice pu nu cu) rfl (by kernel_rfl) (by kernel_rfl) (by kernel_rfl) (fun _ _ _ h => h) (Or.inl ⟨by kernel_rfl, by intro W hW; obtain ⟨q0, q1, q2, q3⟩ := hW; go_simp⟩) hHeld ?_
     refine wpAnyH_take (i := 10) (oi := ⟨some 60, .convert 22 9 (.tmp 59), _, _, _, none⟩) (v := .string (ba F)) rfl (by kernel_rfl) (by kernel_rfl) (by kernel_rfl) (fun _ _ _ h => h) (Or.inl ⟨by kernel_rfl, by intro W hW; obtain ⟨q0, q1, q2, q3⟩ := hW; go_simp⟩) hHeld ?_
     refine wpAnyH_take (i := 11) (oi := ⟨some 61, .binOp .eql 9 (.tmp 55) (.tmp 60) 9, _, _, _, none⟩) (v := .bool false) rfl (by kernel_rfl) (by kernel_rfl) (by kernel_rfl) (fun _ _ _ h => h) (Or.inl ⟨by kernel_rfl, by intro W hW; obtain ⟨q0, q1, q2, q3⟩ := hW; go_simp⟩) hHeld ?_
     refine wpAnyH_done (by kernel_rfl) ?_ _
     simp only [Act.put, List.setIfInBounds_toArray, List.set_cons_zero, List.set_cons_succ]
     clear hHeld
     go_wp2_with (at_builtin; refine wpList_append_run _ _ 47 47 rfl rfl _ _ _ rfl rfl HRUN.out ?_)
     go_roundw
     case rel => exact ⟨i + 1, hlt, by congr 1, p6, k6, c6, rfl, (by rw [HT.out, HST.out]; exact HX6.out), HB6⟩
     case measure => simp only [intOf]; omega
   ·have e0 : (er == 0) = false := by simpa using h0
    by_cases h6 : er = 6
    ·subst h6
     have HST := hid (show stM (Cv.cp ⟨6, .slice p1 m1 c1, xs⟩) F = 2 by unfold stM Cv.cp; simp)
     clear h0 hse
     obtain ⟨v6, w7, hr6, hi6, hg6⟩ := HX.out.push 2 (by have := HLT.out; rw [HTL.out]; omega) HB.out.size
     obtain ⟨p6, k6, c6, rfl⟩ := hi6.form3
     have HRUN := hid hr6
     simp only [Int.cast_ofNat_Int] at HRUN
     have HX6 := hid hi6
     have HB6 := hid (below_tr HB.out (below_grown (below_less (below_al wr _) HB.out.size) hg6 HB.out.size (fun b hb => (HX.out.ge b hb).1)))
     clear hr6 hi6 hg6 HSF HBD
     go_wp2_with (at_builtin; refine wpList_append_run _ _ 47 47 rfl rfl _ _ _ rfl rfl HRUN.out ?_)
     go_roundw
     case rel => exact ⟨i + 1, hlt, by congr 1, p6, k6, c6, rfl, (by rw [HT.out, HST.out]; exact HX6.out), HB6⟩
     case measure => simp only [intOf]; omega
    ·have e6 : (er == 6) = false := by simpa using h6
     have HST := hid (show stM (Cv.cp ⟨er, .slice p1 m1 c1, xs⟩) F = 4 by unfold stM Cv.cp; simp [h0, h6])
     clear h0 h6 hse
     obtain ⟨v6, w7, hr6, hi6, hg6⟩ := HX.out.push 4 (by have := HLT.out; rw [HTL.out]; omega) HB.out.size
     obtain ⟨p6, k6, c6, rfl⟩ := hi6.form3
     have HRUN := hid hr6
     simp only [Int.cast_ofNat_Int] at HRUN
     have HX6 := hid hi6
     have HB6 := hid (below_tr HB.out (below_grown (below_less (below_al wr _) HB.out.size) hg6 HB.out.size (fun b hb => (HX.out.ge b hb).1)))
     clear hr6 hi6 hg6 HSF HBD
     go_wp2_with (at_builtin; refine wpList_append_run _ _ 47 47 rfl rfl _ _ _ rfl rfl HRUN.out ?_)
     go_roundw
     case rel => exact ⟨i + 1, hlt, by congr 1, p6, k6, c6, rfl, (by rw [HT.out, HST.out]; exact HX6.out), HB6⟩
     case measure => simp only [intOf]; omega
  ·have hq : ¬ (i : Int) < (N : Int) := by omega
   have hk' : i = N := by omega
   go_wp2
   go_ret3
   have hX := HX.out
   rw [List.take_of_length_le (by rw [HNL.out]; omega)] at hX
   obtain ⟨p9, c9, e9, h9⟩ := hX.ints
   exact ⟨_, _, rfl, below_on HB6.out HB.out, HV6.out.below HB.out, p9, c9, e9, h9⟩
/-- What the document's Mend tells. -/
theorem rmend11_any (r : Rv) (hr : r.ok) (ps : Ps) (v : Value) (l : List Cv) (w : World) (hp : PL w r.pv ps) (hl : CL w v l) : Calls Tryz.prog 22 #[v, .agg r.cs] w (RmU w (rdrE r ps (cps l)) (if rdrE r ps (cps l) = 0 then fls r.k.toNat r.m.toNat (rdrB r ps (cps l)) else []) (if rdrE r ps (cps l) = 0 then stms (cps l) (fls r.k.toNat r.m.toNat (rdrB r ps (cps l))) else [])) := by
 by_cases hE : rdrE r ps (cps l) = 0
 ·rw [if_pos hE, if_pos hE, hE]
  have hq : mayB r ps l.length = true := by
   unfold rdrE at hE
   rw [cps_len] at hE
   cases q : mayB r ps l.length
   ·rw [q] at hE; simp at hE
   ·rfl
  obtain ⟨k, m, s, hk, hm, hs, h0, h1, h, hs', hn⟩ := mayB_parts hq
  have e1 : whE k m s r.sum (cps l) = 0 := by
   unfold rdrE at hE
   rw [cps_len, hq, hk, hm, hs] at hE
   simpa using hE
  have e2 : rdrB r ps (cps l) = jnB k m s (cps l) := by
   unfold rdrB
   rw [cps_len, hq, hk, hm, hs]
   simp only [if_true, Int.toNat_natCast]
   unfold whB
   rw [if_pos e1]
  rw [hk, hm]
  simp only [Int.toNat_natCast]
  exact rmend_good r hr ps v l w k m _ hp hl hE rfl hk hm h0 h1 h (by rw [e2, jnB_len]; exact hs') (by rw [e2]; exact jnB_lt _ _ _ _) hn
 ·rw [if_neg hE, if_neg hE]
  exact rmend_bad r hr ps v l w hp hl hE
end Go.Proofs.YtopibkoklagceaaGreat
