/- Texts laid into one, cut to what is needed: the remark ahead of each part says what is proved there. -/
import Derived.Test.YtdohmokhfajjpaaGreatDoorPbi
import Derived.Test.YtdohmokhfajjpaaGreatDoorPan
import Derived.Test.YtdohmokhfajjpaaGreatDoorPal
import Derived.Test.YtdohmokhfajjpaaGreatDoorPam
import Derived.Test.YtdohmokhfajjpaaGreatDoorPbg
import Derived.Test.YtdohmokhfajjpaaGreatDoorPaf
import Derived.Test.YtdohmokhfajjpaaGreatDoorPaq
import Derived.Test.YtdohmokhfajjpaaGreatDoorPbb
import Derived.Test.YtdohmokhfajjpaaGreatDoorPaw
import Derived.BigQuiet
/- Contracts of CopyBytes, OverBytes and ApartBytes of the statements' kit, over lists each of which has no room at all or lies whole in a block of its own: the last returns true, and touches no block that was there but those. -/
namespace Go.Proofs.YtdohmokhfajjpaaGreatDoor.U
open Go.RowKit

/-- n lists: each has no room at all, or lies whole in a block of its own. -/
structure Ap (B : Nat) (w : World) (v : Value) (n : Nat) (A : Nat → Option Addr) (L C G : Nat → Nat) (X : Nat → Nat → K) : Prop where
 top : w.ownsRow B 22 1 v n (vals n fun i => .slice (A i) (L i) (C i))
 row : ∀ i, i < n → C i ≠ 0 → A i = some ⟨G i, 0, none⟩ ∧ w.ownsRow B 5 1 (.slice (some ⟨G i, 0, none⟩) (C i) (C i)) (C i) (vals (C i) fun j => kv (X i j))
 inj : ∀ i j, i < n → j < n → C i ≠ 0 → C j ≠ 0 → G i = G j → i = j
theorem Ap.stay {B : Nat} {w w' : World} {v : Value} {n : Nat} {A : Nat → Option Addr} {L C G : Nat → Nat} {X : Nat → Nat → K} (h : Ap B w v n A L C G X) (hb : Below w.heap.size w w') : Ap B w' v n A L C G X where
 top := own_keepV h.top (fun b q => hb.block b (h.top.lt b q).2)
 row := fun i hi hc => ⟨(h.row i hi hc).1, own_keep (h.row i hi hc).2 (hb.block _ (own_ge (h.row i hi hc).2).2)⟩
 inj := h.inj
end Go.Proofs.YtdohmokhfajjpaaGreatDoor.U

/- Split and Length, the program's and the document's own, in one form for all inputs; lists of lists put together for ApartBytes. -/
namespace Go.Proofs.YtdohmokhfajjpaaGreatDoor.U
open Go.RowKit

def lenV (s k : Int) : Int := if s < 0 ∨ 65536 < s ∨ k < 1 ∨ 16 ≤ k then 0 else ((lgt s.toNat k.toNat : Nat) : Int)
theorem lentK_val (n : Nat) (x : Nat → K) (i : Nat) : (lentK n x i).val = lentN n (fun j => (x j).val) i := by
 unfold lentK lentN
 by_cases e : i < n
 ·rw [if_pos e, if_pos e]
 ·rw [if_neg e, if_neg e, kb_val _ (by omega)]
theorem Mk.lent {w w1 : World} {g n : Nat} {x : Nat → K} (h : Mk w w1 g (n + 3) (lentK n x)) : RowAt w1 g 0 (n + 3) (lentN n fun j => (x j).val) := fun i hi => by
 rw [Nat.zero_add, ← lentK_val]; exact own_cell (V := fun c => kv (lentK n x c)) h.row i hi
end Go.Proofs.YtdohmokhfajjpaaGreatDoor.U

/- The document's Name, Lay and may of shard: as the program's contracts say; what was there is as it was. -/
namespace Go.Proofs.YtdohmokhfajjpaaGreatDoor
open Go Go.RowKit

/-- Lists of bytes that append has made. -/
def LX (B : Nat) (w : World) (v : Value) (Ls : List (List Nat)) : Prop := ∃ us : List Value, XB 22 1 B w v (us.map fun u => [u]) ∧ us.length = Ls.length ∧ ∀ (i : Nat) (u : Value) (L : List Nat), us[i]? = some u → Ls[i]? = some L → Buf B w u L
theorem LX.nil (B : Nat) (w : World) : LX B w (.slice none 0 0) [] := ⟨[], XB.nil _ _ _ _, rfl, fun i u L h => by simp at h⟩
theorem LX.form {B : Nat} {w : World} {v : Value} {Ls : List (List Nat)} (h : LX B w v Ls) : ∃ po n c, v = .slice po n c := by
 obtain ⟨us, h1, _⟩ := h
 obtain ⟨po, c, e, _⟩ := h1.form
 exact ⟨po, _, c, e⟩
theorem LX.below {B : Nat} {w w' : World} {v : Value} {Ls : List (List Nat)} (h : LX B w v Ls) (hb : Below w.heap.size w w') : LX B w' v Ls := by
 obtain ⟨us, h1, h2, h3⟩ := h
 exact ⟨us, h1.below hb, h2, fun i u L hu hL => (h3 i u L hu hL).below hb⟩
theorem LX.base {B C : Nat} {w : World} {v : Value} {Ls : List (List Nat)} (h : LX B w v Ls) (hC : C ≤ B) : LX C w v Ls := by
 obtain ⟨us, h1, h2, h3⟩ := h
 exact ⟨us, h1.base hC, h2, fun i u L hu hL => own_base (h3 i u L hu hL) hC⟩
end Go.Proofs.YtdohmokhfajjpaaGreatDoor

/- Contracts of OverBytes and SameLists over lists of bytes, the document's Lay of any numbers, and the walk of ShardLays. -/
namespace Go.Proofs.YtdohmokhfajjpaaGreatDoor
open Go Go.RowKit

/-- Lists of bytes that can be read. -/
def LR (w : World) (v : Value) (Ls : List (List Nat)) : Prop := ∃ po c, v = .slice po Ls.length c ∧ ∀ i L, Ls[i]? = some L → ∃ b o u, po = some ⟨b, o, none⟩ ∧ w.cell? ⟨b, o + i, none⟩ = some u ∧ SL w u L
theorem LR.nil (w : World) : LR w (.slice none 0 0) [] := ⟨none, 0, rfl, fun i L h => by simp at h⟩
theorem LR.below {w w' : World} {v : Value} {Ls : List (List Nat)} (h : LR w v Ls) (hb : Below w.heap.size w w') : LR w' v Ls := by
 obtain ⟨po, c, h1, h2⟩ := h
 refine ⟨po, c, h1, fun i L hL => ?_⟩
 obtain ⟨b, o, u, e, hc, hs⟩ := h2 i L hL
 exact ⟨b, o, u, e, (World.cell?_of_block (hb.block b (World.block_lt_of_cell? _ _ hc))).trans hc, hs.below hb⟩
theorem LL.lr {B : Nat} {w : World} {v : Value} {Ls : List (List Nat)} (h : LL B w v Ls) : LR w v Ls := by
 obtain ⟨g, vs, h1, _, h3, h4, h5⟩ := h
 refine ⟨_, _, h1, fun i L hL => ?_⟩
 have hi : i < vs.size := by rw [h4]; exact (List.getElem?_eq_some_iff.1 hL).1
 have hv : vs[i]? = some vs[i] := Array.getElem?_eq_getElem hi
 exact ⟨g, 0, vs[i], rfl, by rw [Nat.zero_add, h3.cell]; exact hv, (h5 i _ L hv hL).1.sl⟩
set_option maxRecDepth 100000 in
set_option maxHeartbeats 2000000 in
theorem sameL11 (u v : Value) (Ls : List (List Nat)) (w : World) (hu : LR w u Ls) (hv : LR w v Ls) (h8 : ∀ L ∈ Ls, ∀ z ∈ L, z < 256) (hn : Ls.length ≤ 1000) : Calls Tryz.prog 12 #[u, v] w fun e w' => e = .returned (.bool true) ∧ Below w.heap.size w w' := by
 have HU := hid hu
 have HV := hid hv
 have H8 := hid h8
 obtain ⟨po, c, rfl, _⟩ := hu
 obtain ⟨qo, d, rfl, _⟩ := hv
 obtain ⟨N, hN⟩ : ∃ N, Ls.length = N := ⟨_, rfl⟩
 have HN := hid hN
 rw [hN] at HU HV ⊢
 have hN2 : N ≤ 1000 := by omega
 clear hN hn h8
 go_enter Tryz.func12, Tryz.ntmps12
 go_wp2
 go_loopw [5] (fun q wr => ∃ i : Nat, i ≤ N ∧ q = .int .i64 (i : Int) ∧ Hid (Below w.heap.size w wr)) (fun q _ => (1000000 - intOf q).toNat)
 case atStart => exact ⟨0, Nat.zero_le _, rfl, Below.refl _ _⟩
 case round =>
  obtain ⟨i, hi, rfl, HB⟩ := hrel
  by_cases hlt : i < N
  ·obtain ⟨L, hL⟩ : ∃ L, Ls[i]? = some L := ⟨_, List.getElem?_eq_getElem (by rw [HN.out]; exact hlt)⟩
   have hu2 := HU.out.below HB.out
   have hv2 := HV.out.below HB.out
   obtain ⟨p1, c1, e1, h1⟩ := hu2
   obtain ⟨p2, c2, e2, h2⟩ := hv2
   rw [HN.out] at e1 e2
   cases e1
   cases e2
   obtain ⟨b1, o1, u1, rfl, q1, s1⟩ := h1 i L hL
   obtain ⟨b2, o2, u2, rfl, q2, s2⟩ := h2 i L hL
   obtain ⟨y1, x1, f1, _, _⟩ := id s1
   obtain ⟨y2, x2, f2, _, _⟩ := id s2
   subst f1 f2
   have HSM := hid (fun n => sameB_any (s1.below (below_drewN wr n)) (s2.below (below_drewN wr n)) (H8.out L (List.mem_of_getElem? hL)) (H8.out L (List.mem_of_getElem? hL)))
   rw [show decide (L = L) = true from by simp] at HSM
   have hi' : (i : Int) < (N : Int) := by omega
   have hw : IntKind.i64.wrap ((i : Int) + 1) = (i : Int) + 1 := IntWalk.i64_in _ ⟨by omega, by omega⟩
   have HD := hid (fun n => below_on HB.out (below_drewN wr n))
   clear h1 h2 s1 s2 hL
   go_wp2_with fail
   have hHeld : (fun W' : World => W'.cell? ⟨b1, o1 + i, none⟩ = some (.slice y1 L.length x1) ∧ W'.cell? ⟨b2, o2 + i, none⟩ = some (.slice y2 L.length x2)) wr.drew := ⟨q1, q2⟩
   clear q1 q2 HU HV
   refine wp_region_held_drew (S := (fun W' : World => W'.cell? ⟨b1, o1 + i, none⟩ = some (.slice y1 L.length x1) ∧ W'.cell? ⟨b2, o2 + i, none⟩ = some (.slice y2 L.length x2))) (by kernel_rfl) hHeld ?_
   clear hHeld
   intro hHeld
   refine wpAnyH_take (i := 0) (oi := ⟨some 17, .move (.tmp 0), _, _, _, none⟩) (v := .slice (some ⟨b1, o1, none⟩) N c) rfl (by kernel_rfl) (by kernel_rfl) (by kernel_rfl) (fun _ _ _ h => h) (Or.inl ⟨by kernel_rfl, by intro W hW; obtain ⟨q0, q1⟩ := hW; go_simp⟩) hHeld ?_
   refine wpAnyH_take (i := 1) (oi := ⟨some 18, .move (.tmp 5), _, _, _, none⟩) (v := .int .i64 (i : Int)) rfl (by kernel_rfl) (by kernel_rfl) (by kernel_rfl) (fun _ _ _ h => h) (Or.inl ⟨by kernel_rfl, by intro W hW; obtain ⟨q0, q1⟩ := hW; go_simp⟩) hHeld ?_
   refine wpAnyH_take (i := 2) (oi := ⟨some 19, .indexAddr 25 (.tmp 17) (.tmp 18), _, _, _, none⟩) (v := .pointer (some ⟨b1, o1 + i, none⟩)) rfl (by kernel_rfl) (by kernel_rfl) (by kernel_rfl) (fun _ _ _ h => h) (Or.inl ⟨by kernel_rfl, by intro W hW; obtain ⟨q0, q1⟩ := hW; go_simp⟩) hHeld ?_
   refine wpAnyH_take (i := 3) (oi := ⟨some 20, .load 22 (.tmp 19), _, _, _, none⟩) (v := .slice y1 L.length x1) rfl (by kernel_rfl) (by kernel_rfl) (by kernel_rfl) (fun _ _ _ h => h) (Or.inl ⟨by kernel_rfl, by intro W hW; obtain ⟨q0, q1⟩ := hW; go_simp⟩) hHeld ?_
   refine wpAnyH_take (i := 4) (oi := ⟨some 21, .move (.tmp 1), _, _, _, none⟩) (v := .slice (some ⟨b2, o2, none⟩) N d) rfl (by kernel_rfl) (by kernel_rfl) (by kernel_rfl) (fun _ _ _ h => h) (Or.inl ⟨by kernel_rfl, by intro W hW; obtain ⟨q0, q1⟩ := hW; go_simp⟩) hHeld ?_
   refine wpAnyH_take (i := 5) (oi := ⟨some 22, .move (.tmp 5), _, _, _, none⟩) (v := .int .i64 (i : Int)) rfl (by kernel_rfl) (by kernel_rfl) (by kernel_rfl) (fun _ _ _ h => h) (Or.inl ⟨by kernel_rfl, by intro W hW; obtain ⟨q0, q1⟩ := hW; go_simp⟩) hHeld ?_
   refine wpAnyH_take (i := 6) (oi := ⟨some 23, .indexAddr 25 (.tmp 21) (.tmp 22), _, _, _, none⟩) (v := .pointer (some ⟨b2, o2 + i, none⟩)) rfl (by kernel_rfl) (by kernel_rfl) (by kernel_rfl) (fun _ _ _ h => h) (Or.inl ⟨by kernel_rfl, by intro W hW; obtain ⟨q0, q1⟩ := hW; go_simp⟩) hHeld ?_
   refine wpAnyH_take (i := 7) (oi := ⟨some 24, .load 22 (.tmp 23), _, _, _, none⟩) (v := .slice y2 L.length x2) rfl (by kernel_rfl) (by kernel_rfl) (by kernel_rfl) (fun _ _ _ h => h) (Or.inl ⟨by kernel_rfl, by intro W hW; obtain ⟨q0, q1⟩ := hW; go_simp⟩) hHeld ?_
   refine wpAnyH_ready (rs := [8]) (by kernel_rfl) (by simp) ?_
   refine AllReadyH.cons (o := ⟨some 25, .call { callee := .value (.func 11), args := #[.tmp 20, .tmp 24], argTypes := #[22, 22] }, _, _, _, none⟩) rfl (fun K hK => ?_) AllReadyH.nil
   refine step_call rfl 11 #[.slice y1 L.length x1, .slice y2 L.length x2] (by kernel_rfl) ((HSM.out 1).mono ?_)
   rintro e w9 ⟨rfl, hw9⟩
   have hw8 := hw9.symm
   subst hw8
   refine ⟨_, rfl, hK.out _ _ hHeld (fun hHeld => ?_)⟩
   clear hK K
   refine wpAnyH_take (i := 9) (oi := ⟨some 26, .unOp .not 4 (.tmp 25), _, _, _, none⟩) (v := .bool false) rfl (by kernel_rfl) (by kernel_rfl) (by kernel_rfl) (fun _ _ _ h => h) (Or.inl ⟨by kernel_rfl, by intro W hW; obtain ⟨q0, q1⟩ := hW; go_simp⟩) hHeld ?_
   refine wpAnyH_done (by kernel_rfl) ?_ _
   simp only [Act.put, List.setIfInBounds_toArray, List.set_cons_zero, List.set_cons_succ]
   have HB9 := hid (HD.out 1)
   clear hHeld HSM HD
   go_wp2
   go_roundw
   case rel => exact ⟨i + 1, hlt, by congr 1, HB9⟩
   case measure => simp [intOf]; omega
  ·have hq : ¬ (i : Int) < (N : Int) := by omega
   go_wp2
   go_ret
   exact ⟨rfl, HB.out⟩
/-- What the loop of OverBytes carries: only blocks from B on are turned, and each file is still a row of bytes. -/
structure OvI (B : Nat) (w W : World) (pv : Option Addr) (N : Nat) : Prop where
 on : Only (fun b => B ≤ b) w W
 row : ∀ i, i < N → ∃ (g : Nat) (vs : Array Value) (gj : Nat) (cs : Array Value), pv = some ⟨g, 0, none⟩ ∧ CAt W g vs 22 ∧ vs[i]? = some (.slice (some ⟨gj, 0, none⟩) cs.size cs.size) ∧ B ≤ gj ∧ CellsU W gj cs.size ∧ CAt W gj cs 5 ∧ cs.size ≤ maxLen
theorem OvI.below {B : Nat} {w W W2 : World} {pv : Option Addr} {N : Nat} (h : OvI B w W pv N) (hb : Below W.heap.size W W2) : OvI B w W2 pv N where
 on := h.on.trans (Only.of_below hb)
 row := fun i hi => by
  obtain ⟨g, vs, gj, cs, h1, h2, h3, h4, h5, h6, h7⟩ := h.row i hi
  refine ⟨g, vs, gj, cs, h1, h2.below hb, h3, h4, ⟨fun x hx => ?_, fun x => (h6.below hb).free x⟩, h6.below hb, h7⟩
  obtain ⟨z, hz, q⟩ := h5.c x hx
  exact ⟨z, hz, (World.cell?_of_block (hb.block gj h6.lt)).trans q⟩

end Go.Proofs.YtdohmokhfajjpaaGreatDoor

/- tally: which drives answer, and how many; SameBools. -/
namespace Go.Proofs.YtdohmokhfajjpaaGreatDoor
open Go Go.RowKit

/-- A copy's cells. -/
def cC (e : Int) (v : Value) : Array Value := #[i64 e, v]
theorem zeroCp : (Tryz.prog.info? 33).map (·.zero) = some (some (.agg (cC 0 (.slice none 0 0)))) := by kernel_rfl
theorem sizeCp : (Tryz.prog.info? 33).map (·.size) = some 2 := by kernel_rfl
theorem underCp : Tryz.prog.underlying 33 = some (.struct (Tryz.prog.fieldsOf 33)) := by kernel_rfl
theorem CAt.c0 {w : World} {g : Nat} {e : Int} {v : Value} (h : CAt w g (cC e v) 33) : w.cell? ⟨g, 0, none⟩ = some (i64 e) := h.cell 0
theorem CAt.c1 {w : World} {g : Nat} {e : Int} {v : Value} (h : CAt w g (cC e v) 33) : w.cell? ⟨g, 1, none⟩ = some v := h.cell 1
theorem cC_one (e : Int) (po : Option Addr) (n c : Nat) : (cC e (.slice po n c)).all (·.oneCell') = true := by simp [cC, show ∀ q : Int, (i64 q).oneCell' = true from fun _ => rfl, show ∀ (a : Option Addr) (n c : Nat), (Value.slice a n c).oneCell' = true from fun _ _ _ => rfl]
/-- A box of its own is written. -/
theorem ownX {w w1 w2 : World} {g : Nat} (hb : Below w.heap.size w w1) (hg : w.heap.size = g) (ho : Only (fun b => b = g) w1 w2) : Below w.heap.size w w2 := below_tr hb (ho.below hb.size (fun i e => by omega))
end Go.Proofs.YtdohmokhfajjpaaGreatDoor
