/- Texts laid into one: the remark ahead of each part says what is proved there. -/
import Derived.Test.YtfppmpfmafnfmaaXh
/- What a call leaves of two drives and of the document's since some moment. -/
namespace Go.Proofs.Ytfppmpfmafnfmaa
open Go Go.RowKit

/-- Since wr nothing has turned but in T and in new blocks; now the drives are these. -/
def Mid (w wr W : World) (a b a' b' : Dl) (Z ZR : Nat → Nat × Bool) (T : Nat → Prop) : Prop := ∃ T2, JB w W a b a' b' Z ZR T2 ∧ Only T wr W ∧ ∀ c, T2 c → T c ∨ wr.heap.size ≤ c
section
variable {w wr W W' : World} {a b a' b' a2 b2 a2' b2' : Dl} {Z ZR Z2 ZR2 : Nat → Nat × Bool} {T : Nat → Prop}
theorem Mid.start (h : JB w wr a b a' b' Z ZR T) : Mid w wr wr a b a' b' Z ZR T := ⟨T, h, Only.refl _ _, fun _ h => Or.inl h⟩
theorem Mid.next {T2 : Nat → Prop} (ho : Only T wr W) (hT : ∀ c, T2 c → T c ∨ wr.heap.size ≤ c) (hj : JB w W' a2 b2 a2' b2' Z2 ZR2 (grw T2 W W')) (ho2 : Only T2 W W') : Mid w wr W' a2 b2 a2' b2' Z2 ZR2 T :=
  ⟨_, hj, ho.then ho2 fun i hi h => (hT i h).elim id (fun e => by omega), fun c hc => hc.elim (hT c) (fun e => Or.inr (Nat.le_trans ho.size e.1))⟩
theorem Mid.below (h : Mid w wr W a b a' b' Z ZR T) (hb : Below W.heap.size W W') : Mid w wr W' a b a' b' Z ZR T := by
  obtain ⟨T2, hj, ho, hT⟩ := h
  exact ⟨T2, hj.below hb, ho.then (Only.of_below (S := fun _ => False) hb) (fun _ _ h => h.elim), hT⟩
theorem Mid.base {w0 : World} (h : Mid w wr W a b a' b' Z ZR T) (hb : Below w0.heap.size w0 wr) : Mid w w0 W a b a' b' Z ZR T := by
  obtain ⟨T2, hj, ho, hT⟩ := h
  exact ⟨T2, hj, (Only.of_below (S := T) hb).trans ho, fun c hc => (hT c hc).imp id (Nat.le_trans hb.size)⟩
theorem Mid.be (h : Mid w wr W a b a' b' Z ZR T) : Below w.heap.size w W := by obtain ⟨_, hj, _⟩ := h; exact hj.be
/-- A block is written that was made between W0 and wr. -/
theorem Mid.over {W0 : World} {g : Nat} (h : Mid w wr W a b a' b' Z ZR T) (hb : Below W0.heap.size W0 wr) (ho : Only (fun c => c = g) W W') (hg0 : W0.heap.size ≤ g) (hg1 : g < wr.heap.size) (hT : ¬ T g) (hw : w.heap.size ≤ W0.heap.size) : Mid w W0 W' a b a' b' Z ZR T := by
  obtain ⟨T2, hj, ho1, hT1⟩ := h
  exact ⟨T2, hj.frame ho (fun c hc h2 => by subst hc; exact (hT1 c h2).elim hT (fun e => by omega)) (fun c hc => by omega), ((Only.of_below (S := T) hb).trans ho1).then ho (fun i hi h => by omega), fun c hc => (hT1 c hc).imp id (Nat.le_trans hb.size)⟩
theorem Mid.only (h : Mid w wr W a b a' b' Z ZR T) : Only T wr W := by obtain ⟨_, _, ho, _⟩ := h; exact ho
theorem Mid.swap (h : Mid w wr W a b a' b' Z ZR T) : Mid w wr W b a b' a' Z ZR T := by obtain ⟨T2, hj, h2⟩ := h; exact ⟨T2, hj.swap, h2⟩
end
/-- What act leaves. -/
def ActAt (w wr : World) (a b a' b' : Dl) (T : Nat → Prop) (n : Nat) (e : Ending) (w' : World) : Prop :=
  e = .returned (.bool true) ∧ ∃ fu fu' d Z2 ZR2, Mid w wr w' ⟨a.p, fu, d⟩ b ⟨a'.p, fu', d⟩ b' Z2 ZR2 T ∧ Rel ⟨a.p, fu, d⟩ b ⟨a'.p, fu', d⟩ b' Z2 ZR2 ∧ d.few (n + 1)
/-- The variables of act. -/
def boxed (wr : World) (p q : Nat) (x : AV) : World := (wr.alloc (.cells #[ptr p, ptr q] 31)).alloc (.cells x.val 36)
theorem boxed_below (wr : World) (p q : Nat) (x : AV) : Below wr.heap.size wr (boxed wr p q x) := ((Below.refl _ _).alloc (Nat.le_refl _) _).alloc (by rw [size_al]; omega) _
theorem boxed_size (wr : World) (p q : Nat) (x : AV) : (boxed wr p q x).heap.size = wr.heap.size + 2 := by unfold boxed; rw [size_al, size_al]
def BxAt (wr W : World) (p q : Nat) (x : AV) : Prop := CAt W wr.heap.size #[ptr p, ptr q] 31 ∧ CAt W (wr.heap.size + 1) x.val 36
theorem boxed_at {wr W : World} {p q : Nat} {x : AV} {T : Nat → Prop} (hT : ∀ c, T c → c < wr.heap.size) (ho : Only T (boxed wr p q x) W) : BxAt wr W p q x := by
  have h1 : CAt (boxed wr p q x) wr.heap.size #[ptr p, ptr q] 31 := (CAt.made wr _ _).below ((Below.refl _ _).alloc (Nat.le_refl _) _)
  have h2 : CAt (boxed wr p q x) (wr.heap.size + 1) x.val 36 := by have := CAt.made (wr.alloc (.cells #[ptr p, ptr q] 31)) x.val 36; rw [size_al] at this; exact this
  have hs := boxed_size wr p q x
  exact ⟨h1.keep (ho.block _ (by omega) fun h => by have := hT _ h; omega), h2.keep (ho.block _ (by omega) fun h => by have := hT _ h; omega)⟩
/-- Bytes that were lent. -/
structure LnAt (W : World) (g : Nat) (bs : List Nat) : Prop where
  row : RowAt W g 0 (bs.length + 3) (lentN bs.length fun i => bs.getD i 0)
  free : ∀ i, W.frozen? ⟨g, i, none⟩ = false
  lt : g < W.heap.size
theorem LnAt.keep {W W' : World} {g : Nat} {bs : List Nat} (h : LnAt W g bs) (hk : W'.heap[g]? = W.heap[g]?) (hs : g < W'.heap.size) : LnAt W' g bs :=
  ⟨fun i hi => (World.cell?_of_block (w := W) hk).trans (h.row i hi), fun i => (World.frozen?_of_block (w := W) hk).trans (h.free i), hs⟩
theorem LnAt.only {W W' : World} {g B : Nat} {bs : List Nat} {T : Nat → Prop} (h : LnAt W g bs) (ho : Only T W W') (hT : ∀ c, T c → c < B) (hg : B ≤ g) : LnAt W' g bs :=
  h.keep (ho.block g h.lt fun k => by have := hT g k; omega) (Nat.lt_of_lt_of_le h.lt ho.size)
theorem LnAt.below {W W' : World} {g : Nat} {bs : List Nat} (h : LnAt W g bs) (hb : Below W.heap.size W W') : LnAt W' g bs := h.keep (hb.block g h.lt) (Nat.lt_of_lt_of_le h.lt hb.size)
theorem LnAt.bat {W : World} {g : Nat} {bs : List Nat} (h : LnAt W g bs) : BAt W (some ⟨g, 0, none⟩) bs := Or.inr ⟨_, rfl, fun i hi => by
  have := h.row i (by omega)
  rw [add_none, this]; unfold lentN; rw [if_pos hi]⟩
theorem LnAt.q8 {W : World} {g : Nat} {bs : List Nat} (h : LnAt W g bs) (h8 : ∀ y ∈ bs, y < 256) : CellsQ Q8 W g (bs.length + 3) :=
  ⟨fun i hi => ⟨u8 (lentN bs.length (fun i => bs.getD i 0) i), ⟨_, rfl, by
    unfold lentN; split
    · rename_i hl; exact h8 _ (by show bs.getD i 0 ∈ bs; rw [getD_in _ _ _ hl]; exact List.getElem_mem hl)
    · omega⟩, by have := h.row i hi; rw [Nat.zero_add] at this; exact this⟩, h.free⟩
theorem Row8.on {w w' : World} {v : Value} {bs : List Nat} (h : Row8 w v bs) (hb : Below w.heap.size w w') : Row8 w' v bs := by
  obtain ⟨B, h⟩ := h; exact ⟨B, ownsRow_keep h fun b hb' => hb.block b (own_ge h b hb').2⟩
theorem BAt.str {W : World} {po : Option Addr} {bs : List Nat} (h : BAt W po bs) : StrAt W po bs.length fun i => bs.getD i 0 := by
  rcases h with ⟨_, rfl⟩ | ⟨a, rfl, h⟩
  · exact Or.inl rfl
  · by_cases h0 : bs.length = 0
    · exact Or.inl h0
    · obtain ⟨b, o, rfl⟩ := plain_at a W (by have := h 0 (by omega); rw [add_zero'] at this; rw [this]; simp)
      exact Or.inr ⟨b, o, rfl, fun i hi => by have := h i hi; rw [add_none] at this; exact this⟩
theorem lent2 {W : World} {po : Option Addr} {bs : List Nat} (c : Nat) (h : BAt W po bs) (hn : bs.length ≤ 2000) :
    Calls Try.prog 44 #[.slice po bs.length c] W fun e W1 => ∃ g, e = .returned (.slice (some ⟨g, 0, none⟩) bs.length (bs.length + 3)) ∧ LnAt W1 g bs ∧ W.heap.size ≤ g ∧ Below W.heap.size W W1 :=
  (lent_any po bs.length c _ W (by omega) h.str).mono fun e W1 ⟨e1, hr⟩ => ⟨_, e1, ⟨hr.row, hr.free, by rw [hr.size]; omega⟩, Nat.le_refl _, hr.below⟩
end Go.Proofs.Ytfppmpfmafnfmaa

/- Contract of act of the statements: Sync, Rename, Delete, Turn. (Written by tools/gen_Kw.py.) -/
namespace Go.Proofs.Ytfppmpfmafnfmaa
open Go Go.RowKit
set_option maxHeartbeats 4000000 in
set_option maxRecDepth 100000 in
theorem act_sync {w wr : World} {a b a' b' : Dl} {Z ZR : Nat → Nat × Bool} {T : Nat → Prop} (h : JB w wr a b a' b' Z ZR T) (hr : Rel a b a' b' Z ZR) {n : Nat} (hf : a.d.few n) (hn : n ≤ 1000) (x : AV) (hx : x.ok w) (hA : x.A.length ≤ 600) (hC : x.C.length ≤ 600) (hk : x.kind = 1) :
    Calls Try.prog 16 #[.agg #[ptr a.p, ptr a'.p], .agg x.val] wr (ActAt w wr a b a' b' T n) := by
  obtain ⟨kd, wh, at_, A, C, pb, cb, bs, is_, mask, pk, ck, ks⟩ := x
  have hk4 := hx.k4
  have hk3 := hx.k3
  simp only at hk hA hC hk3 hk4
  subst hk
  obtain ⟨mk, rfl⟩ : ∃ mk : Nat, mask = (mk : Int) := ⟨mask.toNat, by omega⟩
  clear hx
  have hfine := h.fine
  have hAm : A.length ≤ maxLen := by unfold maxLen; omega
  have hCm : C.length ≤ maxLen := by unfold maxLen; omega
  have hl := hf.len
  have ho := hf.ops
  have hda := hr.da
  have hfa := hr.fa
  have HM0 : Hid (Mid w (boxed wr a.p a'.p ⟨1, wh, at_, A, C, pb, cb, bs, is_, (mk : Int), pk, ck, ks⟩) (boxed wr a.p a'.p ⟨1, wh, at_, A, C, pb, cb, bs, is_, (mk : Int), pk, ck, ks⟩) a b a' b' Z ZR T) := hid (Mid.start (h.below (boxed_below wr a.p a'.p ⟨1, wh, at_, A, C, pb, cb, bs, is_, (mk : Int), pk, ck, ks⟩)))
  have HBB := hid (boxed_below wr a.p a'.p ⟨1, wh, at_, A, C, pb, cb, bs, is_, (mk : Int), pk, ck, ks⟩)
  have HBX : Hid (∀ W, Only T (boxed wr a.p a'.p ⟨1, wh, at_, A, C, pb, cb, bs, is_, (mk : Int), pk, ck, ks⟩) W → BxAt wr W a.p a'.p ⟨1, wh, at_, A, C, pb, cb, bs, is_, (mk : Int), pk, ck, ks⟩) := hid fun W ho => boxed_at h.tl ho
  have HP : Hid (∀ W, Mid w (boxed wr a.p a'.p ⟨1, wh, at_, A, C, pb, cb, bs, is_, (mk : Int), pk, ck, ks⟩) W a b a' b' Z ZR T → Calls Try.prog 24 #[ptr a.p, sv A] W fun e w1 => e = .returned (.int .i64 ((a.d.sync (a.fu.map Z) A).1 : Int)) ∧ Mid w (boxed wr a.p a'.p ⟨1, wh, at_, A, C, pb, cb, bs, is_, (mk : Int), pk, ck, ks⟩) w1 ⟨a.p, a.fu, (a.d.sync (a.fu.map Z) A).2.1⟩ b a' b' (setZ Z a.fu (a.d.sync (a.fu.map Z) A).2.2) ZR T) := hid fun W hM => by
    obtain ⟨T2, hj, hoo, hT⟩ := hM
    exact (hj.run fun S m L hd hff => sync_any hd hff A hAm (by omega) (by omega)).mono fun e w1 ⟨e1, j1, o1⟩ => ⟨e1, Mid.next hoo hT j1 o1⟩
  have HQ : Hid (∀ W, Mid w (boxed wr a.p a'.p ⟨1, wh, at_, A, C, pb, cb, bs, is_, (mk : Int), pk, ck, ks⟩) W ⟨a.p, a.fu, (a.d.sync (a.fu.map Z) A).2.1⟩ b a' b' (setZ Z a.fu (a.d.sync (a.fu.map Z) A).2.2) ZR T → Calls Try.prog 48 #[ptr a'.p, sv A] W fun e w1 => e = .returned (.int .i64 ((a.d.sync (a.fu.map Z) A).1 : Int)) ∧ Mid w (boxed wr a.p a'.p ⟨1, wh, at_, A, C, pb, cb, bs, is_, (mk : Int), pk, ck, ks⟩) w1 ⟨a.p, a.fu, (a.d.sync (a.fu.map Z) A).2.1⟩ b ⟨a'.p, a'.fu, (a.d.sync (a.fu.map Z) A).2.1⟩ b' (setZ Z a.fu (a.d.sync (a.fu.map Z) A).2.2) (setZ ZR a'.fu (a.d.sync (a.fu.map Z) A).2.2) T) := hid fun W hM => by
    obtain ⟨T2, hj, hoo, hT⟩ := hM
    exact (hj.rrun (r := a.d.sync (a.fu.map Z) A) fun S v L hd hff => by
      have := rsync_any hd hff A hAm (by rw [hda]; omega) (by rw [hd.lenF, hda]; omega) (by rw [hda]; exact hfine.so)
      rw [hda, hfa] at this; exact this).mono fun e w1 ⟨e1, j1, o1⟩ => ⟨e1, Mid.next hoo hT j1 o1⟩
  have HFW := hid (sync_few hf (a.fu.map Z) A)
  have HREL := hid (hr.step (d2 := (a.d.sync (a.fu.map Z) A).2.1) (f2 := (a.d.sync (a.fu.map Z) A).2.2) a.p a'.p)
  generalize a.d.sync (a.fu.map Z) A = rr at *
  obtain ⟨e0, d2, f2⟩ := rr
  have HS : Hid (∀ W, Only T (boxed wr a.p a'.p ⟨1, wh, at_, A, C, pb, cb, bs, is_, (mk : Int), pk, ck, ks⟩) W → W.cell? ⟨wr.heap.size, 0, none⟩ = some (ptr a.p) ∧ W.cell? ⟨wr.heap.size, 1, none⟩ = some (ptr a'.p) ∧ W.cell? ⟨wr.heap.size + 1, 3, none⟩ = some (sv A)) := hid fun W ho => ⟨(HBX.out W ho).1.cell 0, (HBX.out W ho).1.cell 1, (HBX.out W ho).2.cell 3⟩
  have HC := hid (HS.out _ (Only.refl _ _))
  clear h hr hf hfine hAm hCm hl ho hda hfa hA hC hk3 hk4
  simp only at *
  unfold AV.val
  go_enter Try.func16, Try.ntmps16
  go_wp2
  go_region_held3 (fun w' => w'.cell? ⟨wr.heap.size, 0, none⟩ = some (ptr a.p) ∧ w'.cell? ⟨wr.heap.size, 1, none⟩ = some (ptr a'.p) ∧ w'.cell? ⟨wr.heap.size + 1, 3, none⟩ = some (sv A)) (exact HC.out) (first
    | (go_at_call 24; (first | refine (HP.out _ (HM0.out.below (below_drewN _ _))).mono ?_ | refine (HP.out _ HM0.out).mono ?_); rintro e w1 ⟨rfl, hm⟩; have HM1 := hid hm; have HC := hid (HS.out w1 hm.only); clear hm)
    | (go_at_call 48; (first | refine (HQ.out _ (HM1.out.below (below_drewN _ _))).mono ?_ | refine (HQ.out _ HM1.out).mono ?_); rintro e w2 ⟨rfl, hm⟩; have HM2 := hid hm; have HC := hid (HS.out w2 hm.only); clear hm))
  go_wp2
  go_ret
  exact ⟨rfl, _, _, d2, _, _, HM2.out.base HBB.out, HREL.out, HFW.out⟩
set_option maxHeartbeats 4000000 in
set_option maxRecDepth 100000 in
theorem act_delete {w wr : World} {a b a' b' : Dl} {Z ZR : Nat → Nat × Bool} {T : Nat → Prop} (h : JB w wr a b a' b' Z ZR T) (hr : Rel a b a' b' Z ZR) {n : Nat} (hf : a.d.few n) (hn : n ≤ 1000) (x : AV) (hx : x.ok w) (hA : x.A.length ≤ 600) (hC : x.C.length ≤ 600) (hk : x.kind = 3) :
    Calls Try.prog 16 #[.agg #[ptr a.p, ptr a'.p], .agg x.val] wr (ActAt w wr a b a' b' T n) := by
  obtain ⟨kd, wh, at_, A, C, pb, cb, bs, is_, mask, pk, ck, ks⟩ := x
  have hk4 := hx.k4
  have hk3 := hx.k3
  simp only at hk hA hC hk3 hk4
  subst hk
  obtain ⟨mk, rfl⟩ : ∃ mk : Nat, mask = (mk : Int) := ⟨mask.toNat, by omega⟩
  clear hx
  have hfine := h.fine
  have hAm : A.length ≤ maxLen := by unfold maxLen; omega
  have hCm : C.length ≤ maxLen := by unfold maxLen; omega
  have hl := hf.len
  have ho := hf.ops
  have hda := hr.da
  have hfa := hr.fa
  have HM0 : Hid (Mid w (boxed wr a.p a'.p ⟨3, wh, at_, A, C, pb, cb, bs, is_, (mk : Int), pk, ck, ks⟩) (boxed wr a.p a'.p ⟨3, wh, at_, A, C, pb, cb, bs, is_, (mk : Int), pk, ck, ks⟩) a b a' b' Z ZR T) := hid (Mid.start (h.below (boxed_below wr a.p a'.p ⟨3, wh, at_, A, C, pb, cb, bs, is_, (mk : Int), pk, ck, ks⟩)))
  have HBB := hid (boxed_below wr a.p a'.p ⟨3, wh, at_, A, C, pb, cb, bs, is_, (mk : Int), pk, ck, ks⟩)
  have HBX : Hid (∀ W, Only T (boxed wr a.p a'.p ⟨3, wh, at_, A, C, pb, cb, bs, is_, (mk : Int), pk, ck, ks⟩) W → BxAt wr W a.p a'.p ⟨3, wh, at_, A, C, pb, cb, bs, is_, (mk : Int), pk, ck, ks⟩) := hid fun W ho => boxed_at h.tl ho
  have HP : Hid (∀ W, Mid w (boxed wr a.p a'.p ⟨3, wh, at_, A, C, pb, cb, bs, is_, (mk : Int), pk, ck, ks⟩) W a b a' b' Z ZR T → Calls Try.prog 26 #[ptr a.p, sv A] W fun e w1 => e = .returned (.int .i64 ((a.d.delete (a.fu.map Z) A).1 : Int)) ∧ Mid w (boxed wr a.p a'.p ⟨3, wh, at_, A, C, pb, cb, bs, is_, (mk : Int), pk, ck, ks⟩) w1 ⟨a.p, a.fu, (a.d.delete (a.fu.map Z) A).2.1⟩ b a' b' (setZ Z a.fu (a.d.delete (a.fu.map Z) A).2.2) ZR T) := hid fun W hM => by
    obtain ⟨T2, hj, hoo, hT⟩ := hM
    exact (hj.run fun S m L hd hff => delete_any hd hff A hAm (by omega)).mono fun e w1 ⟨e1, j1, o1⟩ => ⟨e1, Mid.next hoo hT j1 o1⟩
  have HQ : Hid (∀ W, Mid w (boxed wr a.p a'.p ⟨3, wh, at_, A, C, pb, cb, bs, is_, (mk : Int), pk, ck, ks⟩) W ⟨a.p, a.fu, (a.d.delete (a.fu.map Z) A).2.1⟩ b a' b' (setZ Z a.fu (a.d.delete (a.fu.map Z) A).2.2) ZR T → Calls Try.prog 50 #[ptr a'.p, sv A] W fun e w1 => e = .returned (.int .i64 ((a.d.delete (a.fu.map Z) A).1 : Int)) ∧ Mid w (boxed wr a.p a'.p ⟨3, wh, at_, A, C, pb, cb, bs, is_, (mk : Int), pk, ck, ks⟩) w1 ⟨a.p, a.fu, (a.d.delete (a.fu.map Z) A).2.1⟩ b ⟨a'.p, a'.fu, (a.d.delete (a.fu.map Z) A).2.1⟩ b' (setZ Z a.fu (a.d.delete (a.fu.map Z) A).2.2) (setZ ZR a'.fu (a.d.delete (a.fu.map Z) A).2.2) T) := hid fun W hM => by
    obtain ⟨T2, hj, hoo, hT⟩ := hM
    exact (hj.rrun (r := a.d.delete (a.fu.map Z) A) fun S v L hd hff => by
      have := rdelete_any hd hff A hAm (by rw [hda]; omega) (by rw [hd.lenF, hda]; omega)
      rw [hda, hfa] at this; exact this).mono fun e w1 ⟨e1, j1, o1⟩ => ⟨e1, Mid.next hoo hT j1 o1⟩
  have HFW := hid (delete_few hf (a.fu.map Z) A)
  have HREL := hid (hr.step (d2 := (a.d.delete (a.fu.map Z) A).2.1) (f2 := (a.d.delete (a.fu.map Z) A).2.2) a.p a'.p)
  generalize a.d.delete (a.fu.map Z) A = rr at *
  obtain ⟨e0, d2, f2⟩ := rr
  have HS : Hid (∀ W, Only T (boxed wr a.p a'.p ⟨3, wh, at_, A, C, pb, cb, bs, is_, (mk : Int), pk, ck, ks⟩) W → W.cell? ⟨wr.heap.size, 0, none⟩ = some (ptr a.p) ∧ W.cell? ⟨wr.heap.size, 1, none⟩ = some (ptr a'.p) ∧ W.cell? ⟨wr.heap.size + 1, 3, none⟩ = some (sv A)) := hid fun W ho => ⟨(HBX.out W ho).1.cell 0, (HBX.out W ho).1.cell 1, (HBX.out W ho).2.cell 3⟩
  have HC := hid (HS.out _ (Only.refl _ _))
  clear h hr hf hfine hAm hCm hl ho hda hfa hA hC hk3 hk4
  simp only at *
  unfold AV.val
  go_enter Try.func16, Try.ntmps16
  go_wp2
  go_region_held3 (fun w' => w'.cell? ⟨wr.heap.size, 0, none⟩ = some (ptr a.p) ∧ w'.cell? ⟨wr.heap.size, 1, none⟩ = some (ptr a'.p) ∧ w'.cell? ⟨wr.heap.size + 1, 3, none⟩ = some (sv A)) (exact HC.out) (first
    | (go_at_call 26; (first | refine (HP.out _ (HM0.out.below (below_drewN _ _))).mono ?_ | refine (HP.out _ HM0.out).mono ?_); rintro e w1 ⟨rfl, hm⟩; have HM1 := hid hm; have HC := hid (HS.out w1 hm.only); clear hm)
    | (go_at_call 50; (first | refine (HQ.out _ (HM1.out.below (below_drewN _ _))).mono ?_ | refine (HQ.out _ HM1.out).mono ?_); rintro e w2 ⟨rfl, hm⟩; have HM2 := hid hm; have HC := hid (HS.out w2 hm.only); clear hm))
  go_wp2
  go_ret
  exact ⟨rfl, _, _, d2, _, _, HM2.out.base HBB.out, HREL.out, HFW.out⟩
set_option maxHeartbeats 4000000 in
set_option maxRecDepth 100000 in
theorem act_rename {w wr : World} {a b a' b' : Dl} {Z ZR : Nat → Nat × Bool} {T : Nat → Prop} (h : JB w wr a b a' b' Z ZR T) (hr : Rel a b a' b' Z ZR) {n : Nat} (hf : a.d.few n) (hn : n ≤ 1000) (x : AV) (hx : x.ok w) (hA : x.A.length ≤ 600) (hC : x.C.length ≤ 600) (hk : x.kind = 2) :
    Calls Try.prog 16 #[.agg #[ptr a.p, ptr a'.p], .agg x.val] wr (ActAt w wr a b a' b' T n) := by
  obtain ⟨kd, wh, at_, A, C, pb, cb, bs, is_, mask, pk, ck, ks⟩ := x
  have hk4 := hx.k4
  have hk3 := hx.k3
  simp only at hk hA hC hk3 hk4
  subst hk
  obtain ⟨mk, rfl⟩ : ∃ mk : Nat, mask = (mk : Int) := ⟨mask.toNat, by omega⟩
  clear hx
  have hfine := h.fine
  have hAm : A.length ≤ maxLen := by unfold maxLen; omega
  have hCm : C.length ≤ maxLen := by unfold maxLen; omega
  have hl := hf.len
  have ho := hf.ops
  have hda := hr.da
  have hfa := hr.fa
  have HM0 : Hid (Mid w (boxed wr a.p a'.p ⟨2, wh, at_, A, C, pb, cb, bs, is_, (mk : Int), pk, ck, ks⟩) (boxed wr a.p a'.p ⟨2, wh, at_, A, C, pb, cb, bs, is_, (mk : Int), pk, ck, ks⟩) a b a' b' Z ZR T) := hid (Mid.start (h.below (boxed_below wr a.p a'.p ⟨2, wh, at_, A, C, pb, cb, bs, is_, (mk : Int), pk, ck, ks⟩)))
  have HBB := hid (boxed_below wr a.p a'.p ⟨2, wh, at_, A, C, pb, cb, bs, is_, (mk : Int), pk, ck, ks⟩)
  have HBX : Hid (∀ W, Only T (boxed wr a.p a'.p ⟨2, wh, at_, A, C, pb, cb, bs, is_, (mk : Int), pk, ck, ks⟩) W → BxAt wr W a.p a'.p ⟨2, wh, at_, A, C, pb, cb, bs, is_, (mk : Int), pk, ck, ks⟩) := hid fun W ho => boxed_at h.tl ho
  have HP : Hid (∀ W, Mid w (boxed wr a.p a'.p ⟨2, wh, at_, A, C, pb, cb, bs, is_, (mk : Int), pk, ck, ks⟩) W a b a' b' Z ZR T → Calls Try.prog 25 #[ptr a.p, sv A, sv C] W fun e w1 => e = .returned (.int .i64 ((a.d.rename (a.fu.map Z) A C).1 : Int)) ∧ Mid w (boxed wr a.p a'.p ⟨2, wh, at_, A, C, pb, cb, bs, is_, (mk : Int), pk, ck, ks⟩) w1 ⟨a.p, a.fu, (a.d.rename (a.fu.map Z) A C).2.1⟩ b a' b' (setZ Z a.fu (a.d.rename (a.fu.map Z) A C).2.2) ZR T) := hid fun W hM => by
    obtain ⟨T2, hj, hoo, hT⟩ := hM
    exact (hj.run fun S m L hd hff => rename_any hd hff A C hAm hCm (by omega) (by omega)).mono fun e w1 ⟨e1, j1, o1⟩ => ⟨e1, Mid.next hoo hT j1 o1⟩
  have HQ : Hid (∀ W, Mid w (boxed wr a.p a'.p ⟨2, wh, at_, A, C, pb, cb, bs, is_, (mk : Int), pk, ck, ks⟩) W ⟨a.p, a.fu, (a.d.rename (a.fu.map Z) A C).2.1⟩ b a' b' (setZ Z a.fu (a.d.rename (a.fu.map Z) A C).2.2) ZR T → Calls Try.prog 49 #[ptr a'.p, sv A, sv C] W fun e w1 => e = .returned (.int .i64 ((a.d.rename (a.fu.map Z) A C).1 : Int)) ∧ Mid w (boxed wr a.p a'.p ⟨2, wh, at_, A, C, pb, cb, bs, is_, (mk : Int), pk, ck, ks⟩) w1 ⟨a.p, a.fu, (a.d.rename (a.fu.map Z) A C).2.1⟩ b ⟨a'.p, a'.fu, (a.d.rename (a.fu.map Z) A C).2.1⟩ b' (setZ Z a.fu (a.d.rename (a.fu.map Z) A C).2.2) (setZ ZR a'.fu (a.d.rename (a.fu.map Z) A C).2.2) T) := hid fun W hM => by
    obtain ⟨T2, hj, hoo, hT⟩ := hM
    exact (hj.rrun (r := a.d.rename (a.fu.map Z) A C) fun S v L hd hff => by
      have := rrename_any hd hff A C hAm hCm (by rw [hda]; omega) (by rw [hd.lenF, hda]; omega)
      rw [hda, hfa] at this; exact this).mono fun e w1 ⟨e1, j1, o1⟩ => ⟨e1, Mid.next hoo hT j1 o1⟩
  have HFW := hid (rename_few hf (a.fu.map Z) A C)
  have HREL := hid (hr.step (d2 := (a.d.rename (a.fu.map Z) A C).2.1) (f2 := (a.d.rename (a.fu.map Z) A C).2.2) a.p a'.p)
  generalize a.d.rename (a.fu.map Z) A C = rr at *
  obtain ⟨e0, d2, f2⟩ := rr
  have HS : Hid (∀ W, Only T (boxed wr a.p a'.p ⟨2, wh, at_, A, C, pb, cb, bs, is_, (mk : Int), pk, ck, ks⟩) W → W.cell? ⟨wr.heap.size, 0, none⟩ = some (ptr a.p) ∧ W.cell? ⟨wr.heap.size, 1, none⟩ = some (ptr a'.p) ∧ W.cell? ⟨wr.heap.size + 1, 3, none⟩ = some (sv A) ∧ W.cell? ⟨wr.heap.size + 1, 4, none⟩ = some (sv C)) := hid fun W ho => ⟨(HBX.out W ho).1.cell 0, (HBX.out W ho).1.cell 1, (HBX.out W ho).2.cell 3, (HBX.out W ho).2.cell 4⟩
  have HC := hid (HS.out _ (Only.refl _ _))
  clear h hr hf hfine hAm hCm hl ho hda hfa hA hC hk3 hk4
  simp only at *
  unfold AV.val
  go_enter Try.func16, Try.ntmps16
  go_wp2
  go_region_held3 (fun w' => w'.cell? ⟨wr.heap.size, 0, none⟩ = some (ptr a.p) ∧ w'.cell? ⟨wr.heap.size, 1, none⟩ = some (ptr a'.p) ∧ w'.cell? ⟨wr.heap.size + 1, 3, none⟩ = some (sv A) ∧ w'.cell? ⟨wr.heap.size + 1, 4, none⟩ = some (sv C)) (exact HC.out) (first
    | (go_at_call 25; (first | refine (HP.out _ (HM0.out.below (below_drewN _ _))).mono ?_ | refine (HP.out _ HM0.out).mono ?_); rintro e w1 ⟨rfl, hm⟩; have HM1 := hid hm; have HC := hid (HS.out w1 hm.only); clear hm)
    | (go_at_call 49; (first | refine (HQ.out _ (HM1.out.below (below_drewN _ _))).mono ?_ | refine (HQ.out _ HM1.out).mono ?_); rintro e w2 ⟨rfl, hm⟩; have HM2 := hid hm; have HC := hid (HS.out w2 hm.only); clear hm))
  go_wp2
  go_ret
  exact ⟨rfl, _, _, d2, _, _, HM2.out.base HBB.out, HREL.out, HFW.out⟩
set_option maxHeartbeats 4000000 in
set_option maxRecDepth 100000 in
theorem act_turn {w wr : World} {a b a' b' : Dl} {Z ZR : Nat → Nat × Bool} {T : Nat → Prop} (h : JB w wr a b a' b' Z ZR T) (hr : Rel a b a' b' Z ZR) {n : Nat} (hf : a.d.few n) (hn : n ≤ 1000) (x : AV) (hx : x.ok w) (hA : x.A.length ≤ 600) (hC : x.C.length ≤ 600) (hk : x.kind = 8) :
    Calls Try.prog 16 #[.agg #[ptr a.p, ptr a'.p], .agg x.val] wr (ActAt w wr a b a' b' T n) := by
  obtain ⟨kd, wh, at_, A, C, pb, cb, bs, is_, mask, pk, ck, ks⟩ := x
  have hk4 := hx.k4
  have hk3 := hx.k3
  simp only at hk hA hC hk3 hk4
  subst hk
  obtain ⟨mk, rfl⟩ : ∃ mk : Nat, mask = (mk : Int) := ⟨mask.toNat, by omega⟩
  clear hx
  have hfine := h.fine
  have hAm : A.length ≤ maxLen := by unfold maxLen; omega
  have hCm : C.length ≤ maxLen := by unfold maxLen; omega
  have hl := hf.len
  have ho := hf.ops
  have hda := hr.da
  have hfa := hr.fa
  have HM0 : Hid (Mid w (boxed wr a.p a'.p ⟨8, wh, at_, A, C, pb, cb, bs, is_, (mk : Int), pk, ck, ks⟩) (boxed wr a.p a'.p ⟨8, wh, at_, A, C, pb, cb, bs, is_, (mk : Int), pk, ck, ks⟩) a b a' b' Z ZR T) := hid (Mid.start (h.below (boxed_below wr a.p a'.p ⟨8, wh, at_, A, C, pb, cb, bs, is_, (mk : Int), pk, ck, ks⟩)))
  have HBB := hid (boxed_below wr a.p a'.p ⟨8, wh, at_, A, C, pb, cb, bs, is_, (mk : Int), pk, ck, ks⟩)
  have HBX : Hid (∀ W, Only T (boxed wr a.p a'.p ⟨8, wh, at_, A, C, pb, cb, bs, is_, (mk : Int), pk, ck, ks⟩) W → BxAt wr W a.p a'.p ⟨8, wh, at_, A, C, pb, cb, bs, is_, (mk : Int), pk, ck, ks⟩) := hid fun W ho => boxed_at h.tl ho
  have HP : Hid (∀ W, Mid w (boxed wr a.p a'.p ⟨8, wh, at_, A, C, pb, cb, bs, is_, (mk : Int), pk, ck, ks⟩) W a b a' b' Z ZR T → Calls Try.prog 29 #[ptr a.p, sv A, .int .i64 at_, .int .u8 (mk : Int)] W fun e w1 => e = .returned (.int .i64 ((a.d.turn A at_ mk).1 : Int)) ∧ Mid w (boxed wr a.p a'.p ⟨8, wh, at_, A, C, pb, cb, bs, is_, (mk : Int), pk, ck, ks⟩) w1 ⟨a.p, a.fu, (a.d.turn A at_ mk).2⟩ b a' b' Z ZR T) := hid fun W hM => by
    obtain ⟨T2, hj, hoo, hT⟩ := hM
    exact (hj.runT fun S m L hd => turn_any hd A hAm at_ hk3 mk (by omega)).mono fun e w1 ⟨e1, j1, o1⟩ => ⟨e1, Mid.next hoo hT j1 o1⟩
  have HQ : Hid (∀ W, Mid w (boxed wr a.p a'.p ⟨8, wh, at_, A, C, pb, cb, bs, is_, (mk : Int), pk, ck, ks⟩) W ⟨a.p, a.fu, (a.d.turn A at_ mk).2⟩ b a' b' Z ZR T → Calls Try.prog 53 #[ptr a'.p, sv A, .int .i64 at_, .int .u8 (mk : Int)] W fun e w1 => e = .returned (.int .i64 ((a.d.turn A at_ mk).1 : Int)) ∧ Mid w (boxed wr a.p a'.p ⟨8, wh, at_, A, C, pb, cb, bs, is_, (mk : Int), pk, ck, ks⟩) w1 ⟨a.p, a.fu, (a.d.turn A at_ mk).2⟩ b ⟨a'.p, a'.fu, (a.d.turn A at_ mk).2⟩ b' Z ZR T) := hid fun W hM => by
    obtain ⟨T2, hj, hoo, hT⟩ := hM
    exact (hj.rrunT (r := a.d.turn A at_ mk) fun S v L hd => by
      have := rturn_any hd A at_ hk3 mk (by omega) (by rw [hd.lenF, hda]; omega) (hd.lens (by rw [hda]; exact hfine)) (hd.byte (by rw [hda]; exact hfine)) (by rw [hda]; exact hfine.so)
      rw [hda] at this; exact this).mono fun e w1 ⟨e1, j1, o1⟩ => ⟨e1, Mid.next hoo hT j1 o1⟩
  have HFW := hid (turn_few hf A at_ mk)
  have HREL := hid (hr.same (a.d.turn A at_ mk).2 a.p a'.p)
  generalize a.d.turn A at_ mk = rr at *
  obtain ⟨e0, d2⟩ := rr
  have HS : Hid (∀ W, Only T (boxed wr a.p a'.p ⟨8, wh, at_, A, C, pb, cb, bs, is_, (mk : Int), pk, ck, ks⟩) W → W.cell? ⟨wr.heap.size, 0, none⟩ = some (ptr a.p) ∧ W.cell? ⟨wr.heap.size, 1, none⟩ = some (ptr a'.p) ∧ W.cell? ⟨wr.heap.size + 1, 3, none⟩ = some (sv A) ∧ W.cell? ⟨wr.heap.size + 1, 2, none⟩ = some (.int .i64 at_) ∧ W.cell? ⟨wr.heap.size + 1, 7, none⟩ = some (.int .u8 (mk : Int))) := hid fun W ho => ⟨(HBX.out W ho).1.cell 0, (HBX.out W ho).1.cell 1, (HBX.out W ho).2.cell 3, (HBX.out W ho).2.cell 2, (HBX.out W ho).2.cell 7⟩
  have HC := hid (HS.out _ (Only.refl _ _))
  clear h hr hf hfine hAm hCm hl ho hda hfa hA hC hk3 hk4
  simp only at *
  unfold AV.val
  go_enter Try.func16, Try.ntmps16
  go_wp2
  go_region_held3 (fun w' => w'.cell? ⟨wr.heap.size, 0, none⟩ = some (ptr a.p) ∧ w'.cell? ⟨wr.heap.size, 1, none⟩ = some (ptr a'.p) ∧ w'.cell? ⟨wr.heap.size + 1, 3, none⟩ = some (sv A) ∧ w'.cell? ⟨wr.heap.size + 1, 2, none⟩ = some (.int .i64 at_) ∧ w'.cell? ⟨wr.heap.size + 1, 7, none⟩ = some (.int .u8 (mk : Int))) (exact HC.out) (first
    | (go_at_call 29; (first | refine (HP.out _ (HM0.out.below (below_drewN _ _))).mono ?_ | refine (HP.out _ HM0.out).mono ?_); rintro e w1 ⟨rfl, hm⟩; have HM1 := hid hm; have HC := hid (HS.out w1 hm.only); clear hm)
    | (go_at_call 53; (first | refine (HQ.out _ (HM1.out.below (below_drewN _ _))).mono ?_ | refine (HQ.out _ HM1.out).mono ?_); rintro e w2 ⟨rfl, hm⟩; have HM2 := hid hm; have HC := hid (HS.out w2 hm.only); clear hm))
  go_wp2
  go_ret
  exact ⟨rfl, _, _, d2, _, _, HM2.out.base HBB.out, HREL.out, HFW.out⟩
#print axioms act_sync
#print axioms act_turn
end Go.Proofs.Ytfppmpfmafnfmaa

/- Contract of act of the statements: Write. (Written by tools/gen_Kx.py.) -/
namespace Go.Proofs.Ytfppmpfmafnfmaa
open Go Go.RowKit
set_option maxHeartbeats 4000000 in
set_option maxRecDepth 100000 in
theorem act_write {w wr : World} {a b a' b' : Dl} {Z ZR : Nat → Nat × Bool} {T : Nat → Prop} (h : JB w wr a b a' b' Z ZR T) (hr : Rel a b a' b' Z ZR) {n : Nat} (hf : a.d.few n) (hn : n ≤ 1000) (x : AV) (hx : x.ok w) (hA : x.A.length ≤ 600) (hz : x.bs.length ≤ 2000) (hk : x.kind = 0) :
    Calls Try.prog 16 #[.agg #[ptr a.p, ptr a'.p], .agg x.val] wr (ActAt w wr a b a' b' T n) := by
  obtain ⟨kd, wh, at_, A, C, pb, cb, bs, is_, mask, pk, ck, ks⟩ := x
  have hxb : BAt w pb bs := hx.bB
  have hx8 : ∀ y ∈ bs, y < 256 := hx.b8
  simp only at hA hk hz
  subst hk
  clear hx
  have hfine := h.fine
  have hAm : A.length ≤ maxLen := by unfold maxLen; omega
  have hl := hf.len
  have ho := hf.ops
  obtain ⟨pa, fa, d⟩ := a
  obtain ⟨qa, fa', d'⟩ := a'
  obtain rfl : d' = d := hr.da
  have hfa : fa'.map ZR = fa.map Z := hr.fa
  simp only at hfine hl ho
  have HTL := hid h.tl
  have HJ0 := hid (h.below (boxed_below wr pa qa ⟨0, wh, at_, A, C, pb, cb, bs, is_, mask, pk, ck, ks⟩))
  have HM0 : Hid (Mid w (boxed wr pa qa ⟨0, wh, at_, A, C, pb, cb, bs, is_, mask, pk, ck, ks⟩) (boxed wr pa qa ⟨0, wh, at_, A, C, pb, cb, bs, is_, mask, pk, ck, ks⟩) ⟨pa, fa, d'⟩ b ⟨qa, fa', d'⟩ b' Z ZR T) := hid (Mid.start HJ0.out)
  have HBB := hid (boxed_below wr pa qa ⟨0, wh, at_, A, C, pb, cb, bs, is_, mask, pk, ck, ks⟩)
  have HP : Hid (∀ W1 W g, Mid w W1 W ⟨pa, fa, d'⟩ b ⟨qa, fa', d'⟩ b' Z ZR T → LnAt W g bs → Calls Try.prog 23 #[ptr pa, sv A, .slice (some ⟨g, 0, none⟩) bs.length (bs.length + 3)] W fun e w1 => e = .returned (.int .i64 ((d'.write (fa.map Z) A bs).1 : Int)) ∧ Mid w W1 w1 ⟨pa, fa, (d'.write (fa.map Z) A bs).2.1⟩ b ⟨qa, fa', d'⟩ b' (setZ Z fa (d'.write (fa.map Z) A bs).2.2) ZR T) := hid fun W1 W g hM hL => by
    obtain ⟨T2, hj, hoo, hT⟩ := hM
    exact (hj.run fun S m L hd hff => write_any hd hff A hAm _ _ bs hx8 hL.bat (by omega) (by simp only; omega) (by simp only; omega)).mono fun e w1 ⟨e1, j1, o1⟩ => ⟨e1, Mid.next hoo hT j1 o1⟩
  have HQ : Hid (∀ W1 W, Mid w W1 W ⟨pa, fa, (d'.write (fa.map Z) A bs).2.1⟩ b ⟨qa, fa', d'⟩ b' (setZ Z fa (d'.write (fa.map Z) A bs).2.2) ZR T → Calls Try.prog 45 #[ptr qa, sv A, .slice pb bs.length cb] W fun e w1 => e = .returned (.int .i64 ((d'.write (fa.map Z) A bs).1 : Int)) ∧ Mid w W1 w1 ⟨pa, fa, (d'.write (fa.map Z) A bs).2.1⟩ b ⟨qa, fa', (d'.write (fa.map Z) A bs).2.1⟩ b' (setZ Z fa (d'.write (fa.map Z) A bs).2.2) (setZ ZR fa' (d'.write (fa.map Z) A bs).2.2) T) := hid fun W1 W hM => by
    have hbe := hM.be
    obtain ⟨T2, hj, hoo, hT⟩ := hM
    exact (hj.rrun (r := (d'.write (fa.map Z) A bs)) fun S v L hd hff => by
      have := rwrite_any hd hff A hAm pb cb bs (hxb.keepB hbe) (by omega) (by simp only; omega) (by rw [hd.lenF]; simp only; omega) hfine.so (by have := hfine.us; have := hfine.sz; simp only; omega) hfine.sz
      simp only [hfa] at this; exact this).mono fun e w1 ⟨e1, j1, o1⟩ => ⟨e1, Mid.next hoo hT j1 o1⟩
  have HFW := hid (write_few hf (fa.map Z) A bs)
  have HREL := hid (hr.step (d2 := (d'.write (fa.map Z) A bs).2.1) (f2 := (d'.write (fa.map Z) A bs).2.2) pa qa)
  generalize (d'.write (fa.map Z) A bs) = rr at *
  obtain ⟨e0, d2, f2⟩ := rr
  have HL : Hid (Calls Try.prog 44 #[.slice pb bs.length cb] (boxed wr pa qa ⟨0, wh, at_, A, C, pb, cb, bs, is_, mask, pk, ck, ks⟩) fun e W1 => ∃ g, e = .returned (.slice (some ⟨g, 0, none⟩) bs.length (bs.length + 3)) ∧ LnAt W1 g bs ∧ (boxed wr pa qa ⟨0, wh, at_, A, C, pb, cb, bs, is_, mask, pk, ck, ks⟩).heap.size ≤ g ∧ Below (boxed wr pa qa ⟨0, wh, at_, A, C, pb, cb, bs, is_, mask, pk, ck, ks⟩).heap.size (boxed wr pa qa ⟨0, wh, at_, A, C, pb, cb, bs, is_, mask, pk, ck, ks⟩) W1) := hid (lent2 cb (hxb.keepB HJ0.out.be) hz)
  have HKB : Hid (∀ W g, LnAt W g bs → Below w.heap.size w W → Calls Try.prog 46 #[.slice (some ⟨g, 0, none⟩) bs.length (bs.length + 3), .slice pb bs.length cb] W fun e w' => e = .returned (.bool true) ∧ Below W.heap.size W w') := hid fun W g hL hb => kept_any g bs.length cb pb _ W (by omega) hL.lt hL.row (hxb.keepB hb).str
  have HOV : Hid (∀ W g, LnAt W g bs → Calls Try.prog 47 #[.slice (some ⟨g, 0, none⟩) bs.length (bs.length + 3)] W fun e w' => e = .returned (.tuple #[]) ∧ Only (fun b => b = g) W w') := hid fun W g hL => over2_any g bs.length (bs.length + 3) W (by unfold maxLen; omega) (hL.q8 hx8)
  have HS : Hid (∀ W, Only T (boxed wr pa qa ⟨0, wh, at_, A, C, pb, cb, bs, is_, mask, pk, ck, ks⟩) W → W.cell? ⟨wr.heap.size, 0, none⟩ = some (ptr pa) ∧ W.cell? ⟨wr.heap.size, 1, none⟩ = some (ptr qa) ∧ W.cell? ⟨wr.heap.size + 1, 3, none⟩ = some (sv A) ∧ W.cell? ⟨wr.heap.size + 1, 5, none⟩ = some (.slice pb bs.length cb)) := hid fun W ho => ⟨(boxed_at HTL.out ho).1.cell 0, (boxed_at HTL.out ho).1.cell 1, (boxed_at HTL.out ho).2.cell 3, (boxed_at HTL.out ho).2.cell 5⟩
  have HWZ := hid HJ0.out.be.size
  have HSZ := hid (boxed_size wr pa qa ⟨0, wh, at_, A, C, pb, cb, bs, is_, mask, pk, ck, ks⟩)
  have cc := HS.out _ (Only.refl _ _)
  obtain ⟨x0, x1, x3, x5⟩ := cc
  clear h hr hf hfine hAm hl ho hA hz hxb hx8 hfa
  simp only at *
  unfold AV.val
  go_enter Try.func16, Try.ntmps16
  go_wp2_with (go_at_call 44; refine HL.out.mono ?_; rintro e W1 ⟨g, rfl, hL, hg, hb⟩; have HLN := hid hL; have HG := hid hg; have HB1 := hid hb; have HM1 := hid (Mid.start (HJ0.out.below hb)); have HSS := hid (fun W (ho : Only T W1 W) => HS.out W ((Only.of_below hb).trans ho)); have HLO := hid (fun W (ho : Only T W1 W) => hL.only ho HTL.out (Nat.le_trans (by have := HSZ.out; omega) hg)); have HC := hid (HSS.out _ (Only.refl _ _)); clear hL hg hb x0 x1 x3 x5)
  go_region_held3 (fun w' => w'.cell? ⟨wr.heap.size, 0, none⟩ = some (ptr pa) ∧ w'.cell? ⟨wr.heap.size, 1, none⟩ = some (ptr qa) ∧ w'.cell? ⟨wr.heap.size + 1, 3, none⟩ = some (sv A) ∧ w'.cell? ⟨wr.heap.size + 1, 5, none⟩ = some (.slice pb bs.length cb)) (exact HC.out) (first
    | (go_at_call 23; (first | refine (HP.out W1 _ g (HM1.out.below (below_drewN _ _)) (HLO.out _ (Only.drewN _ _ _))).mono ?_ | refine (HP.out W1 _ g HM1.out HLN.out).mono ?_); rintro e w1 ⟨rfl, hm⟩; have HM2 := hid hm; have HC := hid (HSS.out w1 hm.only); clear hm)
    | (go_at_call 45; (first | refine (HQ.out W1 _ (HM2.out.below (below_drewN _ _))).mono ?_ | refine (HQ.out W1 _ HM2.out).mono ?_); rintro e w2 ⟨rfl, hm⟩; have HM3 := hid hm; have HC := hid (HSS.out w2 hm.only); clear hm)
    | (go_at_call 46; (first | refine (HKB.out _ g ((HLO.out _ HM3.out.only).below (below_drewN _ _)) (HM3.out.below (below_drewN _ _)).be).mono ?_ | refine (HKB.out _ g (HLO.out _ HM3.out.only) HM3.out.be).mono ?_); rintro e w3 ⟨rfl, hb3⟩; have hb4 : Below w2.heap.size w2 w3 := (by first | exact hb3 | exact below_on _ _ (below_drewN _ _) hb3); have HM4 := hid (HM3.out.below hb4); have HC := hid (HSS.out w3 HM4.out.only); clear hb3 hb4))
  go_wp2_with (go_at_call 47; refine (HOV.out _ g (HLO.out _ HM4.out.only)).mono ?_; rintro e w4 ⟨rfl, ho4⟩; have HM5 := hid (HM4.out.over HB1.out ho4 HG.out HLN.out.lt (fun ht => by have := HTL.out g ht; have := HG.out; have := HSZ.out; omega) HWZ.out); clear ho4)
  go_ret
  exact ⟨rfl, _, _, d2, _, _, HM5.out.base HBB.out, HREL.out, HFW.out⟩
end Go.Proofs.Ytfppmpfmafnfmaa

/- Contract of act of the statements: Read, List, and any other kind. (Written by tools/gen_Kx.py.) -/
namespace Go.Proofs.Ytfppmpfmafnfmaa
open Go Go.RowKit
set_option maxHeartbeats 4000000 in
set_option maxRecDepth 100000 in
theorem act_rd {w wr : World} {a b a' b' : Dl} {Z ZR : Nat → Nat × Bool} {T : Nat → Prop} (h : JB w wr a b a' b' Z ZR T) (hr : Rel a b a' b' Z ZR) {n : Nat} (hf : a.d.few n) (hn : n ≤ 1000) (x : AV) (hx : x.ok w) (hA : x.A.length ≤ 600) (hk : x.kind = 4) :
    Calls Try.prog 16 #[.agg #[ptr a.p, ptr a'.p], .agg x.val] wr (ActAt w wr a b a' b' T n) := by
  obtain ⟨kd, wh, at_, A, C, pb, cb, bs, is_, mask, pk, ck, ks⟩ := x
  have hxb : BAt w pb bs := hx.bB
  have hx8 : ∀ y ∈ bs, y < 256 := hx.b8
  simp only at hA hk
  subst hk
  clear hx
  have hfine := h.fine
  have hAm : A.length ≤ maxLen := by unfold maxLen; omega
  have hl := hf.len
  have ho := hf.ops
  obtain ⟨pa, fa, d⟩ := a
  obtain ⟨qa, fa', d'⟩ := a'
  obtain rfl : d' = d := hr.da
  have hfa : fa'.map ZR = fa.map Z := hr.fa
  simp only at hfine hl ho
  have HTL := hid h.tl
  have HJ0 := hid (h.below (boxed_below wr pa qa ⟨4, wh, at_, A, C, pb, cb, bs, is_, mask, pk, ck, ks⟩))
  have HM0 : Hid (Mid w (boxed wr pa qa ⟨4, wh, at_, A, C, pb, cb, bs, is_, mask, pk, ck, ks⟩) (boxed wr pa qa ⟨4, wh, at_, A, C, pb, cb, bs, is_, mask, pk, ck, ks⟩) ⟨pa, fa, d'⟩ b ⟨qa, fa', d'⟩ b' Z ZR T) := hid (Mid.start HJ0.out)
  have HBB := hid (boxed_below wr pa qa ⟨4, wh, at_, A, C, pb, cb, bs, is_, mask, pk, ck, ks⟩)
  have HP : Hid (∀ W, JB w W ⟨pa, fa, d'⟩ b ⟨qa, fa', d'⟩ b' Z ZR T → Calls Try.prog 21 #[ptr pa, sv A] W (ReadS W (d'.readE (fa.map Z) A) (d'.readB (fa.map Z) A))) := hid fun W hW => hW.look fun _ _ _ hd hff => read2_any hd hff A hAm
  have HQ : Hid (∀ W, JB w W ⟨pa, fa, d'⟩ b ⟨qa, fa', d'⟩ b' Z ZR T → Calls Try.prog 51 #[ptr qa, sv A] W (ReadAt W (d'.readE (fa.map Z) A) (d'.readB (fa.map Z) A))) := hid fun W hW => hW.rlook fun _ _ _ hd hff => by
    have := rread_any hd hff A hAm (by rw [hd.lenF]; simp only; omega) (hd.lens hfine)
    simp only [hfa] at this; exact this
  generalize d'.readE (fa.map Z) A = er at *
  generalize d'.readB (fa.map Z) A = rs at *
  have HFW := hid hf.more
  have HREL := hid (hr.same d' pa qa)
  have HS : Hid (∀ W, Only T (boxed wr pa qa ⟨4, wh, at_, A, C, pb, cb, bs, is_, mask, pk, ck, ks⟩) W → W.cell? ⟨wr.heap.size, 0, none⟩ = some (ptr pa) ∧ W.cell? ⟨wr.heap.size, 1, none⟩ = some (ptr qa) ∧ W.cell? ⟨wr.heap.size + 1, 3, none⟩ = some (sv A)) := hid fun W ho => ⟨(boxed_at HTL.out ho).1.cell 0, (boxed_at HTL.out ho).1.cell 1, (boxed_at HTL.out ho).2.cell 3⟩
  have cc := HS.out _ (Only.refl _ _)
  obtain ⟨x0, x1, x3⟩ := cc
  clear h hr hf hfine hAm hl ho hA hxb hx8 hfa
  simp only at *
  unfold AV.val
  go_enter Try.func16, Try.ntmps16
  go_wp2_with (first
    | (go_at_call 21; refine (HP.out _ HJ0.out).mono ?_; rintro e w1 ⟨po1, c1, rfl, ho1, hq1, hb1⟩; have HJ1 := hid (HJ0.out.below hb1); have HM1 := hid (HM0.out.below hb1); have HR1 : Hid (Row8 w1 _ rs) := hid ⟨_, ho1⟩; have cc := HS.out _ HM1.out.only; obtain ⟨x0, x1, x3⟩ := cc; clear ho1 hq1 hb1)
    | (go_at_call 51; refine (HQ.out _ HJ1.out).mono ?_; rintro e w2 ⟨po2, c2, rfl, ho2, hb2⟩; have HM2 := hid (HM1.out.below hb2); have HR2 : Hid (Row8 w2 _ rs) := hid ⟨_, ho2⟩; have HR1 := hid (HR1.out.on hb2); clear ho2 hb2)
    | (go_at_call 38; refine (sameBytes_true HR1.out HR2.out).mono ?_; rintro e w' ⟨rfl, hw'⟩; have hw2 := hw'.symm; subst hw2))
  go_ret
  exact ⟨rfl, _, _, d', _, _, HM2.out.base HBB.out, HREL.out, HFW.out⟩
set_option maxHeartbeats 4000000 in
set_option maxRecDepth 100000 in
theorem act_list {w wr : World} {a b a' b' : Dl} {Z ZR : Nat → Nat × Bool} {T : Nat → Prop} (h : JB w wr a b a' b' Z ZR T) (hr : Rel a b a' b' Z ZR) {n : Nat} (hf : a.d.few n) (hn : n ≤ 1000) (x : AV) (hx : x.ok w) (hA : x.A.length ≤ 600) (hk : x.kind = 5) :
    Calls Try.prog 16 #[.agg #[ptr a.p, ptr a'.p], .agg x.val] wr (ActAt w wr a b a' b' T n) := by
  obtain ⟨kd, wh, at_, A, C, pb, cb, bs, is_, mask, pk, ck, ks⟩ := x
  have hxb : BAt w pb bs := hx.bB
  have hx8 : ∀ y ∈ bs, y < 256 := hx.b8
  simp only at hA hk
  subst hk
  clear hx
  have hfine := h.fine
  have hAm : A.length ≤ maxLen := by unfold maxLen; omega
  have hl := hf.len
  have ho := hf.ops
  obtain ⟨pa, fa, d⟩ := a
  obtain ⟨qa, fa', d'⟩ := a'
  obtain rfl : d' = d := hr.da
  have hfa : fa'.map ZR = fa.map Z := hr.fa
  simp only at hfine hl ho
  have HTL := hid h.tl
  have HJ0 := hid (h.below (boxed_below wr pa qa ⟨5, wh, at_, A, C, pb, cb, bs, is_, mask, pk, ck, ks⟩))
  have HM0 : Hid (Mid w (boxed wr pa qa ⟨5, wh, at_, A, C, pb, cb, bs, is_, mask, pk, ck, ks⟩) (boxed wr pa qa ⟨5, wh, at_, A, C, pb, cb, bs, is_, mask, pk, ck, ks⟩) ⟨pa, fa, d'⟩ b ⟨qa, fa', d'⟩ b' Z ZR T) := hid (Mid.start HJ0.out)
  have HBB := hid (boxed_below wr pa qa ⟨5, wh, at_, A, C, pb, cb, bs, is_, mask, pk, ck, ks⟩)
  have HP : Hid (∀ W, JB w W ⟨pa, fa, d'⟩ b ⟨qa, fa', d'⟩ b' Z ZR T → Calls Try.prog 22 #[ptr pa, sv A] W (ListS W (d'.ans (fa.map Z) []) (d'.list (fa.map Z) A))) := hid fun W hW => hW.look fun _ _ _ hd hff => list2_any hd hff A (by simp only; omega)
  have HQ : Hid (∀ W, JB w W ⟨pa, fa, d'⟩ b ⟨qa, fa', d'⟩ b' Z ZR T → Calls Try.prog 52 #[ptr qa, sv A] W (ListAt W (d'.ans (fa.map Z) []) (d'.list (fa.map Z) A))) := hid fun W hW => hW.rlook fun _ _ _ hd hff => by
    have := rlist_any hd hff A (by rw [hd.lenF]; simp only; omega)
    simp only [hfa] at this; exact this
  have hnl : (d'.list (fa.map Z) A).length ≤ 1000000 := by
    unfold Pd.list namesOf; split
    · rw [List.length_map]; exact Nat.le_trans (List.length_filter_le _ _) (by omega)
    · simp
  have HNL := hid hnl
  clear hnl
  generalize d'.ans (fa.map Z) [] = er at *
  generalize d'.list (fa.map Z) A = ns at *
  have HFW := hid hf.more
  have HREL := hid (hr.same d' pa qa)
  have HS : Hid (∀ W, Only T (boxed wr pa qa ⟨5, wh, at_, A, C, pb, cb, bs, is_, mask, pk, ck, ks⟩) W → W.cell? ⟨wr.heap.size, 0, none⟩ = some (ptr pa) ∧ W.cell? ⟨wr.heap.size, 1, none⟩ = some (ptr qa) ∧ W.cell? ⟨wr.heap.size + 1, 3, none⟩ = some (sv A)) := hid fun W ho => ⟨(boxed_at HTL.out ho).1.cell 0, (boxed_at HTL.out ho).1.cell 1, (boxed_at HTL.out ho).2.cell 3⟩
  have cc := HS.out _ (Only.refl _ _)
  obtain ⟨x0, x1, x3⟩ := cc
  clear h hr hf hfine hAm hl ho hA hxb hx8 hfa
  simp only at *
  unfold AV.val
  go_enter Try.func16, Try.ntmps16
  go_wp2_with (first
    | (go_at_call 22; refine (HP.out _ HJ0.out).mono ?_; rintro e w1 ⟨po1, c1, rfl, ht1, hb1⟩; have HJ1 := hid (HJ0.out.below hb1); have HM1 := hid (HM0.out.below hb1); have HT1 := hid ht1; have cc := HS.out _ HM1.out.only; obtain ⟨x0, x1, x3⟩ := cc; clear ht1 hb1)
    | (go_at_call 52; refine (HQ.out _ HJ1.out).mono ?_; rintro e w2 ⟨po2, c2, rfl, ht2, hb2⟩; have HM2 := hid (HM1.out.below hb2); have HT2 := hid ht2; have HT1 := hid (HT1.out.below hb2); clear ht2 hb2)
    | (go_at_call 39; refine (sameTexts_true _ _ ns _ (Nat.le_trans HNL.out (by omega)) HT1.out.t.at HT2.out.at).mono ?_; rintro e w3 ⟨rfl, k3, hw3⟩; have HM2 := hid (HM2.out.below (W' := w3) (by rw [hw3]; exact below_drewN _ _)); clear hw3))
  go_ret
  exact ⟨rfl, _, _, d', _, _, HM2.out.base HBB.out, HREL.out, HFW.out⟩
set_option maxHeartbeats 4000000 in
set_option maxRecDepth 100000 in
theorem act_other {w wr : World} {a b a' b' : Dl} {Z ZR : Nat → Nat × Bool} {T : Nat → Prop} (h : JB w wr a b a' b' Z ZR T) (hr : Rel a b a' b' Z ZR) {n : Nat} (hf : a.d.few n) (_hn : n ≤ 1000) (x : AV) (hx : x.ok w) (hA : x.A.length ≤ 600) (hk : x.kind ≠ 0 ∧ x.kind ≠ 1 ∧ x.kind ≠ 2 ∧ x.kind ≠ 3 ∧ x.kind ≠ 4 ∧ x.kind ≠ 5 ∧ x.kind ≠ 6 ∧ x.kind ≠ 7 ∧ x.kind ≠ 8 ∧ x.kind ≠ 9 ∧ x.kind ≠ 12) :
    Calls Try.prog 16 #[.agg #[ptr a.p, ptr a'.p], .agg x.val] wr (ActAt w wr a b a' b' T n) := by
  obtain ⟨kd, wh, at_, A, C, pb, cb, bs, is_, mask, pk, ck, ks⟩ := x
  have hxb : BAt w pb bs := hx.bB
  have hx8 : ∀ y ∈ bs, y < 256 := hx.b8
  simp only at hA hk
  obtain ⟨h0, h1, h2, h3, h4, h5, h6, h7, h8, h9, h12⟩ := hk
  clear hx
  have hfine := h.fine
  have hAm : A.length ≤ maxLen := by unfold maxLen; omega
  have hl := hf.len
  have ho := hf.ops
  obtain ⟨pa, fa, d⟩ := a
  obtain ⟨qa, fa', d'⟩ := a'
  obtain rfl : d' = d := hr.da
  have hfa : fa'.map ZR = fa.map Z := hr.fa
  simp only at hfine hl ho
  have HTL := hid h.tl
  have HJ0 := hid (h.below (boxed_below wr pa qa ⟨kd, wh, at_, A, C, pb, cb, bs, is_, mask, pk, ck, ks⟩))
  have HM0 : Hid (Mid w (boxed wr pa qa ⟨kd, wh, at_, A, C, pb, cb, bs, is_, mask, pk, ck, ks⟩) (boxed wr pa qa ⟨kd, wh, at_, A, C, pb, cb, bs, is_, mask, pk, ck, ks⟩) ⟨pa, fa, d'⟩ b ⟨qa, fa', d'⟩ b' Z ZR T) := hid (Mid.start HJ0.out)
  have HBB := hid (boxed_below wr pa qa ⟨kd, wh, at_, A, C, pb, cb, bs, is_, mask, pk, ck, ks⟩)
  have HFW := hid hf.more
  have HREL := hid (hr.same d' pa qa)
  clear h hr hf hfine hAm hl ho hA hxb hx8 hfa
  unfold AV.val
  go_enter Try.func16, Try.ntmps16
  go_wp2
  go_ret
  exact ⟨rfl, _, _, d', _, _, HM0.out.base HBB.out, HREL.out, HFW.out⟩
end Go.Proofs.Ytfppmpfmafnfmaa

/- Contract of act of the statements: Offline, Full. (Written by tools/gen_Kx.py.) -/
namespace Go.Proofs.Ytfppmpfmafnfmaa
open Go Go.RowKit
set_option maxHeartbeats 4000000 in
set_option maxRecDepth 100000 in
theorem act_offline {w wr : World} {a b a' b' : Dl} {Z ZR : Nat → Nat × Bool} {T : Nat → Prop} (h : JB w wr a b a' b' Z ZR T) (hr : Rel a b a' b' Z ZR) {n : Nat} (hf : a.d.few n) (_hn : n ≤ 1000) (x : AV) (hx : x.ok w) (hA : x.A.length ≤ 600) (hk : x.kind = 6) :
    Calls Try.prog 16 #[.agg #[ptr a.p, ptr a'.p], .agg x.val] wr (ActAt w wr a b a' b' T n) := by
  obtain ⟨kd, wh, at_, A, C, pb, cb, bs, is_, mask, pk, ck, ks⟩ := x
  have hxb : BAt w pb bs := hx.bB
  have hx8 : ∀ y ∈ bs, y < 256 := hx.b8
  simp only at hA hk
  subst hk
  clear hx
  have hfine := h.fine
  have hAm : A.length ≤ maxLen := by unfold maxLen; omega
  have hl := hf.len
  have ho := hf.ops
  obtain ⟨pa, fa, d⟩ := a
  obtain ⟨qa, fa', d'⟩ := a'
  obtain rfl : d' = d := hr.da
  have hfa : fa'.map ZR = fa.map Z := hr.fa
  simp only at hfine hl ho
  have HTL := hid h.tl
  have HJ0 := hid (h.below (boxed_below wr pa qa ⟨6, wh, at_, A, C, pb, cb, bs, is_, mask, pk, ck, ks⟩))
  have HM0 : Hid (Mid w (boxed wr pa qa ⟨6, wh, at_, A, C, pb, cb, bs, is_, mask, pk, ck, ks⟩) (boxed wr pa qa ⟨6, wh, at_, A, C, pb, cb, bs, is_, mask, pk, ck, ks⟩) ⟨pa, fa, d'⟩ b ⟨qa, fa', d'⟩ b' Z ZR T) := hid (Mid.start HJ0.out)
  have HBB := hid (boxed_below wr pa qa ⟨6, wh, at_, A, C, pb, cb, bs, is_, mask, pk, ck, ks⟩)
  have HF : Hid (wr.cell? ⟨qa, 2, none⟩ = some (.bool d'.offl) ∧ wr.frozen? ⟨qa, 2, none⟩ = false ∧ qa < wr.heap.size) := hid (by
    obtain ⟨S2, _, ⟨v2, L2, hd2⟩, _⟩ := h.rd
    exact ⟨hd2.c.cell 2, hd2.c.free 2, hd2.c.lt⟩)
  have HSE : Hid (Mid w (boxed wr pa qa ⟨6, wh, at_, A, C, pb, cb, bs, is_, mask, pk, ck, ks⟩) ((boxed wr pa qa ⟨6, wh, at_, A, C, pb, cb, bs, is_, mask, pk, ck, ks⟩).setCell ⟨qa, 2, none⟩ (.bool is_)) ⟨pa, fa, d'⟩ b ⟨qa, fa', { d' with offl := is_ }⟩ b' Z ZR T) := hid (by
    have := HJ0.out.rset 2 (.bool is_) (d2 := { d' with offl := is_ }) (fun v => rfl) rfl
    exact Mid.next (Only.refl _ _) (fun _ h => Or.inl h) this.1 this.2)
  rw [show (boxed wr pa qa ⟨6, wh, at_, A, C, pb, cb, bs, is_, mask, pk, ck, ks⟩).setCell ⟨qa, 2, none⟩ (.bool is_) = boxed (wr.setCell ⟨qa, 2, none⟩ (.bool is_)) pa qa ⟨6, wh, at_, A, C, pb, cb, bs, is_, mask, pk, ck, ks⟩ from by
    have hq := HF.out.2.2
    unfold boxed
    rw [World.setCell_alloc_past _ _ _ _ (by rw [size_al]; omega), World.setCell_alloc_past _ _ _ _ hq]] at HSE
  have HP : Hid (∀ W, Mid w (boxed wr pa qa ⟨6, wh, at_, A, C, pb, cb, bs, is_, mask, pk, ck, ks⟩) W ⟨pa, fa, d'⟩ b ⟨qa, fa', { d' with offl := is_ }⟩ b' Z ZR T → Calls Try.prog 27 #[ptr pa, .bool is_] W fun e w1 => e = .returned (.int .i64 0) ∧ Mid w (boxed wr pa qa ⟨6, wh, at_, A, C, pb, cb, bs, is_, mask, pk, ck, ks⟩) w1 ⟨pa, fa, { d' with offl := is_ }⟩ b ⟨qa, fa', { d' with offl := is_ }⟩ b' Z ZR T) := hid fun W hM => by
    obtain ⟨T2, hj, hoo, hT⟩ := hM
    exact (hj.setP fun S m L hd => offline_any hd is_).mono fun e w1 ⟨e1, j1, o1⟩ => ⟨e1, Mid.next hoo hT j1 o1⟩
  have HFW : Hid (Pd.few { d' with offl := is_ } (n + 1)) := hid ⟨hf.more.len, hf.more.ops⟩
  have HREL := hid (hr.same { d' with offl := is_ } pa qa)
  have HS : Hid (∀ W, Only T (boxed wr pa qa ⟨6, wh, at_, A, C, pb, cb, bs, is_, mask, pk, ck, ks⟩) W → W.cell? ⟨wr.heap.size, 0, none⟩ = some (ptr pa) ∧ W.cell? ⟨wr.heap.size, 1, none⟩ = some (ptr qa) ∧ W.cell? ⟨wr.heap.size + 1, 6, none⟩ = some (.bool is_)) := hid fun W ho => ⟨(boxed_at HTL.out ho).1.cell 0, (boxed_at HTL.out ho).1.cell 1, (boxed_at HTL.out ho).2.cell 6⟩
  have cc := HS.out _ (Only.refl _ _)
  obtain ⟨x0, x1, x6⟩ := cc
  obtain ⟨y0, y1, hq⟩ := HF.out
  have hq1 : ¬ qa = wr.heap.size := by omega
  have hq2 : ¬ qa = wr.heap.size + 1 := by omega
  have hq3 : ¬ wr.heap.size = qa := by omega
  have hq4 : ¬ wr.heap.size + 1 = qa := by omega
  clear h hr hf hfine hAm hl ho hA hxb hx8 hfa
  simp only at *
  unfold AV.val
  go_enter Try.func16, Try.ntmps16
  go_wp2_with (go_at_call 27; refine (HP.out _ HSE.out).mono ?_; rintro e w1 ⟨rfl, hm⟩; have HM2 := hid hm; clear hm)
  go_ret
  exact ⟨rfl, _, _, _, _, _, HM2.out.base HBB.out, HREL.out, HFW.out⟩
set_option maxHeartbeats 4000000 in
set_option maxRecDepth 100000 in
theorem act_full {w wr : World} {a b a' b' : Dl} {Z ZR : Nat → Nat × Bool} {T : Nat → Prop} (h : JB w wr a b a' b' Z ZR T) (hr : Rel a b a' b' Z ZR) {n : Nat} (hf : a.d.few n) (_hn : n ≤ 1000) (x : AV) (hx : x.ok w) (hA : x.A.length ≤ 600) (hk : x.kind = 7) :
    Calls Try.prog 16 #[.agg #[ptr a.p, ptr a'.p], .agg x.val] wr (ActAt w wr a b a' b' T n) := by
  obtain ⟨kd, wh, at_, A, C, pb, cb, bs, is_, mask, pk, ck, ks⟩ := x
  have hxb : BAt w pb bs := hx.bB
  have hx8 : ∀ y ∈ bs, y < 256 := hx.b8
  simp only at hA hk
  subst hk
  clear hx
  have hfine := h.fine
  have hAm : A.length ≤ maxLen := by unfold maxLen; omega
  have hl := hf.len
  have ho := hf.ops
  obtain ⟨pa, fa, d⟩ := a
  obtain ⟨qa, fa', d'⟩ := a'
  obtain rfl : d' = d := hr.da
  have hfa : fa'.map ZR = fa.map Z := hr.fa
  simp only at hfine hl ho
  have HTL := hid h.tl
  have HJ0 := hid (h.below (boxed_below wr pa qa ⟨7, wh, at_, A, C, pb, cb, bs, is_, mask, pk, ck, ks⟩))
  have HM0 : Hid (Mid w (boxed wr pa qa ⟨7, wh, at_, A, C, pb, cb, bs, is_, mask, pk, ck, ks⟩) (boxed wr pa qa ⟨7, wh, at_, A, C, pb, cb, bs, is_, mask, pk, ck, ks⟩) ⟨pa, fa, d'⟩ b ⟨qa, fa', d'⟩ b' Z ZR T) := hid (Mid.start HJ0.out)
  have HBB := hid (boxed_below wr pa qa ⟨7, wh, at_, A, C, pb, cb, bs, is_, mask, pk, ck, ks⟩)
  have HF : Hid (wr.cell? ⟨qa, 3, none⟩ = some (.bool d'.full) ∧ wr.frozen? ⟨qa, 3, none⟩ = false ∧ qa < wr.heap.size) := hid (by
    obtain ⟨S2, _, ⟨v2, L2, hd2⟩, _⟩ := h.rd
    exact ⟨hd2.c.cell 3, hd2.c.free 3, hd2.c.lt⟩)
  have HSE : Hid (Mid w (boxed wr pa qa ⟨7, wh, at_, A, C, pb, cb, bs, is_, mask, pk, ck, ks⟩) ((boxed wr pa qa ⟨7, wh, at_, A, C, pb, cb, bs, is_, mask, pk, ck, ks⟩).setCell ⟨qa, 3, none⟩ (.bool is_)) ⟨pa, fa, d'⟩ b ⟨qa, fa', { d' with full := is_ }⟩ b' Z ZR T) := hid (by
    have := HJ0.out.rset 3 (.bool is_) (d2 := { d' with full := is_ }) (fun v => rfl) rfl
    exact Mid.next (Only.refl _ _) (fun _ h => Or.inl h) this.1 this.2)
  rw [show (boxed wr pa qa ⟨7, wh, at_, A, C, pb, cb, bs, is_, mask, pk, ck, ks⟩).setCell ⟨qa, 3, none⟩ (.bool is_) = boxed (wr.setCell ⟨qa, 3, none⟩ (.bool is_)) pa qa ⟨7, wh, at_, A, C, pb, cb, bs, is_, mask, pk, ck, ks⟩ from by
    have hq := HF.out.2.2
    unfold boxed
    rw [World.setCell_alloc_past _ _ _ _ (by rw [size_al]; omega), World.setCell_alloc_past _ _ _ _ hq]] at HSE
  have HP : Hid (∀ W, Mid w (boxed wr pa qa ⟨7, wh, at_, A, C, pb, cb, bs, is_, mask, pk, ck, ks⟩) W ⟨pa, fa, d'⟩ b ⟨qa, fa', { d' with full := is_ }⟩ b' Z ZR T → Calls Try.prog 28 #[ptr pa, .bool is_] W fun e w1 => e = .returned (.int .i64 0) ∧ Mid w (boxed wr pa qa ⟨7, wh, at_, A, C, pb, cb, bs, is_, mask, pk, ck, ks⟩) w1 ⟨pa, fa, { d' with full := is_ }⟩ b ⟨qa, fa', { d' with full := is_ }⟩ b' Z ZR T) := hid fun W hM => by
    obtain ⟨T2, hj, hoo, hT⟩ := hM
    exact (hj.setP fun S m L hd => full_any hd is_).mono fun e w1 ⟨e1, j1, o1⟩ => ⟨e1, Mid.next hoo hT j1 o1⟩
  have HFW : Hid (Pd.few { d' with full := is_ } (n + 1)) := hid ⟨hf.more.len, hf.more.ops⟩
  have HREL := hid (hr.same { d' with full := is_ } pa qa)
  have HS : Hid (∀ W, Only T (boxed wr pa qa ⟨7, wh, at_, A, C, pb, cb, bs, is_, mask, pk, ck, ks⟩) W → W.cell? ⟨wr.heap.size, 0, none⟩ = some (ptr pa) ∧ W.cell? ⟨wr.heap.size, 1, none⟩ = some (ptr qa) ∧ W.cell? ⟨wr.heap.size + 1, 6, none⟩ = some (.bool is_)) := hid fun W ho => ⟨(boxed_at HTL.out ho).1.cell 0, (boxed_at HTL.out ho).1.cell 1, (boxed_at HTL.out ho).2.cell 6⟩
  have cc := HS.out _ (Only.refl _ _)
  obtain ⟨x0, x1, x6⟩ := cc
  obtain ⟨y0, y1, hq⟩ := HF.out
  have hq1 : ¬ qa = wr.heap.size := by omega
  have hq2 : ¬ qa = wr.heap.size + 1 := by omega
  have hq3 : ¬ wr.heap.size = qa := by omega
  have hq4 : ¬ wr.heap.size + 1 = qa := by omega
  clear h hr hf hfine hAm hl ho hA hxb hx8 hfa
  simp only at *
  unfold AV.val
  go_enter Try.func16, Try.ntmps16
  go_wp2_with (go_at_call 28; refine (HP.out _ HSE.out).mono ?_; rintro e w1 ⟨rfl, hm⟩; have HM2 := hid hm; clear hm)
  go_ret
  exact ⟨rfl, _, _, _, _, _, HM2.out.base HBB.out, HREL.out, HFW.out⟩
end Go.Proofs.Ytfppmpfmafnfmaa
