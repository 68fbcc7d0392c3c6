/- Texts laid into one, cut to what is needed: the remark ahead of each part says what is proved there. -/
import Derived.Test.YtfogkegmdgbecaaGreatDoorPbc
import Derived.Test.YtfogkegmdgbecaaGreatDoorPbd
import Derived.Test.YtfogkegmdgbecaaGreatDoorPbb
/- A set of drives beside the document's; what both leave alone. -/
namespace Go.Proofs.YtfogkegmdgbecaaGreatDoor
open Go Go.RowKit Go.Shelf

/-- k drives and k of the document's; Z: blocks that no call of them turns. -/
structure FY (w : World) (k : Nat) (p q : Nat → Nat) (X Y : FS) (dv wv : Value) (Z : Nat → Prop) (W : World) : Prop where
 ex : ∃ T U, FA w W T k p X.d X.f 0 ∧ RA w W U k q Y.d Y.f 0 ∧ (∀ b, T b → ¬ U b) ∧ LsAt W (fun b => T b ∨ U b) dv k p ∧ LsAt W (fun b => T b ∨ U b) wv k q ∧ ∀ b, Z b → b < W.heap.size ∧ ¬ T b ∧ ¬ U b
def Kz (Z : Nat → Prop) (W W' : World) : Prop := ∀ b, Z b → W'.heap[b]? = W.heap[b]?
theorem Kz.trans {Z : Nat → Prop} {A B C : World} (h : Kz Z A B) (g : Kz Z B C) : Kz Z A C := fun b hb => (g b hb).trans (h b hb)
theorem Kz.less {Z Z' : Nat → Prop} {A B : World} (h : Kz Z A B) (hz : ∀ b, Z' b → Z b) : Kz Z' A B := fun b hb => h b (hz b hb)
section
variable {w W W' : World} {k : Nat} {p q : Nat → Nat} {X Y X2 Y2 : FS} {dv wv : Value} {Z : Nat → Prop}
theorem FY.lt (h : FY w k p q X Y dv wv Z W) : ∀ b, Z b → b < W.heap.size := by obtain ⟨T, U, _, _, _, _, _, hz⟩ := h.ex; exact fun b hb => (hz b hb).1
theorem FY.be (h : FY w k p q X Y dv wv Z W) : Below w.heap.size w W := by obtain ⟨T, U, h1, _⟩ := h.ex; exact h1.be
theorem FY.less (h : FY w k p q X Y dv wv Z W) {Z' : Nat → Prop} (hz : ∀ b, Z' b → Z b) : FY w k p q X Y dv wv Z' W := by
 obtain ⟨T, U, h1, h2, h3, h4, h5, h6⟩ := h.ex
 exact ⟨T, U, h1, h2, h3, h4, h5, fun b hb => h6 b (hz b hb)⟩
/-- What is new lies apart from all drives. -/
theorem FY.below (h : FY w k p q X Y dv wv Z W) (hb : Below W.heap.size W W') : FY w k p q X Y dv wv (fun b => Z b ∨ (W.heap.size ≤ b ∧ b < W'.heap.size)) W' := by
 obtain ⟨T, U, h1, h2, h3, h4, h5, h6⟩ := h.ex
 refine ⟨T, U, h1.below hb, h2.below hb, h3, h4.keep (fun b hb' _ => hb.block b hb') (fun _ _ h => h), h5.keep (fun b hb' _ => hb.block b hb') (fun _ _ h => h), fun b hz => ?_⟩
 rcases hz with hz | ⟨hz1, hz2⟩
 ·exact ⟨Nat.lt_of_lt_of_le (h6 b hz).1 hb.size, (h6 b hz).2⟩
 ·exact ⟨hz2, fun ht => by have := h1.lt b ht; omega, fun hu => by have := h2.lt b hu; omega⟩
theorem FY.keeps (h : FY w k p q X Y dv wv Z W) (hb : Below W.heap.size W W') : Kz Z W W' := fun b hz => hb.block b (h.lt b hz)
/-- What lay ahead of the drives lies apart from them, too. -/
theorem FY.old (h : FY w k p q X Y dv wv Z W) : FY w k p q X Y dv wv (fun b => Z b ∨ b < w.heap.size) W := by
 obtain ⟨T, U, h1, h2, h3, h4, h5, h6⟩ := h.ex
 refine ⟨T, U, h1, h2, h3, h4, h5, fun b hz => hz.elim (h6 b) fun hl => ⟨Nat.lt_of_lt_of_le hl h1.be.size, fun ht => by have := h1.ge b ht; omega, fun hu => by have := h2.ge b hu; omega⟩⟩
/-- A block that is kept is written. -/
theorem FY.write (h : FY w k p q X Y dv wv Z W) {S : Nat → Prop} (ho : Only S W W') (hS : ∀ b, S b → b < W.heap.size → Z b ∧ w.heap.size ≤ b) (hd : ∀ b, dv.ownBlock = some b → ¬ S b) (hw : ∀ b, wv.ownBlock = some b → ¬ S b) : FY w k p q X Y dv wv Z W' := by
 obtain ⟨T, U, h1, h2, h3, h4, h5, h6⟩ := h.ex
 have ho' : Only (fun b => S b ∧ b < W.heap.size) W W' := ⟨ho.os, ho.tape, ho.output, ho.size, fun b hb hn => ho.block b hb (fun hy => hn ⟨hy, hb⟩)⟩
 have ls : ∀ {v : Value} {r : Nat → Nat}, (∀ b, v.ownBlock = some b → ¬ S b) → LsAt W (fun b => T b ∨ U b) v k r → LsAt W' (fun b => T b ∨ U b) v k r := fun hv hl => by
  rcases hl.ex with e | ⟨h0, b, c, e1, e2, e3⟩
  ·exact ⟨.inl e⟩
  ·exact ⟨.inr ⟨h0, b, c, e1, e2, fun j hj => (World.cell?_of_block (a := ⟨b, j, none⟩) (ho.block b (cell_lt2 (e3 0 h0)) (hv b (by rw [e1]; rfl)))).trans (e3 j hj)⟩⟩
 exact ⟨T, U, h1.only ho' (fun b hb ⟨a1, a2⟩ => by have := (hS b a1 a2).2; omega) (fun b ht ⟨a1, a2⟩ => (h6 b (hS b a1 a2).1).2.1 ht), h2.only ho' (fun b hb ⟨a1, a2⟩ => by have := (hS b a1 a2).2; omega) (fun b ht ⟨a1, a2⟩ => (h6 b (hS b a1 a2).1).2.2 ht), h3, ls hd h4, ls hw h5, fun b hz => ⟨Nat.lt_of_lt_of_le (h6 b hz).1 ho.size, (h6 b hz).2⟩⟩
/-- A call of the drives. -/
theorem FY.pcall (h : FY w k p q X Y dv wv Z W) {g : FuncId} {args : Array Value} {Q : (Nat → Prop) → Ending → World → Prop}
  (hc : ∀ T, FA w W T k p X.d X.f 0 → LsAt W T dv k p → (∀ b, Z b → ¬ T b) → Calls Tryz.prog g args W fun e W' => ∃ Zn, Q Zn e W' ∧ (∃ T', Grows W T T' ∧ FA w W' T' k p X2.d X2.f 0 ∧ ∀ b, Zn b → W.heap.size ≤ b ∧ b < W'.heap.size ∧ ¬ T' b) ∧ Only T W W') :
  Calls Tryz.prog g args W fun e W' => ∃ Zn, Q Zn e W' ∧ FY w k p q X2 Y dv wv (fun b => Z b ∨ Zn b) W' ∧ Kz Z W W' ∧ W.heap.size ≤ W'.heap.size := by
 obtain ⟨T, U, h1, h2, h3, h4, h5, h6⟩ := h.ex
 refine (hc T h1 (h4.keep (fun _ _ _ => rfl) (fun _ _ h => .inl h)) (fun b hz => (h6 b hz).2.1)).mono ?_
 rintro e W' ⟨Zn, hQ, ⟨T', hg, hf, hn⟩, ho⟩
 have hTT : ∀ b, b < W.heap.size → T' b → T b := fun b hb ht => (hg.2 b ht).elim id (fun h => by omega)
 have hk : ∀ b, b < W.heap.size → ¬ (T b ∨ U b) → W'.heap[b]? = W.heap[b]? := fun b hb hn => ho.block b hb (fun ht => hn (.inl ht))
 have hT2 : ∀ b, b < W.heap.size → (T' b ∨ U b) → (T b ∨ U b) := fun b hb e => e.elim (fun ht => .inl (hTT b hb ht)) .inr
 refine ⟨Zn, hQ, ⟨T', U, hf, h2.only ho (fun b hb ht => by have := h1.ge b ht; omega) (fun b hu ht => h3 b ht hu), fun b ht hu => h3 b (hTT b (h2.lt b hu) ht) hu, h4.keep hk hT2, h5.keep hk hT2, fun b hz => ?_⟩, fun b hz => ho.block b (h6 b hz).1 (h6 b hz).2.1, ho.size⟩
 rcases hz with hz | hz
 ·exact ⟨Nat.lt_of_lt_of_le (h6 b hz).1 ho.size, fun ht => (h6 b hz).2.1 (hTT b (h6 b hz).1 ht), (h6 b hz).2.2⟩
 ·obtain ⟨a1, a2, a3⟩ := hn b hz
  exact ⟨a2, a3, fun hu => by have := h2.lt b hu; omega⟩
/-- A call of the document's. -/
theorem FY.rcall (h : FY w k p q X Y dv wv Z W) {g : FuncId} {args : Array Value} {Q : (Nat → Prop) → Ending → World → Prop}
  (hc : ∀ U, RA w W U k q Y.d Y.f 0 → LsAt W U wv k q → (∀ b, Z b → ¬ U b) → Calls Tryz.prog g args W fun e W' => ∃ Zn, Q Zn e W' ∧ (∃ U', Grows W U U' ∧ RA w W' U' k q Y2.d Y2.f 0 ∧ ∀ b, Zn b → W.heap.size ≤ b ∧ b < W'.heap.size ∧ ¬ U' b) ∧ Only U W W') :
  Calls Tryz.prog g args W fun e W' => ∃ Zn, Q Zn e W' ∧ FY w k p q X Y2 dv wv (fun b => Z b ∨ Zn b) W' ∧ Kz Z W W' ∧ W.heap.size ≤ W'.heap.size := by
 obtain ⟨T, U, h1, h2, h3, h4, h5, h6⟩ := h.ex
 refine (hc U h2 (h5.keep (fun _ _ _ => rfl) (fun _ _ h => .inr h)) (fun b hz => (h6 b hz).2.2)).mono ?_
 rintro e W' ⟨Zn, hQ, ⟨U', hg, hf, hn⟩, ho⟩
 have hUU : ∀ b, b < W.heap.size → U' b → U b := fun b hb ht => (hg.2 b ht).elim id (fun h => by omega)
 have hk : ∀ b, b < W.heap.size → ¬ (T b ∨ U b) → W'.heap[b]? = W.heap[b]? := fun b hb hn => ho.block b hb (fun ht => hn (.inr ht))
 have hT2 : ∀ b, b < W.heap.size → (T b ∨ U' b) → (T b ∨ U b) := fun b hb e => e.elim .inl (fun ht => .inr (hUU b hb ht))
 refine ⟨Zn, hQ, ⟨T, U', h1.only ho (fun b hb ht => by have := h2.ge b ht; omega) (fun b ht hu => h3 b ht hu), hf, fun b ht hu => h3 b ht (hUU b (h1.lt b ht) hu), h4.keep hk hT2, h5.keep hk hT2, fun b hz => ?_⟩, fun b hz => ho.block b (h6 b hz).1 (h6 b hz).2.2, ho.size⟩
 rcases hz with hz | hz
 ·exact ⟨Nat.lt_of_lt_of_le (h6 b hz).1 ho.size, (h6 b hz).2.1, fun ht => (h6 b hz).2.2 (hUU b (h6 b hz).1 ht)⟩
 ·obtain ⟨a1, a2, a3⟩ := hn b hz
  exact ⟨a2, fun ht => by have := h1.lt b ht; omega, a3⟩
theorem FY.plook (h : FY w k p q X Y dv wv Z W) {i : Nat} (hi : i < k) {g : FuncId} {args : Array Value} {R : Ending → World → Prop} (hc : ∀ fu S m L, DrC W S (p i) m fu (X.d i) L → FuAt W S fu X.f → Calls Tryz.prog g args W R) : Calls Tryz.prog g args W R := by
 obtain ⟨T, U, h1, _⟩ := h.ex
 exact h1.look hi fun fu S m L a b => hc fu S m L a (by simpa [fAt] using b)
theorem FY.rlook (h : FY w k p q X Y dv wv Z W) {i : Nat} (hi : i < k) {g : FuncId} {args : Array Value} {R : Ending → World → Prop} (hc : ∀ fu S v L, RfC W S (q i) v fu (Y.d i) L → FuR W S fu Y.f → Calls Tryz.prog g args W R) : Calls Tryz.prog g args W R := by
 obtain ⟨T, U, _, h2, _⟩ := h.ex
 exact h2.look hi fun fu S m L a b => hc fu S m L a (by simpa [fAt] using b)
theorem FY.dls (h : FY w k p q X Y dv wv Z W) : LsAt W (fun _ => False) dv k p := by obtain ⟨T, U, _, _, _, h4, _⟩ := h.ex; exact h4.none
theorem FY.wls (h : FY w k p q X Y dv wv Z W) : LsAt W (fun _ => False) wv k q := by obtain ⟨T, U, _, _, _, _, h5, _⟩ := h.ex; exact h5.none
theorem FY.fine (h : FY w k p q X Y dv wv Z W) {i : Nat} (hi : i < k) : (X.d i).fine := by
 obtain ⟨T, U, h1, _⟩ := h.ex
 obtain ⟨S, m, fu, L, hd⟩ := h1.drc hi
 refine ⟨hd.srtF, hd.us, hd.sz, fun x hx y hy => ?_⟩
 rw [hd.fs] at hx
 obtain ⟨z, hz, rfl⟩ := List.mem_map.1 hx
 exact hd.by8 z hz y hy
theorem FY.okn (h : FY w k p q X Y dv wv Z W) {i : Nat} (hi : i < k) : ∀ x ∈ (X.d i).F, okNm x.1 = true := by obtain ⟨T, U, h1, _⟩ := h.ex; exact h1.okn hi
theorem FY.gd (h : FY w k p q X Y dv wv Z W) {i : Nat} (hi : i < k) : Gd (X.d i) := ⟨(h.fine hi).so, (h.fine hi).us, (h.fine hi).sz⟩
theorem FY.opsR (h : FY w k p q X Y dv wv Z W) {i : Nat} (hi : i < k) : W.cell? ⟨q i, 6, none⟩ = some (.int .i64 ((Y.d i).ops : Int)) := by
 obtain ⟨T, U, _, h2, _⟩ := h.ex
 obtain ⟨R, fu, hdr, _⟩ := h2.ex
 obtain ⟨v, L, hd⟩ := hdr i hi
 exact hd.c.cell 6
end
end Go.Proofs.YtfogkegmdgbecaaGreatDoor

/- drives of FanScript: so many drives, and the document's. -/
namespace Go.Proofs.YtfogkegmdgbecaaGreatDoor
open Go Go.RowKit Go.Shelf

/-- Drives of either kind under way, their lists in a struct at bx. -/
structure DvI (w w1 : World) (bx size i : Nat) (p q : Nat → Nat) (dv wv : Value) (W : World) : Prop where
 ex : ∃ T U, FA w W T i p (fun _ => fresh size) none 0 ∧ RA w W U i q (fun _ => fresh size) none 0 ∧ (∀ b, T b → ¬ U b) ∧ (∀ b, T b ∨ U b → w1.heap.size ≤ b) ∧ ∀ b, (T b ∨ U b) → dv.ownBlock ≠ some b ∧ wv.ownBlock ≠ some b ∧ b ≠ bx
 od : W.ownsRow w1.heap.size 38 1 dv i ((List.range i).map fun j => ptr (p j))
 ow : W.ownsRow w1.heap.size 42 1 wv i ((List.range i).map fun j => ptr (q j))
 cb : CAt W bx #[dv, wv] 26
 gx : w1.heap.size ≤ bx
 be : Below w1.heap.size w1 W
 zd : i = 0 → dv = .slice none 0 0
 zw : i = 0 → wv = .slice none 0 0
theorem Tryz.infoDq : (Tryz.prog.info? 42).map (fun i => (i.zero, i.size, i.bytes)) = some (some (.pointer none), 1, 8) := by kernel_rfl
section
variable {w w1 W W2 : World} {bx size i : Nat} {p q : Nat → Nat} {dv wv : Value}
theorem DvI.ne_bx (h : DvI w w1 bx size i p q dv wv W) {b t sz n : Nat} {v : Value} {xs : List Value} {B : Nat} (ho : W.ownsRow B t sz v n xs) (hb : v.ownBlock = some b) (ht : t ≠ 26) : b ≠ bx := fun e => by
 obtain ⟨c1, e1⟩ := own_at ho hb
 have e2 : W.heap[bx]? = _ := h.cb
 rw [← e, e1] at e2
 exact ht (Obj.cells.inj (Option.some.inj e2)).2.1
/-- A drive of each kind has been made: the lists with one more. -/
theorem DvI.next (h : DvI w w1 bx size i p q dv wv W) (hw : w.heap.size ≤ w1.heap.size) (hi : i ≤ 1000) {a b : Nat} {W1 : World} (hd : DrAt W1 (fun b => W.heap.size ≤ b ∧ b < W1.heap.size) a none (fresh size)) (hb1 : Below W.heap.size W W1)
  (hr : RfAt W2 (fun b => W1.heap.size ≤ b ∧ b < W2.heap.size) b none (fresh size)) (hb2 : Below W1.heap.size W1 W2) :
  ∃ dp dc w3, (Builtin.append_ #[23, 23] 23 #[dv, .slice (some ⟨W2.heap.size, 0, none⟩) 1 1]).run Tryz.prog (W2.alloc (.cells #[ptr a] 38)) = .ok (.slice dp (i + 1) dc) w3 ∧
   w3.cell? ⟨bx, 0, none⟩ = some dv ∧ w3.frozen? ⟨bx, 0, none⟩ = false ∧ (w3.setCell ⟨bx, 0, none⟩ (.slice dp (i + 1) dc)).cell? ⟨bx, 1, none⟩ = some wv ∧
   ∃ wp wc w4, (Builtin.append_ #[24, 24] 24 #[wv, .slice (some ⟨(w3.setCell ⟨bx, 0, none⟩ (.slice dp (i + 1) dc)).heap.size, 0, none⟩) 1 1]).run Tryz.prog ((w3.setCell ⟨bx, 0, none⟩ (.slice dp (i + 1) dc)).alloc (.cells #[ptr b] 42)) = .ok (.slice wp (i + 1) wc) w4 ∧
   w4.cell? ⟨bx, 1, none⟩ = some wv ∧ w4.frozen? ⟨bx, 1, none⟩ = false ∧ DvI w w1 bx size (i + 1) (upd p i a) (upd q i b) (.slice dp (i + 1) dc) (.slice wp (i + 1) wc) (w4.setCell ⟨bx, 1, none⟩ (.slice wp (i + 1) wc)) := by
 obtain ⟨T, U, hT, hU, hdj, hge, hne⟩ := h.ex
 have hb12 : Below W.heap.size W W2 := below_on _ _ hb1 hb2
 have z1 := h.be.size; have z2 := hb1.size; have z3 := hb2.size
 have hbxl : bx < W.heap.size := h.cb.lt
 obtain ⟨T1, hg1, hT1⟩ := hT.more hd hb1
 obtain ⟨U1, hg2, hU1⟩ := (hU.below hb1).more hr hb2
 have ef : upd (fun _ => fresh size) i (fresh size) = fun _ => fresh size := by funext j; unfold upd; split <;> rfl
 rw [ef] at hT1 hU1
 have hT2 := hT1.below hb2
 have hdj1 : ∀ x, T1 x → ¬ U1 x := fun x ht hu => by
  have l1 := hT1.lt x ht
  rcases hg2.2 x hu with hu | hu
  ·rcases hg1.2 x ht with ht | ht
   ·exact hdj x ht hu
   ·have := hU.lt x hu; omega
  ·omega
 have hold : ∀ x, (T1 x ∨ U1 x) → (T x ∨ U x) ∨ W.heap.size ≤ x := fun x e => by
  rcases e with e | e
  ·exact (hg1.2 x e).elim (fun e => .inl (.inl e)) .inr
  ·exact (hg2.2 x e).elim (fun e => .inl (.inr e)) (fun e => .inr (by omega))
 have hge1 : ∀ x, T1 x ∨ U1 x → w1.heap.size ≤ x := fun x e => (hold x e).elim (hge x) (fun e => by omega)
 have apart : ∀ x, (T1 x ∨ U1 x) → dv.ownBlock ≠ some x ∧ wv.ownBlock ≠ some x ∧ x ≠ bx := fun x e => by
  rcases hold x e with e | e
  ·exact hne x e
  ·exact ⟨fun ev => by have := (own_ge h.od x ev).2; omega, fun ev => by have := (own_ge h.ow x ev).2; omega, by omega⟩
 have od2 : W2.ownsRow w1.heap.size 38 1 dv i ((List.range i).map fun j => ptr (p j)) := ownsRow_keep h.od fun x hx => hb12.block x (own_ge h.od x hx).2
 have ow2 : W2.ownsRow w1.heap.size 42 1 wv i ((List.range i).map fun j => ptr (q j)) := ownsRow_keep h.ow fun x hx => hb12.block x (own_ge h.ow x hx).2
 have cb2 : CAt W2 bx #[dv, wv] 26 := h.cb.below hb12
 obtain ⟨v3, w3, r3, o3, on3, w3c, _⟩ := own_push (T := 23) Tryz.underlying23 Tryz.infoDp rfl (by decide) od2 #[ptr a] rfl (by simp [ptr, Value.oneCell']) (by omega) (by decide) (by omega)
 obtain ⟨dp, dc, rfl⟩ := own_form o3
 have nd : ∀ x, dv.ownBlock = some x → x ≠ bx := fun x hx => h.ne_bx h.od hx (by decide)
 have nw : ∀ x, wv.ownBlock = some x → x ≠ bx := fun x hx => h.ne_bx h.ow hx (by decide)
 have cb3 : CAt w3 bx #[dv, wv] 26 := cb2.keep (on3.block bx cb2.lt (fun e => nd bx e rfl))
 have ow3 : w3.ownsRow w1.heap.size 42 1 wv i ((List.range i).map fun j => ptr (q j)) := ownsRow_keep ow2 fun x hx => on3.block x (own_ge ow2 x hx).2 (fun e => by
  obtain ⟨c1, e1⟩ := own_at ow2 hx
  obtain ⟨c2, e2⟩ := own_at od2 e
  rw [e1] at e2; have := (Obj.cells.inj (Option.some.inj e2)).2.1; revert this; decide)
 have s3 := on3.size
 have T3 := hT2.only on3 (fun x hx e => by have := (own_ge od2 x e).1; omega) (fun x ht e => (apart x (.inl ht)).1 e)
 have U3 := hU1.only on3 (fun x hx e => by have := (own_ge od2 x e).1; omega) (fun x ht e => (apart x (.inr ht)).1 e)
 have dn : ∀ x, (Value.slice dp (i + 1) dc).ownBlock = some x → (dv.ownBlock = some x ∨ W2.heap.size ≤ x) := fun x hx => by
  rcases w3c with e | ⟨y, e, hy⟩
  ·exact .inl (e ▸ hx)
  ·rw [e] at hx; cases hx; exact .inr hy
 -- the struct's first field
 obtain ⟨w3', hw3'⟩ : ∃ w3', w3.setCell ⟨bx, 0, none⟩ (.slice dp (i + 1) dc) = w3' := ⟨_, rfl⟩
 have k3 : ∀ x, x ≠ bx → w3'.heap[x]? = w3.heap[x]? := fun x hx => by rw [← hw3']; exact heap_setCell_ne _ _ _ _ hx
 have sz3 : w3'.heap.size = w3.heap.size := by rw [← hw3']; exact setCell_size _ _ _
 have cb3' : CAt w3' bx #[.slice dp (i + 1) dc, wv] 26 := by rw [← hw3']; have := cb3.set 0 (.slice dp (i + 1) dc); simpa using this
 have on3' : Only (fun x => bx = x) w3 w3' := by rw [← hw3']; exact Only.set w3 ⟨bx, 0, none⟩ _ rfl
 have o3' : w3'.ownsRow w1.heap.size 38 1 (.slice dp (i + 1) dc) (i + 1) (((List.range i).map fun j => ptr (p j)) ++ [ptr a]) := ownsRow_keep o3 fun x hx => k3 x (fun e => by
  rcases dn x hx with e2 | e2
  ·exact nd x e2 e
  ·omega)
 have ow3' : w3'.ownsRow w1.heap.size 42 1 wv i ((List.range i).map fun j => ptr (q j)) := ownsRow_keep ow3 fun x hx => k3 x (nw x hx)
 obtain ⟨v4, w4, r4, o4, on4, w4c, _⟩ := own_push (T := 24) Tryz.underlying24 Tryz.infoDq rfl (by decide) ow3' #[ptr b] rfl (by simp [ptr, Value.oneCell']) (by omega) (by decide) (by omega)
 obtain ⟨wp, wc, rfl⟩ := own_form o4
 have cb4 : CAt w4 bx #[.slice dp (i + 1) dc, wv] 26 := cb3'.keep (on4.block bx cb3'.lt (fun e => nw bx e rfl))
 have o4d : w4.ownsRow w1.heap.size 38 1 (.slice dp (i + 1) dc) (i + 1) (((List.range i).map fun j => ptr (p j)) ++ [ptr a]) := ownsRow_keep o3' fun x hx => on4.block x (own_ge o3' x hx).2 (fun e => by
  obtain ⟨c1, e1⟩ := own_at o3' hx
  obtain ⟨c2, e2⟩ := own_at ow3' e
  rw [e1] at e2; have := (Obj.cells.inj (Option.some.inj e2)).2.1; revert this; decide)
 have wn : ∀ x, (Value.slice wp (i + 1) wc).ownBlock = some x → (wv.ownBlock = some x ∨ w3'.heap.size ≤ x) := fun x hx => by
  rcases w4c with e | ⟨y, e, hy⟩
  ·exact .inl (e ▸ hx)
  ·rw [e] at hx; cases hx; exact .inr hy
 have s4 := on4.size
 have gx := h.gx
 have T4 := (T3.only on3' (fun x hx e => by omega) (fun x ht e => (apart x (.inl ht)).2.2 e.symm)).only on4 (fun x hx e => by have := (own_ge ow3' x e).1; omega) (fun x ht e => (apart x (.inl ht)).2.1 e)
 have U4 := (U3.only on3' (fun x hx e => by have := h.gx; omega) (fun x ht e => (apart x (.inr ht)).2.2 e.symm)).only on4 (fun x hx e => by have := (own_ge ow3' x e).1; omega) (fun x ht e => (apart x (.inr ht)).2.1 e)
 refine ⟨dp, dc, w3, r3, cb3.cell 0, cb3.free 0, by rw [hw3']; exact cb3'.cell 1, wp, wc, w4, by rw [hw3']; exact r4, cb4.cell 1, cb4.free 1, ?_⟩
 obtain ⟨w5, hw5⟩ : ∃ w5, w4.setCell ⟨bx, 1, none⟩ (.slice wp (i + 1) wc) = w5 := ⟨_, rfl⟩
 have k5 : ∀ x, x ≠ bx → w5.heap[x]? = w4.heap[x]? := fun x hx => by rw [← hw5]; exact heap_setCell_ne _ _ _ _ hx
 have on5 : Only (fun x => bx = x) w4 w5 := by rw [← hw5]; exact Only.set w4 ⟨bx, 1, none⟩ _ rfl
 rw [hw5]
 have lt4 : ∀ x, (T1 x ∨ U1 x) → x < W2.heap.size := fun x e => e.elim (fun e => hT2.lt x e) (fun e => hU1.lt x e)
 refine ⟨⟨T1, U1, T4.only on5 (fun x hx e => by omega) (fun x ht e => (apart x (.inl ht)).2.2 e.symm), U4.only on5 (fun x hx e => by omega) (fun x ht e => (apart x (.inr ht)).2.2 e.symm), hdj1, hge1, fun x e => ⟨fun ev => ?_, fun ev => ?_, (apart x e).2.2⟩⟩, ?_, ?_, ?_, gx, ?_, fun e => by omega, fun e => by omega⟩
 ·rcases dn x ev with e2 | e2
  ·exact (apart x e).1 e2
  ·have := lt4 x e; omega
 ·rcases wn x ev with e2 | e2
  ·exact (apart x e).2.1 e2
  ·have := lt4 x e; omega
 ·have e : (List.range (i + 1)).map (fun j => ptr (upd p i a j)) = ((List.range i).map fun j => ptr (p j)) ++ [ptr a] := by
    have e0 : (List.range i).map (fun j => ptr (upd p i a j)) = (List.range i).map fun j => ptr (p j) := List.map_congr_left fun j hj => by rw [upd_ne _ _ (by have := List.mem_range.1 hj; omega)]
    rw [List.range_succ, List.map_append, e0]
    simp only [List.map_cons, List.map_nil, upd_same]
  rw [e]
  exact ownsRow_keep o4d fun x hx => k5 x (fun e2 => by
   rcases dn x hx with e3 | e3
   ·exact nd x e3 e2
   ·omega)
 ·have e : (List.range (i + 1)).map (fun j => ptr (upd q i b j)) = ((List.range i).map fun j => ptr (q j)) ++ [ptr b] := by
    have e0 : (List.range i).map (fun j => ptr (upd q i b j)) = (List.range i).map fun j => ptr (q j) := List.map_congr_left fun j hj => by rw [upd_ne _ _ (by have := List.mem_range.1 hj; omega)]
    rw [List.range_succ, List.map_append, e0]
    simp only [List.map_cons, List.map_nil, upd_same]
  rw [e]
  exact ownsRow_keep o4 fun x hx => k5 x (fun e2 => by
   rcases wn x hx with e3 | e3
   ·exact nw x e3 e2
   ·omega)
 ·rw [← hw5]; have := cb4.set 1 (.slice wp (i + 1) wc); simpa using this
 ·refine ⟨?_, ?_, ?_, ?_, fun x hx => ?_⟩
  ·exact on5.os.trans (on4.os.trans (on3'.os.trans (on3.os.trans (hb12.os.trans h.be.os))))
  ·exact on5.tape.trans (on4.tape.trans (on3'.tape.trans (on3.tape.trans (hb12.tape.trans h.be.tape))))
  ·exact on5.output.trans (on4.output.trans (on3'.output.trans (on3.output.trans (hb12.output.trans h.be.output))))
  ·have := on5.size; omega
  ·refine (on5.block x (by omega) (fun e => by omega)).trans ((on4.block x (by omega) (fun e => by have := (own_ge ow3' x e).1; omega)).trans ((on3'.block x (by omega) (fun e => by omega)).trans ((on3.block x (by omega) (fun e => by have := (own_ge od2 x e).1; omega)).trans ((hb12.block x (by omega)).trans (h.be.block x hx)))))
theorem DvI.done (h : DvI w w1 bx size i p q dv wv W) : FY w i p q ⟨fun _ => fresh size, none⟩ ⟨fun _ => fresh size, none⟩ dv wv (fun b => b < w1.heap.size) W := by
 obtain ⟨T, U, hT, hU, hdj, hge, hne⟩ := h.ex
 refine ⟨T, U, hT, hU, hdj, ⟨?_⟩, ⟨?_⟩, fun b hb => ⟨Nat.lt_of_lt_of_le hb h.be.size, fun ht => by have := hge b (.inl ht); omega, fun hu => by have := hge b (.inr hu); omega⟩⟩
 ·rcases Nat.eq_zero_or_pos i with e | hi
  ·exact .inl ⟨e, h.zd e⟩
  ·obtain ⟨g, c, rfl, _, _, hc⟩ := own_get h.od hi
   exact .inr ⟨hi, g, c, rfl, fun e => (hne g e).1 rfl, fun j hj => by rw [hc j hj]; simp [hj]⟩
 ·rcases Nat.eq_zero_or_pos i with e | hi
  ·exact .inl ⟨e, h.zw e⟩
  ·obtain ⟨g, c, rfl, _, _, hc⟩ := own_get h.ow hi
   exact .inr ⟨hi, g, c, rfl, fun e => (hne g e).2.1 rfl, fun j hj => by rw [hc j hj]; simp [hj]⟩
end
def DrvAt (w w1 : World) (n : Nat) (e : Ending) (w' : World) : Prop :=
 ∃ k p q dv wv sz, e = .returned (.tuple #[.agg #[dv, wv], .bool true]) ∧ k ≤ n ∧ FY w k p q ⟨fun _ => fresh sz, none⟩ ⟨fun _ => fresh sz, none⟩ dv wv (fun b => b < w1.heap.size) w' ∧ Below w1.heap.size w1 w'
theorem drv_ret {fn : Func} {pp u : Tmp} (h : fn.results = #[.cell pp 26, .tmp u]) {R : Ending → World → Prop} {a : Act} {w : World} (g : Nat) (v l x : Value)
  (hd0 : a.defers = []) (hp : a.tmps.getD pp undef = ptr g) (hv : a.tmps.getD u undef = x) (hg : w.heap[g]? = some (.cells #[v, l] 26)) (hR : R (.returned (.tuple #[.agg #[v, l], x])) w) : bodyPost Tryz.prog fn R .ret a w := by
 refine ⟨hd0, .tuple #[.agg #[v, l], x], ?_, hR⟩
 have hi : (Tryz.prog.info? 26).map (·.size) = some 2 := by kernel_rfl
 have hl := run_loadVar_row (P := Tryz.prog) w g _ _ #[v, l] _ _ hg Tryz.underlying26 rfl hi
 rw [results_cell_tmp h, hp, hv]
 simp [asAddr, hl]
set_option maxHeartbeats 4000000 in
set_option maxRecDepth 100000 in
theorem drives10_any (w w1 : World) (hb : Below w.heap.size w w1) (n : Nat) (hn : n ≤ 18) (size : Int) : Calls Tryz.prog 4 #[.int .i64 (n : Int), .int .i64 size] w1 (DrvAt w w1 n) := by
 obtain ⟨wa, hwa⟩ : ∃ wa, w1.alloc (.cells #[.slice none 0 0, .slice none 0 0] 26) = wa := ⟨_, rfl⟩
 have hba : Below w1.heap.size w1 wa := by rw [← hwa]; exact (Below.refl _ _).alloc (Nat.le_refl _) _
 have hza : CAt wa w1.heap.size #[.slice none 0 0, .slice none 0 0] 26 := by rw [← hwa]; exact CAt.made _ _ _
 have hsa : wa.heap.size = w1.heap.size + 1 := by rw [← hwa]; simp
 obtain ⟨wb, hwb⟩ : ∃ wb, wa.alloc (.cells #[.slice none 0 0, .slice none 0 0] 26) = wb := ⟨_, rfl⟩
 have hbb : Below wa.heap.size wa wb := by rw [← hwb]; exact (Below.refl _ _).alloc (Nat.le_refl _) _
 have hzb : CAt wb wa.heap.size #[.slice none 0 0, .slice none 0 0] 26 := by rw [← hwb]; exact CAt.made _ _ _
 have hba2 := below_on _ _ hb hba
 by_cases hsz : 1 ≤ size ∧ size ≤ 67108864
 ·obtain ⟨sz, rfl⟩ : ∃ sz : Nat, size = (sz : Int) := ⟨size.toNat, by omega⟩
  have HN1 := hid (fun W => new_ok sz (by omega) (by omega) W)
  have HN2 := hid (fun W => rnew_ok sz (by omega) (by omega) W)
  have H0 : Hid (DvI w wa wa.heap.size sz 0 (fun _ => 0) (fun _ => 0) (.slice none 0 0) (.slice none 0 0) wb) := hid ⟨⟨fun _ => False, fun _ => False, FA.empty w wb (below_on _ _ hba2 hbb) _ _, RA.empty w wb (below_on _ _ hba2 hbb) _ _, fun _ h => h.elim, fun _ h => (h.elim id id).elim, fun _ h => (h.elim id id).elim⟩, World.ownsRow_nil _ _ _ _, World.ownsRow_nil _ _ _ _, hzb, Nat.le_refl _, hbb, fun _ => rfl, fun _ => rfl⟩
  have hwl : w.heap.size ≤ wa.heap.size := hba2.size
  have hz1 : w.heap.size ≤ w1.heap.size := hb.size
  have HFI : Hid (∀ i p q dv wv W, DvI w wa wa.heap.size sz i p q dv wv W → i ≤ n → ∀ W', Only (fun b => w1.heap.size = b) W W' → DrvAt w w1 n (.returned (.tuple #[.agg #[dv, wv], .bool true])) W') := hid (fun i p q dv wv W h hi W' ho => by
   refine ⟨i, p, q, dv, wv, sz, rfl, hi, (h.done.write ho (fun b e _ => by subst e; exact ⟨by omega, hz1⟩) (fun b e => ?_) (fun b e => ?_)).less (fun b hb => Nat.lt_of_lt_of_le hb (by omega)), ?_⟩
   ·have := (own_ge h.od b e).1; intro e2; omega
   ·have := (own_ge h.ow b e).1; intro e2; omega
   ·have z := h.be.size
    exact ⟨ho.os.trans (h.be.os.trans hba.os), ho.tape.trans (h.be.tape.trans hba.tape), ho.output.trans (h.be.output.trans hba.output), by have := ho.size; have := hba.size; omega, fun b hb' => (ho.block b (by omega) (fun e => by omega)).trans ((h.be.block b (by omega)).trans (hba.block b hb'))⟩)
  have HZ : Hid (∀ i p q dv wv W, DvI w wa wa.heap.size sz i p q dv wv W → CAt W w1.heap.size #[.slice none 0 0, .slice none 0 0] 26) := hid (fun i p q dv wv W h => hza.below h.be)
  have HNX := hid (fun i p q dv wv W a b W1 W2 (h : DvI w wa wa.heap.size sz i p q dv wv W) hi hd hb1 hr hb2 => h.next (W2 := W2) (W1 := W1) (a := a) (b := b) hwl hi hd hb1 hr hb2)
  rw [hsa] at *
  have hwb2 : (w1.alloc (.cells #[.slice none 0 0, .slice none 0 0] 26)).alloc (.cells #[.slice none 0 0, .slice none 0 0] 26) = wb := by rw [hwa]; exact hwb
  clear hba hza hbb hzb hba2 hb hwa hwb
  go_enter Tryz.func4, Tryz.ntmps4
  go_wp2_with fail
  try rw [hwb2]
  clear hwb2
  go_loopw [7] (fun v wr => ∃ i p q dv wv, i ≤ n ∧ v = .int .i64 (i : Int) ∧ DvI w wa (w1.heap.size + 1) sz i p q dv wv wr) (fun v _ => (1000 - intOf v).toNat)
  case atStart => exact ⟨0, _, _, _, _, Nat.zero_le _, rfl, H0.out⟩
  case round =>
   clear H0
   obtain ⟨i, p, q, dv, wv, hi, rfl, hI⟩ := hrel
   have HI := hid hI
   clear hI
   obtain ⟨dp0, dc0, hdv⟩ := own_form HI.out.od
   obtain ⟨wp0, wc0, hwv⟩ := own_form HI.out.ow
   subst hdv hwv
   by_cases hlt : i < n
   ·have hlt' : (i : Int) < (n : Int) := by omega
    have hi2 : (i : Int) < 1000 := by omega
    have hi3 : i ≤ 1000 := by omega
    go_upto_region 11 with (first
     | (go_at_call 9; refine (HN1.out _).mono ?_; rintro e w2 ⟨a, rfl, hd2, hb2⟩; have HD2 := hid hd2; have HB2 := hid hb2; clear hd2 hb2)
     | (go_at_call 10; refine (HN2.out _).mono ?_; rintro e w3 ⟨b, rfl, hd3, hb3⟩; obtain ⟨dp, dc, w4, r4, c4, f4, c5, wp, wc, w5, r5, c6, f6, hnx⟩ := HNX.out i p q _ _ wr a b w2 w3 HI.out hi3 HD2.out HB2.out hd3 hb3; have HR4 := hid r4; have HR5 := hid r5; have HNE := hid hnx; have x0 : w3.cell? ⟨w1.heap.size + 1, 0, none⟩ = some (.slice dp0 i dc0) := (HI.out.cb.below (below_on _ _ HB2.out hb3)).cell 0; clear hd3 hb3 r4 r5 hnx))
    go_upto_region 12 with (first
     | (at_builtin; refine wpList_append_run _ _ 23 rfl rfl _ _ (.slice dp (i + 1) dc) rfl rfl HR4.out ?_; clear HR4))
    clear x0 c4 f4
    obtain ⟨w4', hw4⟩ : ∃ w4', w4.setCell ⟨w1.heap.size + 1, 0, none⟩ (.slice dp (i + 1) dc) = w4' := ⟨_, rfl⟩
    rw [hw4] at c5 HR5 ⊢
    clear hw4
    go_wp2_with (first
     | (at_builtin; refine wpList_append_run _ _ 24 rfl rfl _ _ (.slice wp (i + 1) wc) rfl rfl HR5.out ?_; clear HR5))
    go_roundw
    case rel => exact ⟨i + 1, _, _, _, _, by omega, by go_num, HNE.out⟩
    case measure => simp only [intOf]; omega
   ·have hlt' : ¬ (i : Int) < (n : Int) := by omega
    have y0 : wr.cell? ⟨w1.heap.size + 1, 0, none⟩ = some (.slice dp0 i dc0) := HI.out.cb.cell 0
    have y1 : wr.cell? ⟨w1.heap.size + 1, 1, none⟩ = some (.slice wp0 i wc0) := HI.out.cb.cell 1
    have hz := HZ.out _ _ _ _ _ _ HI.out
    have HZC := hid hz
    have z0 : wr.cell? ⟨w1.heap.size, 0, none⟩ = some (.slice none 0 0) := hz.cell 0
    have z1 : wr.cell? ⟨w1.heap.size, 1, none⟩ = some (.slice none 0 0) := hz.cell 1
    have f0 : wr.frozen? ⟨w1.heap.size, 0, none⟩ = false := hz.free 0
    have f1 : wr.frozen? ⟨w1.heap.size, 1, none⟩ = false := hz.free 1
    have HEN := hid (HFI.out _ _ _ _ _ _ HI.out hi)
    clear hz HI
    go_wp2
    refine drv_ret rfl w1.heap.size _ _ _ rfl rfl rfl ?_ (HEN.out _ ?_)
    ·refine (show CAt _ _ _ _ from ?_); have := (HZC.out.set 0 (.slice dp0 i dc0)).set 1 (.slice wp0 i wc0); simpa using this
    ·exact (Only.set wr ⟨w1.heap.size, 0, none⟩ (.slice dp0 i dc0) (rfl : (fun b => w1.heap.size = b) _)).trans (Only.set _ ⟨w1.heap.size, 1, none⟩ (.slice wp0 i wc0) (rfl : (fun b => w1.heap.size = b) _))
 ·have hbad : size < 1 ∨ 67108864 < size := by omega
  have HN1 := hid (fun W => new_bad size hbad W)
  have HN2 := hid (fun W => rnew_bad size hbad W)
  have HEN : Hid (∀ W', Only (fun b => w1.heap.size = b) wb W' → DrvAt w w1 n (.returned (.tuple #[.agg #[.slice none 0 0, .slice none 0 0], .bool true])) W') := hid (fun W' ho => by
   have hbW : Below w1.heap.size w1 W' := ⟨ho.os.trans (hbb.os.trans hba.os), ho.tape.trans (hbb.tape.trans hba.tape), ho.output.trans (hbb.output.trans hba.output), by have := ho.size; have := hbb.size; omega, fun b hb' => (ho.block b (by have := hbb.size; omega) (fun e => by omega)).trans ((hbb.block b (by omega)).trans (hba.block b hb'))⟩
   exact ⟨0, fun _ => 0, fun _ => 0, _, _, 0, rfl, Nat.zero_le _, ⟨fun _ => False, fun _ => False, FA.empty w W' (below_on _ _ hb hbW) _ _, RA.empty w W' (below_on _ _ hb hbW) _ _, fun _ h => h.elim, ⟨.inl ⟨rfl, rfl⟩⟩, ⟨.inl ⟨rfl, rfl⟩⟩, fun b hb => ⟨Nat.lt_of_lt_of_le hb hbW.size, id, id⟩⟩, hbW⟩)
  have hzc : CAt wb w1.heap.size #[.slice none 0 0, .slice none 0 0] 26 := hza.below hbb
  have HZC := hid hzc
  have hwb2 : (w1.alloc (.cells #[.slice none 0 0, .slice none 0 0] 26)).alloc (.cells #[.slice none 0 0, .slice none 0 0] 26) = wb := by rw [hwa]; exact hwb
  rw [hsa] at hzb
  have y0 : wb.cell? ⟨w1.heap.size + 1, 0, none⟩ = some (.slice none 0 0) := hzb.cell 0
  have y1 : wb.cell? ⟨w1.heap.size + 1, 1, none⟩ = some (.slice none 0 0) := hzb.cell 1
  have z0 : wb.cell? ⟨w1.heap.size, 0, none⟩ = some (.slice none 0 0) := hzc.cell 0
  have z1 : wb.cell? ⟨w1.heap.size, 1, none⟩ = some (.slice none 0 0) := hzc.cell 1
  have f0 : wb.frozen? ⟨w1.heap.size, 0, none⟩ = false := hzc.free 0
  have f1 : wb.frozen? ⟨w1.heap.size, 1, none⟩ = false := hzc.free 1
  clear hba hza hbb hzb hba2 hb hwa hwb hzc hsa hbad hsz
  go_enter Tryz.func4, Tryz.ntmps4
  go_wp2_with fail
  try rw [hwb2]
  clear hwb2
  go_loopw [7] (fun v wr => v = .int .i64 0 ∧ wb = wr) (fun v _ => (1000 - intOf v).toNat)
  case atStart => exact ⟨rfl, rfl⟩
  case round =>
   obtain ⟨rfl, hw⟩ := hrel
   subst hw
   by_cases hlt : 0 < n
   ·have hlt' : (0 : Int) < (n : Int) := by omega
    go_wp2_with (first
     | (go_at_call 9; refine (HN1.out _).mono ?_; rintro e w2 ⟨rfl, hw'⟩; have hw2 := hw'.symm; subst hw2)
     | (go_at_call 10; refine (HN2.out _).mono ?_; rintro e w3 ⟨rfl, hw'⟩; have hw2 := hw'.symm; subst hw2))
    refine drv_ret rfl w1.heap.size _ _ _ rfl rfl rfl ?_ (HEN.out _ ?_)
    ·refine (show CAt _ _ _ _ from ?_); have := (HZC.out.set 0 (.slice none 0 0)).set 1 (.slice none 0 0); simpa using this
    ·exact (Only.set wb ⟨w1.heap.size, 0, none⟩ (.slice none 0 0) (rfl : (fun b => w1.heap.size = b) _)).trans (Only.set _ ⟨w1.heap.size, 1, none⟩ (.slice none 0 0) (rfl : (fun b => w1.heap.size = b) _))
   ·have hn0 : n = 0 := by omega
    subst hn0
    go_wp2
    refine drv_ret rfl w1.heap.size _ _ _ rfl rfl rfl ?_ (HEN.out _ ?_)
    ·refine (show CAt _ _ _ _ from ?_); have := (HZC.out.set 0 (.slice none 0 0)).set 1 (.slice none 0 0); simpa using this
    ·exact (Only.set wb ⟨w1.heap.size, 0, none⟩ (.slice none 0 0) (rfl : (fun b => w1.heap.size = b) _)).trans (Only.set _ ⟨w1.heap.size, 1, none⟩ (.slice none 0 0) (rfl : (fun b => w1.heap.size = b) _))
end Go.Proofs.YtfogkegmdgbecaaGreatDoor

/- Files of the statements (three, some of them): as they came in; large, list. -/
namespace Go.Proofs.YtfogkegmdgbecaaGreatDoor
open Go Go.RowKit Go.Shelf

/-- Bytes that came in. -/
structure BV where
 po : Option Addr
 c : Nat
 bs : List Nat
abbrev BV.v (x : BV) : Value := .slice x.po x.bs.length x.c
structure BV.ok (w : World) (x : BV) : Prop where
 b8 : ∀ y ∈ x.bs, y < 256
 bt : BAt w x.po x.bs
structure FilV where
 a : BV
 b : BV
 c : BV
 has : Int
structure FilV.ok (w : World) (x : FilV) : Prop where
 a : x.a.ok w
 b : x.b.ok w
 c : x.c.ok w
abbrev bitI (x y : Int) : Int := bits .and .i64 x y
def BV.fl (x : BV) (s : Nm) : FlV := ⟨s, x.po, x.c, x.bs⟩
def FilV.fls (x : FilV) : List FlV := (if bitI x.has 1 = 1 then [x.a.fl [97]] else []) ++ ((if bitI x.has 2 = 2 then [x.b.fl [98]] else []) ++ (if bitI x.has 4 = 4 then [x.c.fl [99]] else []))
def FilV.fl (x : FilV) : List Fl := x.fls.map FlV.fl
theorem Tryz.infoFl : (Tryz.prog.info? 47).map (fun i => (i.zero, i.size, i.bytes)) = some (some (.agg #[.string ⟨#[]⟩, .slice none 0 0]), 2, 40) := by kernel_rfl
def flat2 (l : List FlV) : List Value := l.flatMap fun y => [sv y.nm, y.bv]
theorem flat2_get : ∀ (l : List FlV) (j : Nat) (_ : j < l.length), (flat2 l)[j * 2]? = some (sv (l.getD j default).nm) ∧ (flat2 l)[j * 2 + 1]? = some (l.getD j default).bv
 | [], j, h => absurd h (Nat.not_lt_zero _)
 | x :: r, 0, _ => ⟨rfl, rfl⟩
 | x :: r, j + 1, h => by
  have := flat2_get r j (by simpa using h)
  have e1 : (j + 1) * 2 = j * 2 + 1 + 1 := by omega
  rw [e1]
  simpa [flat2] using this
theorem own_get2 {w : World} {B n : Nat} {t : TypeId} {v : Value} {xs : List Value} (h : w.ownsRow B t 2 v n xs) (h0 : 0 < n) : ∃ g c, v = .slice (some ⟨g, 0, none⟩) n c ∧ n ≤ c ∧ B ≤ g ∧ ∀ j, j < n * 2 → w.cell? ⟨g, j, none⟩ = xs[j]? := by
 rcases h.2 with ⟨rfl, h0'⟩ | ⟨g, cap, cur, rfl, hB, hg, h1, _, h3, h4⟩
 ·omega
 have hc : CAt w g cur t := hg
 refine ⟨g, cap, rfl, h1, hB, fun j hj => ?_⟩
 rw [hc.cell, ← h4, List.getElem?_take, if_pos (by omega)]
 simp
/-- A list of files under way: made since W. -/
structure LiI (W wr : World) (v : Value) (l : List FlV) : Prop where
 ow : wr.ownsRow W.heap.size 47 2 v l.length (flat2 l)
 be : Below W.heap.size W wr
theorem LiI.below {W wr w' : World} {v : Value} {l : List FlV} (h : LiI W wr v l) (hb : Below wr.heap.size wr w') : LiI W w' v l :=
 ⟨ownsRow_keep h.ow fun b hv => hb.block b (own_ge h.ow b hv).2, below_on _ _ h.be hb⟩
/-- What list answers. -/
def ListedAt (W : World) (x : FilV) (e : Ending) (w' : World) : Prop :=
 ∃ r : RowV, e = .returned r.v ∧ r.l = x.fls ∧ Below W.heap.size W w' ∧ ∀ T : Nat → Prop, (∀ b, T b → b < W.heap.size) → (∀ y ∈ x.fls, y.ok W T) → r.ok w' T
theorem LiI.done {W wr : World} {v : Value} {x : FilV} (h : LiI W wr v x.fls) (h0 : x.fls = [] → v = .slice none 0 0) : ListedAt W x (.returned v) wr := by
 by_cases hn : x.fls = []
 ·refine ⟨⟨none, 0, []⟩, by rw [h0 hn]; rfl, hn.symm, h.be, fun T hT hy => ⟨.inl rfl, fun y hy => absurd hy (by simp), Nat.le_refl _⟩⟩
 ·obtain ⟨g, c, rfl, h1, h2, h3⟩ := own_get2 h.ow (List.length_pos_iff.2 hn)
  refine ⟨⟨some ⟨g, 0, none⟩, c, x.fls⟩, rfl, rfl, h.be, fun T hT hy => ⟨.inr ⟨g, 0, rfl, fun ht => by have := hT g ht; omega, fun j hj => ?_⟩, fun y hy' => (hy y hy').keep (fun b hb _ => h.be.block b hb) (fun _ _ h => h), h1⟩⟩
  obtain ⟨q1, q2⟩ := flat2_get x.fls j hj
  have hj' : j < x.fls.length := hj
  rw [Nat.zero_add, h3 _ (by omega), h3 _ (by omega)]
  exact ⟨q1, q2⟩
end Go.Proofs.YtfogkegmdgbecaaGreatDoor

/- What ties two drives to the document's. -/
namespace Go.Proofs.YtfogkegmdgbecaaGreatDoor
open Go Go.RowKit

structure Rel (a b a' b' : Dl) (Z ZR : Nat → Nat × Bool) : Prop where
 da : a'.d = a.d
 db : b'.d = b.d
 fa : a'.fu.map ZR = a.fu.map Z
 fb : b'.fu.map ZR = b.fu.map Z
 sh : a.fu = b.fu ↔ a'.fu = b'.fu
structure Pd.few (d : Pd) (n : Nat) : Prop where
 len : d.F.length ≤ n
 ops : d.ops ≤ n
section
variable {a b a' b' : Dl} {Z ZR : Nat → Nat × Bool}
theorem Rel.swap (h : Rel a b a' b' Z ZR) : Rel b a b' a' Z ZR := ⟨h.db, h.da, h.fb, h.fa, ⟨fun e => (h.sh.1 e.symm).symm, fun e => (h.sh.2 e.symm).symm⟩⟩
theorem Rel.step (h : Rel a b a' b' Z ZR) {d2 : Pd} {f2 : Fs} (p q : Nat) : Rel ⟨p, a.fu, d2⟩ b ⟨q, a'.fu, d2⟩ b' (setZ Z a.fu f2) (setZ ZR a'.fu f2) := by
 refine ⟨rfl, h.db, ?_, ?_, h.sh⟩
 ·have h1 := h.fa
  show a'.fu.map _ = a.fu.map _
  cases ha : a.fu with
  | none => rw [ha] at h1; cases hb : a'.fu with
   | none => rfl
   | some z => rw [hb] at h1; cases h1
  | some z => rw [ha] at h1; cases hb : a'.fu with
   | none => rw [hb] at h1; cases h1
   | some z' => simp [setZ]
 ·have h1 := h.fb
  show b'.fu.map _ = b.fu.map _
  cases hb : b.fu with
  | none => rw [hb] at h1; cases hb' : b'.fu with
   | none => rfl
   | some z => rw [hb'] at h1; cases h1
  | some z => rw [hb] at h1; cases hb' : b'.fu with
   | none => rw [hb'] at h1; cases h1
   | some z' =>
    rw [hb'] at h1
    have e1 : ZR z' = Z z := by simpa using h1
    have hsh := h.sh
    rw [hb, hb'] at hsh
    simp only [Option.map_some, setZ]
    by_cases e : a.fu = some z
    ·rw [if_pos e, if_pos (hsh.1 e)]
    ·rw [if_neg e, if_neg (fun e2 => e (hsh.2 e2)), e1]
theorem Rel.same (h : Rel a b a' b' Z ZR) (d2 : Pd) (p q : Nat) : Rel ⟨p, a.fu, d2⟩ b ⟨q, a'.fu, d2⟩ b' Z ZR := ⟨rfl, h.db, h.fa, h.fb, h.sh⟩
theorem Rel.none (h : Rel a b a' b' Z ZR) (d2 : Pd) (p q : Nat) : Rel ⟨p, none, d2⟩ b ⟨q, none, d2⟩ b' Z ZR := by
 refine ⟨rfl, h.db, rfl, h.fb, ?_⟩
 have h1 := h.fb
 constructor
 ·intro e
  have e' : b.fu = .none := e.symm
  rw [e'] at h1
  show .none = b'.fu
  cases hb : b'.fu with
  | none => rfl
  | some z => rw [hb] at h1; cases h1
 ·intro e
  have e' : b'.fu = .none := e.symm
  rw [e'] at h1
  show .none = b.fu
  cases hb : b.fu with
  | none => rfl
  | some z => rw [hb] at h1; cases h1
theorem Rel.lit2 (Z ZR : Nat → Nat × Bool) (z z' n : Nat) (d1 d2 : Pd) (p q p2 q2 : Nat) : Rel ⟨p, some z, d1⟩ ⟨p2, some z, d2⟩ ⟨q, some z', d1⟩ ⟨q2, some z', d2⟩ (litZ Z z n) (litZ ZR z' n) :=
 ⟨rfl, rfl, by simp [litZ], by simp [litZ], ⟨fun _ => rfl, fun _ => rfl⟩⟩
end
section
variable {d : Pd} {n : Nat}
theorem Pd.few.more (h : d.few n) : d.few (n + 1) := ⟨Nat.le_succ_of_le h.len, Nat.le_succ_of_le h.ops⟩
end
end Go.Proofs.YtfogkegmdgbecaaGreatDoor

/- What a call leaves of two drives and of the document's since some moment. -/
namespace Go.Proofs.YtfogkegmdgbecaaGreatDoor
open Go Go.RowKit

/-- Since wr nothing has turned but in T and in new blocks; now the drives are these. -/
def Mid (w wr W : World) (a b a' b' : Dl) (Z ZR : Nat → Nat × Bool) (T : Nat → Prop) : Prop := ∃ T2, JB w W a b a' b' Z ZR T2 ∧ Only T wr W ∧ ∀ c, T2 c → T c ∨ wr.heap.size ≤ c
section
variable {w wr W W' : World} {a b a' b' a2 b2 a2' b2' : Dl} {Z ZR Z2 ZR2 : Nat → Nat × Bool} {T : Nat → Prop}
theorem Mid.next {T2 : Nat → Prop} (ho : Only T wr W) (hT : ∀ c, T2 c → T c ∨ wr.heap.size ≤ c) (hj : JB w W' a2 b2 a2' b2' Z2 ZR2 (grw T2 W W')) (ho2 : Only T2 W W') : Mid w wr W' a2 b2 a2' b2' Z2 ZR2 T :=
 ⟨_, hj, ho.then ho2 fun i hi h => (hT i h).elim id (fun e => by omega), fun c hc => hc.elim (hT c) (fun e => Or.inr (Nat.le_trans ho.size e.1))⟩
theorem Mid.below (h : Mid w wr W a b a' b' Z ZR T) (hb : Below W.heap.size W W') : Mid w wr W' a b a' b' Z ZR T := by
 obtain ⟨T2, hj, ho, hT⟩ := h
 exact ⟨T2, hj.below hb, ho.then (Only.of_below (S := fun _ => False) hb) (fun _ _ h => h.elim), hT⟩
theorem Mid.be (h : Mid w wr W a b a' b' Z ZR T) : Below w.heap.size w W := by obtain ⟨_, hj, _⟩ := h; exact hj.be
theorem Mid.only (h : Mid w wr W a b a' b' Z ZR T) : Only T wr W := by obtain ⟨_, _, ho, _⟩ := h; exact ho
theorem Mid.swap (h : Mid w wr W a b a' b' Z ZR T) : Mid w wr W b a b' a' Z ZR T := by obtain ⟨T2, hj, h2⟩ := h; exact ⟨T2, hj.swap, h2⟩
end
/-- Bytes that were lent. -/
structure LnAt (W : World) (g : Nat) (bs : List Nat) : Prop where
 row : RowAt W g 0 (bs.length + 3) (lentN bs.length fun i => bs.getD i 0)
 free : ∀ i, W.frozen? ⟨g, i, none⟩ = false
 lt : g < W.heap.size
theorem LnAt.keep {W W' : World} {g : Nat} {bs : List Nat} (h : LnAt W g bs) (hk : W'.heap[g]? = W.heap[g]?) (hs : g < W'.heap.size) : LnAt W' g bs :=
 ⟨fun i hi => (World.cell?_of_block (w := W) hk).trans (h.row i hi), fun i => (World.frozen?_of_block (w := W) hk).trans (h.free i), hs⟩
theorem LnAt.only {W W' : World} {g B : Nat} {bs : List Nat} {T : Nat → Prop} (h : LnAt W g bs) (ho : Only T W W') (hT : ∀ c, T c → c < B) (hg : B ≤ g) : LnAt W' g bs :=
 h.keep (ho.block g h.lt fun k => by have := hT g k; omega) (Nat.lt_of_lt_of_le h.lt ho.size)
theorem LnAt.below {W W' : World} {g : Nat} {bs : List Nat} (h : LnAt W g bs) (hb : Below W.heap.size W W') : LnAt W' g bs := h.keep (hb.block g h.lt) (Nat.lt_of_lt_of_le h.lt hb.size)
theorem LnAt.bat {W : World} {g : Nat} {bs : List Nat} (h : LnAt W g bs) : BAt W (some ⟨g, 0, none⟩) bs := Or.inr ⟨_, rfl, fun i hi => by
 have := h.row i (by omega)
 rw [add_none, this]; unfold lentN; rw [if_pos hi]⟩
theorem LnAt.q8 {W : World} {g : Nat} {bs : List Nat} (h : LnAt W g bs) (h8 : ∀ y ∈ bs, y < 256) : CellsQ Q8 W g (bs.length + 3) :=
 ⟨fun i hi => ⟨u8 (lentN bs.length (fun i => bs.getD i 0) i), ⟨_, rfl, by
  unfold lentN; split
  ·rename_i hl; exact h8 _ (by show bs.getD i 0 ∈ bs; rw [getD_in _ _ _ hl]; exact List.getElem_mem hl)
  ·omega⟩, by have := h.row i hi; rw [Nat.zero_add] at this; exact this⟩, h.free⟩
theorem Row8.on {w w' : World} {v : Value} {bs : List Nat} (h : Row8 w v bs) (hb : Below w.heap.size w w') : Row8 w' v bs := by
 obtain ⟨B, h⟩ := h; exact ⟨B, ownsRow_keep h fun b hb' => hb.block b (own_ge h b hb').2⟩
theorem BAt.str {W : World} {po : Option Addr} {bs : List Nat} (h : BAt W po bs) : StrAt W po bs.length fun i => bs.getD i 0 := by
 rcases h with ⟨_, rfl⟩ | ⟨a, rfl, h⟩
 ·exact Or.inl rfl
 ·by_cases h0 : bs.length = 0
  ·exact Or.inl h0
  ·obtain ⟨b, o, rfl⟩ := plain_at a W (by have := h 0 (by omega); rw [add_zero'] at this; rw [this]; simp)
   exact Or.inr ⟨b, o, rfl, fun i hi => by have := h i hi; rw [add_none] at this; exact this⟩
theorem lent2 {W : World} {po : Option Addr} {bs : List Nat} (c : Nat) (h : BAt W po bs) (hn : bs.length ≤ 2000) :
  Calls Tryz.prog 53 #[.slice po bs.length c] W fun e W1 => ∃ g, e = .returned (.slice (some ⟨g, 0, none⟩) bs.length (bs.length + 3)) ∧ LnAt W1 g bs ∧ W.heap.size ≤ g ∧ Below W.heap.size W W1 :=
 (lent_any po bs.length c _ W (by omega) h.str).mono fun e W1 ⟨e1, hr⟩ => ⟨_, e1, ⟨hr.row, hr.free, by rw [hr.size]; omega⟩, Nat.le_refl _, hr.below⟩
end Go.Proofs.YtfogkegmdgbecaaGreatDoor
