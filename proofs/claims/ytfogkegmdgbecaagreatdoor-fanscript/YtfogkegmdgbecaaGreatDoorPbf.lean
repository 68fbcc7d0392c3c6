/- Texts laid into one, cut to what is needed: the remark ahead of each part says what is proved there. -/
import Derived.Test.YtfogkegmdgbecaaGreatDoorPbe
import Derived.Deep.LoopGhost
/- Copies of bools; crashes and fuses since some moment. -/
namespace Go.Proofs.YtfogkegmdgbecaaGreatDoor
open Go Go.RowKit

theorem step_append_ex {P : Program} {w : World} {ops : Array Oper} {o : Oper} {a : Act} {K : Act → World → Prop} {Q : Exit → Act → World → Prop} {E : Prop} {R : Value → World → Prop} (hgd : o.guard = none) (s x : Operand) (t : TypeId)
  (ho : o.op = .call { callee := .builtin .append, args := #[s, x], argTypes := #[t, t] }) (v xv : Value) (hs : a.eval s = v) (hx : a.eval x = xv)
  (hr : ∃ v' w', (Builtin.append_ #[t, t] o.type #[v, xv]).run P w = .ok v' w' ∧ R v' w') (h : ∀ v' w', R v' w' → K (a.put o.dst v') w') : if Region.wanted o (yielded ops a.tmps) = true then Oper.wp P o a w K Q else E := by
 have hw : Region.wanted o (yielded ops a.tmps) = true := by simp [Region.wanted, hgd]
 rw [if_pos hw]
 obtain ⟨v', w', hr, hR⟩ := hr
 unfold Oper.wp execOp
 simp only [ho, resolve, invoke, builtin, Sem.run_bind, Sem.run_pure, Result.andThen_ok, List.map_toArray, List.map_cons, List.map_nil, hs, hx, hr]
 exact h _ _ hR
section
variable {w wr W W' : World} {a b a' b' : Dl} {Z ZR : Nat → Nat × Bool} {T : Nat → Prop}
theorem Mid.fuse2 (h : Mid w wr W a b a' b' Z ZR T) (bl c : Nat) (hc : CAt W bl #[ptr a.p, ptr b.p] 38) (n : Nat) (hn : n ≤ 9223372036854775807) :
  Calls Tryz.prog 29 #[.slice (some ⟨bl, 0, none⟩) 2 c, .int .i64 (n : Int)] W fun e w1 => e = .returned (.int .i64 0) ∧ ∃ z, Mid w wr w1 ⟨a.p, some z, a.d.lit (a.fu.map Z)⟩ ⟨b.p, some z, b.d.lit (b.fu.map Z)⟩ a' b' (litZ Z z n) ZR T := by
 obtain ⟨T2, hj, ho, hT⟩ := h
 exact (hj.fuse2 bl c hc n hn).mono fun e w1 ⟨e1, z, hz, j1, o1⟩ => ⟨e1, z, Mid.next ho hT j1 o1⟩
end
end Go.Proofs.YtfogkegmdgbecaaGreatDoor

/- Contract of told of the statements. (Written by tools/gen_Ku.py.) -/
namespace Go.Proofs.YtfogkegmdgbecaaGreatDoor
open Go Go.RowKit

theorem Row8.below {w w' : World} {v : Value} {bs : List Nat} (h : Row8 w v bs) (hb : Below w.heap.size w w') : Row8 w' v bs := by
 obtain ⟨B, h⟩ := h; exact ⟨B, ownsRow_keep h fun b hb' => hb.block b (own_ge h b hb').2⟩
theorem first2 {w w' : World} {j : Nat} (h : Below (w.drewN j).heap.size (w.drewN j) w') : Below w.heap.size w w' := below_on _ _ (below_drewN w j) h

end Go.Proofs.YtfogkegmdgbecaaGreatDoor

/- lent of FanScript: files in memory of their own, with room behind. -/
namespace Go.Proofs.YtfogkegmdgbecaaGreatDoor
open Go Go.RowKit Go.Shelf

/-- A file whose bytes were lent at block g. -/
def LnX (W : World) (B : Nat) (x : FlV) : Prop := ∃ g, x.pb = some ⟨g, 0, none⟩ ∧ x.cb = x.bs.length + 3 ∧ LnAt W g x.bs ∧ B ≤ g
def FlV.bk (x : FlV) : Nat := (x.pb.map (·.block)).getD 0
theorem LnX.keep {W W' : World} {B : Nat} {x : FlV} (h : LnX W B x) (hk : W'.heap[x.bk]? = W.heap[x.bk]?) (hs : W.heap.size ≤ W'.heap.size) : LnX W' B x := by
 obtain ⟨g, h1, h2, h3, h4⟩ := h
 have e : x.bk = g := by unfold FlV.bk; rw [h1]; rfl
 rw [e] at hk
 exact ⟨g, h1, h2, h3.keep hk (Nat.lt_of_lt_of_le h3.lt hs), h4⟩
theorem LnX.below {W W' : World} {B : Nat} {x : FlV} (h : LnX W B x) (hb : Below W.heap.size W W') : LnX W' B x := by
 obtain ⟨g, h1, h2, h3, h4⟩ := h
 exact ⟨g, h1, h2, h3.below hb, h4⟩
theorem LnX.lt {W : World} {B : Nat} {x : FlV} (h : LnX W B x) : B ≤ x.bk ∧ x.bk < W.heap.size := by
 obtain ⟨g, h1, h2, h3, h4⟩ := h
 have e : x.bk = g := by unfold FlV.bk; rw [h1]; rfl
 rw [e]; exact ⟨h4, h3.lt⟩
theorem LnX.c0 {W : World} {B : Nat} {x : FlV} (h : LnX W B x) : ∃ k : Nat, W.cell? ⟨x.bk, 0, none⟩ = some (.int .u8 (k : Int)) := by
 obtain ⟨g, h1, h2, h3, h4⟩ := h
 have e : x.bk = g := by unfold FlV.bk; rw [h1]; rfl
 rw [e]
 have := h3.row 0 (by omega)
 exact ⟨_, this⟩
theorem LnX.base {W : World} {B B' : Nat} {x : FlV} (h : LnX W B x) (hb : B' ≤ B) : LnX W B' x := by
 obtain ⟨g, h1, h2, h3, h4⟩ := h
 exact ⟨g, h1, h2, h3, by omega⟩
/-- A row of lent files under way, made since W. -/
structure LeI (W wr : World) (l : List FlV) (j : Nat) (v : Value) (L : List FlV) : Prop where
 li : LiI W wr v L
 fl : L.map FlV.fl = (l.take j).map FlV.fl
 ln : ∀ x ∈ L, LnX wr W.heap.size x
 dj : L.Pairwise fun x y => x.bk ≠ y.bk
 zz : L = [] → v = .slice none 0 0
theorem LeI.len {W wr : World} {l : List FlV} {j : Nat} {v : Value} {L : List FlV} (h : LeI W wr l j v L) (hj : j ≤ l.length) : L.length = j := by
 have := congrArg List.length h.fl
 simp only [List.length_map, List.length_take] at this
 omega
theorem LeI.next {W wr w4 : World} {l : List FlV} {j : Nat} {v : Value} {L : List FlV} (h : LeI W wr l j v L) (hj : j < l.length) (hl : l.length ≤ 1000) {g : Nat} (hb : Below wr.heap.size wr w4) (hg : LnAt w4 g (l.getD j default).bs) (hgw : wr.heap.size ≤ g) :
  ∃ vp vc w', (Builtin.append_ #[45, 45] 45 #[v, .slice (some ⟨w4.heap.size, 0, none⟩) 1 1]).run Tryz.prog (w4.alloc (.cells #[sv (l.getD j default).nm, .slice (some ⟨g, 0, none⟩) (l.getD j default).bs.length ((l.getD j default).bs.length + 3)] 47)) = .ok (.slice vp (j + 1) vc) w' ∧ (∃ L', LeI W w' l (j + 1) (.slice vp (j + 1) vc) L') ∧ Below W.heap.size W w' := by
 have hlen := h.len (by omega)
 have h4 := h.li.below hb
 have zz := h.li.be.size
 have z4 := hb.size
 obtain ⟨v', w', hr, h1, h2, h3, _⟩ := own_push (T := 45) Tryz.underlying45 Tryz.infoFl rfl (by decide) h4.ow #[sv (l.getD j default).nm, .slice (some ⟨g, 0, none⟩) (l.getD j default).bs.length ((l.getD j default).bs.length + 3)] rfl (by simp [Value.oneCell', sv]) (by omega) (by decide) h4.be.size
 rw [hlen] at h1
 obtain ⟨vp, vc, rfl⟩ := own_form h1
 have hs2 := h2.size
 have hvl : ∀ b, v.ownBlock = some b → b < wr.heap.size := fun b e => (own_ge h.li.ow b e).2
 have kx : ∀ x ∈ L, LnX w' W.heap.size x := fun x hx => by
  have hx4 := (h.ln x hx).below hb
  refine hx4.keep (h2.block _ hx4.lt.2 (fun e => ?_)) hs2
  obtain ⟨g', c', e', _, _, hc⟩ := own_get2 h4.ow (List.length_pos_iff.2 (fun e0 => by rw [e0] at hx; simp at hx))
  rw [e'] at e
  have eg : g' = x.bk := by simpa [Value.ownBlock] using e
  obtain ⟨k, hk⟩ := hx4.c0
  have h0 : 0 < L.length := List.length_pos_iff.2 (fun e0 => by rw [e0] at hx; simp at hx)
  have q := (flat2_get L 0 h0).1
  rw [Nat.zero_mul] at q
  have := hc 0 (by omega)
  rw [eg, hk, q] at this
  cases this
 have kn : LnX w' W.heap.size ⟨(l.getD j default).nm, some ⟨g, 0, none⟩, (l.getD j default).bs.length + 3, (l.getD j default).bs⟩ := ⟨g, rfl, rfl, hg.keep (h2.block g hg.lt (fun e => by have := hvl g e; omega)) (Nat.lt_of_lt_of_le hg.lt hs2), by omega⟩
 have hbw : Below W.heap.size W w' := ⟨h2.os.trans h4.be.os, h2.tape.trans h4.be.tape, h2.output.trans h4.be.output, by omega, fun b hb' => (h2.block b (by omega) (fun hv => by have := (own_ge h.li.ow b hv).1; omega)).trans (h4.be.block b hb')⟩
 refine ⟨vp, vc, w', hr, ⟨L ++ [⟨(l.getD j default).nm, some ⟨g, 0, none⟩, (l.getD j default).bs.length + 3, (l.getD j default).bs⟩], ⟨?_, hbw⟩, ?_, fun x hx => ?_, ?_, fun e => by simp at e⟩, hbw⟩
 ·have e : flat2 (L ++ [⟨(l.getD j default).nm, some ⟨g, 0, none⟩, (l.getD j default).bs.length + 3, (l.getD j default).bs⟩]) = flat2 L ++ [sv (l.getD j default).nm, .slice (some ⟨g, 0, none⟩) (l.getD j default).bs.length ((l.getD j default).bs.length + 3)] := by simp [flat2]
  rw [e, List.length_append, hlen]
  exact h1
 ·rw [List.map_append, h.fl, List.take_add_one, List.getElem?_eq_getElem hj, List.map_append]
  simp [FlV.fl, List.getElem?_eq_getElem hj]
 ·rcases List.mem_append.1 hx with hx | hx
  ·exact kx x hx
  ·rw [List.mem_singleton] at hx; rw [hx]; exact kn
 ·refine List.pairwise_append.2 ⟨h.dj, by simp, fun x hx y hy => ?_⟩
  rw [List.mem_singleton] at hy
  subst hy
  have := ((h.ln x hx)).lt.2
  show x.bk ≠ g
  omega
/-- A row whose files were lent. -/
structure RowL (B : Nat) (W : World) (r : RowV) : Prop where
 at_ : r.l = [] ∨ ∃ b, r.po = some ⟨b, 0, none⟩ ∧ B ≤ b ∧ b < W.heap.size ∧ (∃ cur, W.heap[b]? = some (.cells cur 47 (0, 0))) ∧ ∀ j, j < r.l.length → W.cell? ⟨b, j * 2, none⟩ = some (sv (r.l.getD j default).nm) ∧ W.cell? ⟨b, j * 2 + 1, none⟩ = some (r.l.getD j default).bv
 cp : r.l.length ≤ r.c
 ln : ∀ x ∈ r.l, LnX W B x
theorem RowL.below {B : Nat} {W W' : World} {r : RowV} (h : RowL B W r) (hb : Below W.heap.size W W') : RowL B W' r := by
 refine ⟨?_, h.cp, fun x hx => (h.ln x hx).below hb⟩
 rcases h.at_ with h1 | ⟨b, h1, h2, h3, ⟨cur, h4⟩, h5⟩
 ·exact .inl h1
 ·have e := hb.block b h3
  exact .inr ⟨b, h1, h2, Nat.lt_of_lt_of_le h3 hb.size, ⟨cur, e.trans h4⟩, fun j hj => ⟨(World.cell?_of_block (a := ⟨b, j * 2, none⟩) e).trans (h5 j hj).1, (World.cell?_of_block (a := ⟨b, j * 2 + 1, none⟩) e).trans (h5 j hj).2⟩⟩
theorem LeI.row {W wr : World} {l : List FlV} {v : Value} {L : List FlV} (h : LeI W wr l l.length v L) : ∃ r : RowV, v = r.v ∧ r.l = L ∧ RowL W.heap.size wr r := by
 by_cases hn : L = []
 ·exact ⟨⟨none, 0, []⟩, by rw [h.zz hn]; rfl, hn.symm, .inl rfl, Nat.le_refl _, fun x hx => by simp at hx⟩
 ·obtain ⟨g, c, e, h1, h2, h3⟩ := own_get2 h.li.ow (List.length_pos_iff.2 hn)
  refine ⟨⟨some ⟨g, 0, none⟩, c, L⟩, e, rfl, .inr ⟨g, rfl, h2, (own_ge h.li.ow g (by rw [e]; rfl)).2, own_at h.li.ow (by rw [e]; rfl), fun j hj => ?_⟩, h1, h.ln⟩
  have hj' : j < L.length := hj
  obtain ⟨q1, q2⟩ := flat2_get L j hj'
  rw [h3 _ (by omega), h3 _ (by omega)]
  exact ⟨q1, q2⟩
/-- Rows of lent files under way. -/
structure LoI (W wr : World) (rows : List RowV) (i : Nat) (v : Value) (R : List RowV) : Prop where
 ow : wr.ownsRow W.heap.size 45 1 v R.length (R.map fun r => r.v)
 be : Below W.heap.size W wr
 fl : R.map RowV.fl = (rows.take i).map RowV.fl
 rl : ∀ r ∈ R, RowL W.heap.size wr r
 dj : (R.flatMap RowV.l).Pairwise fun x y => x.bk ≠ y.bk
 zz : R = [] → v = .slice none 0 0
theorem LoI.len {W wr : World} {rows : List RowV} {i : Nat} {v : Value} {R : List RowV} (h : LoI W wr rows i v R) (hi : i ≤ rows.length) : R.length = i := by
 have := congrArg List.length h.fl
 simp only [List.length_map, List.length_take] at this
 omega
theorem LoI.next {W wr w4 : World} {rows : List RowV} {i : Nat} {v : Value} {R : List RowV} (h : LoI W wr rows i v R) (hi : i < rows.length) (hl : rows.length ≤ 1000) {v4 : Value} {L : List FlV} (h4 : LeI wr w4 (rows.getD i default).l (rows.getD i default).l.length v4 L) :
  ∃ q4 m4 c4 vp vc w', v4 = .slice q4 m4 c4 ∧ (Builtin.append_ #[31, 31] 31 #[v, .slice (some ⟨w4.heap.size, 0, none⟩) 1 1]).run Tryz.prog (w4.alloc (.cells #[v4] 45)) = .ok (.slice vp (i + 1) vc) w' ∧ (∃ R', LoI W w' rows (i + 1) (.slice vp (i + 1) vc) R') := by
 have hlen := h.len (by omega)
 obtain ⟨r, rfl, rfl, hr⟩ := h4.row
 have hb : Below wr.heap.size wr w4 := h4.li.be
 have zz := h.be.size
 have z4 := hb.size
 have ow4 : w4.ownsRow W.heap.size 45 1 v R.length (R.map fun r => r.v) := ownsRow_keep h.ow fun b e => hb.block b (own_ge h.ow b e).2
 obtain ⟨v', w', hrun, h1, h2, h3, _⟩ := own_push (T := 31) Tryz.underlying31 Tryz.infoFr rfl (by decide) ow4 #[r.v] rfl (by simp [Value.oneCell']) (by omega) (by decide) (by omega)
 rw [hlen] at h1
 obtain ⟨vp, vc, rfl⟩ := own_form h1
 have hs2 := h2.size
 have hvl : ∀ b, v.ownBlock = some b → b < wr.heap.size := fun b e => (own_ge h.ow b e).2
 -- what is lent, and rows of it, are no list of rows
 have kx : ∀ (B : Nat) (x : FlV), LnX w4 B x → LnX w' B x := fun B x hx => hx.keep (h2.block _ hx.lt.2 (fun e => by
  have hR : 0 < R.length := by
   rcases Nat.eq_zero_or_pos R.length with e0 | e0
   ·rw [h.zz (List.length_eq_zero_iff.1 e0)] at e; cases e
   ·exact e0
  obtain ⟨g', c', e', _, _, hc⟩ := own_get ow4 hR
  rw [e'] at e
  have eg : g' = x.bk := by simpa [Value.ownBlock] using e
  obtain ⟨k, hk⟩ := hx.c0
  have := hc 0 hR
  rw [eg, hk, List.getElem?_map, List.getElem?_eq_getElem hR] at this
  cases this)) hs2
 have kr : ∀ {B : Nat} {r : RowV}, RowL B w4 r → RowL B w' r := fun hr => by
  refine ⟨?_, hr.cp, fun x hx => kx _ x (hr.ln x hx)⟩
  rcases hr.at_ with a1 | ⟨b, a1, a2, a3, ⟨cur, a4⟩, a5⟩
  ·exact .inl a1
  ·have e : w'.heap[b]? = w4.heap[b]? := h2.block b a3 (fun e => by
     obtain ⟨c2, e2⟩ := own_at ow4 e
     rw [a4] at e2
     have := (Obj.cells.inj (Option.some.inj e2)).2.1
     revert this; decide)
   exact .inr ⟨b, a1, a2, by omega, ⟨cur, e.trans a4⟩, fun j hj => ⟨(World.cell?_of_block (a := ⟨b, j * 2, none⟩) e).trans (a5 j hj).1, (World.cell?_of_block (a := ⟨b, j * 2 + 1, none⟩) e).trans (a5 j hj).2⟩⟩
 refine ⟨r.po, r.l.length, r.c, vp, vc, w', rfl, hrun, R ++ [r], ?_, ?_, ?_, fun y hy => ?_, ?_, fun e => by simp at e⟩
 ·rw [List.length_append, hlen, List.map_append]; exact h1
 ·exact ⟨h2.os.trans (hb.os.trans h.be.os), h2.tape.trans (hb.tape.trans h.be.tape), h2.output.trans (hb.output.trans h.be.output), by omega, fun b hb' => (h2.block b (by omega) (fun e => by have := (own_ge h.ow b e).1; omega)).trans ((hb.block b (by omega)).trans (h.be.block b hb'))⟩
 ·rw [List.map_append, h.fl, List.take_add_one, List.getElem?_eq_getElem hi, List.map_append]
  have e := h4.fl
  rw [List.take_of_length_le (Nat.le_refl _)] at e
  have e2 : r.fl = (rows.getD i default).fl := e
  simp only [List.map_cons, List.map_nil, Option.toList_some, e2, getD_in _ _ _ hi]
 ·rcases List.mem_append.1 hy with hy | hy
  ·exact kr ((h.rl y hy).below hb)
  ·rw [List.mem_singleton] at hy; rw [hy]
   have h5 := kr hr
   exact ⟨h5.at_.imp_right (fun ⟨b, a1, a2, a3⟩ => ⟨b, a1, by omega, a3⟩), h5.cp, fun x hx => (h5.ln x hx).base (by omega)⟩
 ·rw [List.flatMap_append]
  refine List.pairwise_append.2 ⟨h.dj, by simpa using h4.dj, fun x hx y hy => ?_⟩
  obtain ⟨r0, hr0, hx0⟩ := List.mem_flatMap.1 hx
  have hy' : y ∈ r.l := by simpa using hy
  have l1 := ((h.rl r0 hr0).ln x hx0).lt.2
  have l2 := (hr.ln y hy').lt.1
  omega
/-- What lent answers: the same files, all in memory that is new. -/
def LentAt (W : World) (fv : FsV) (e : Ending) (w' : World) : Prop :=
 ∃ f1 : FsV, e = .returned f1.v ∧ LoI W w' fv.l fv.l.length f1.v f1.l
theorem LoI.done {W wr : World} {rows : List RowV} {v : Value} {R : List RowV} (h : LoI W wr rows rows.length v R) : ∃ f1 : FsV, v = f1.v ∧ f1.l = R := by
 obtain ⟨po, c, e⟩ := own_form h.ow
 exact ⟨⟨po, c, R⟩, e, rfl⟩
set_option maxHeartbeats 8000000 in
set_option maxRecDepth 100000 in
theorem lent10_any (W : World) (fv : FsV) {T : Nat → Prop} (hf : fv.ok W T) (hl : fv.l.length ≤ 1000) (h8 : ∀ r ∈ fv.l, r.l.length ≤ 1000) (hb : ∀ r ∈ fv.l, ∀ x ∈ r.l, x.bs.length ≤ 2000) :
  Calls Tryz.prog 11 #[fv.v] W (LentAt W fv) := by
 obtain ⟨fpo, fc, rows⟩ := fv
 dsimp only at hl h8 hb
 have H0 : Hid (LoI W W rows 0 (.slice none 0 0) []) := hid ⟨World.ownsRow_nil _ _ _ _, Below.refl _ _, rfl, fun r hr => by simp at hr, by simp, fun _ => rfl⟩
 have HFI : Hid (∀ v R W', LoI W W' rows rows.length v R → LentAt W ⟨fpo, fc, rows⟩ (.returned v) W') := hid (fun v R W' h => by
  obtain ⟨f1, e1, e2⟩ := h.done
  subst e1; subst e2
  exact ⟨f1, rfl, h⟩)
 generalize LentAt W ⟨fpo, fc, rows⟩ = PP at *
 have HROW := hid (fun i (hi : i < rows.length) => hf.row hi)
 have H8 := hid (fun i (hi : i < rows.length) => h8 (rows.getD i default) (by rw [getD_in _ _ _ hi]; exact List.getElem_mem hi))
 have HBS := hid (fun i (hi : i < rows.length) => hb (rows.getD i default) (by rw [getD_in _ _ _ hi]; exact List.getElem_mem hi))
 show Calls Tryz.prog 11 #[.slice fpo rows.length fc] W PP
 clear hf h8 hb
 go_enter Tryz.func11, Tryz.ntmps11
 go_wp2
 go_loopg [3, 4] rows.length (fun gg o v wr => ∃ (i : Nat) (R : List RowV), i ≤ rows.length ∧ rows.length - i ≤ gg ∧ v = .int .i64 (i : Int) ∧ LoI W wr rows i o R)
 case atStart => exact ⟨0, [], Nat.zero_le _, by omega, rfl, H0.out⟩
 case round =>
  clear H0
  obtain ⟨i, R, hi, hgg, rfl, hI⟩ := hrel
  have HI := hid hI
  clear hI
  have hRl := HI.out.len hi
  obtain ⟨opo, oc, hov⟩ := own_form HI.out.ow
  rw [hRl] at hov
  subst hov
  by_cases hlt : i < rows.length
  ·have hlt' : (i : Int) < (rows.length : Int) := by omega
   have hi2 : (i : Int) < 1000 := by omega
   obtain ⟨bf, fo, hp, hcl, hrow⟩ := HROW.out i hlt
   subst hp
   have HCF : Hid (∀ W', Below W.heap.size W W' → W'.cell? ⟨bf, fo + i, none⟩ = some (.slice (rows.getD i default).po (rows.getD i default).l.length (rows.getD i default).c)) := hid (fun W' hb => (World.cell?_of_block (a := ⟨bf, fo + i, none⟩) (hb.block bf (cell_lt2 (hcl 0)))).trans (hcl 0))
   have HRO := hid hrow
   have h8i := H8.out i hlt
   have HBI := hid (HBS.out i hlt)
   have HE0 : Hid (LeI wr wr (rows.getD i default).l 0 (.slice none 0 0) []) := hid ⟨⟨World.ownsRow_nil _ _ _ _, Below.refl _ _⟩, rfl, fun x hx => by simp at hx, by simp, fun _ => rfl⟩
   have HNX := hid (fun w4 v4 L (h4 : LeI wr w4 (rows.getD i default).l (rows.getD i default).l.length v4 L) => HI.out.next hlt hl h4)
   have HBE := hid HI.out.be
   clear hcl hrow HI
   generalize rows.getD i default = row at *
   obtain ⟨rpo, rc, l⟩ := row
   dsimp only at *
   obtain ⟨wo, hwo⟩ : ∃ wo, wo = wr := ⟨_, rfl⟩
   subst hwo
   go_wp2
   go_loopg [5, 6] l.length (fun gg o v wq => ∃ (j : Nat) (L : List FlV), j ≤ l.length ∧ l.length - j ≤ gg ∧ v = .int .i64 (j : Int) ∧ LeI wo wq l j o L)
   case atStart => exact ⟨0, [], Nat.zero_le _, by omega, rfl, HE0.out⟩
   case round =>
    clear HE0
    obtain ⟨j, L, hj, hgj, rfl, hE⟩ := hrel
    have HE := hid hE
    clear hE
    have hLl := HE.out.len hj
    obtain ⟨epo, ec, hev⟩ := own_form HE.out.li.ow
    rw [hLl] at hev
    subst hev
    have HB := hid (below_on _ _ HBE.out HE.out.li.be)
    have y0 := HCF.out _ HB.out
    by_cases hjt : j < l.length
    ·have hjt' : (j : Int) < (l.length : Int) := by omega
     have hj2 : (j : Int) < 1000 := by omega
     obtain ⟨br, or_, hp, hfc⟩ : ∃ b o, rpo = some ⟨b, o, none⟩ ∧ (W.cell? ⟨b, o + j * 2, none⟩ = some (sv (l.getD j default).nm) ∧ W.cell? ⟨b, o + j * 2 + 1, none⟩ = some (l.getD j default).bv) := by
      rcases HRO.out.at_ with h | ⟨b, o, h1, _, h3⟩
      ·rw [show l = [] from h] at hjt; exact absurd hjt (Nat.not_lt_zero _)
      ·exact ⟨b, o, h1, h3 j hjt⟩
     subst hp
     have hmem : l.getD j default ∈ l := by rw [getD_in _ _ _ hjt]; exact List.getElem_mem hjt
     have HLN : Hid (∀ W', Below W.heap.size W W' → Calls Tryz.prog 53 #[(l.getD j default).bv] W' fun e W1 => ∃ g, e = .returned (.slice (some ⟨g, 0, none⟩) (l.getD j default).bs.length ((l.getD j default).bs.length + 3)) ∧ LnAt W1 g (l.getD j default).bs ∧ W'.heap.size ≤ g ∧ Below W'.heap.size W' W1) := hid (fun W' hb => lent2 _ ((HRO.out.el _ hmem).keep (T' := fun _ => False) (fun b hb' _ => hb.block b hb') (fun _ _ h => h.elim)).bt (HBI.out _ hmem))
     have HS : Hid (∀ W', Below W.heap.size W W' → W'.cell? ⟨bf, fo + i, none⟩ = some (.slice (some ⟨br, or_, none⟩) l.length rc) ∧ W'.cell? ⟨br, or_ + j * 2, none⟩ = some (sv (l.getD j default).nm) ∧ W'.cell? ⟨br, or_ + j * 2 + 1, none⟩ = some (l.getD j default).bv) := hid (fun W' hb => ⟨HCF.out W' hb, (World.cell?_of_block (a := ⟨br, or_ + j * 2, none⟩) (hb.block br (cell_lt2 hfc.1))).trans hfc.1, (World.cell?_of_block (a := ⟨br, or_ + j * 2 + 1, none⟩) (hb.block br (cell_lt2 hfc.1))).trans hfc.2⟩)
     have HAP : Hid (∀ w4 g, Below wr.heap.size wr w4 → LnAt w4 g (l.getD j default).bs → wr.heap.size ≤ g → ∃ v' w', (Builtin.append_ #[45, 45] 45 #[.slice epo j ec, .slice (some ⟨w4.heap.size, 0, none⟩) 1 1]).run Tryz.prog (w4.alloc (.cells #[sv (l.getD j default).nm, .slice (some ⟨g, 0, none⟩) (l.getD j default).bs.length ((l.getD j default).bs.length + 3)] 47)) = .ok v' w' ∧ ∃ vp vc, v' = .slice vp (j + 1) vc ∧ (∃ L', LeI wo w' l (j + 1) (.slice vp (j + 1) vc) L') ∧ Below wo.heap.size wo w') := hid (fun w4 g hb hg hgw => by
      obtain ⟨vp, vc, w', h1, h2, h3⟩ := HE.out.next (w4 := w4) (g := g) hjt h8i hb hg hgw
      exact ⟨_, w', h1, vp, vc, rfl, h2, h3⟩)
     clear hfc hmem HE
     generalize l.getD j default = z at *
     obtain ⟨znm, zpb, zcb, zbs⟩ := z
     dsimp only [FlV.bv] at *
     have hs0 := HS.out _ HB.out
     go_wp2_with fail
     go_region_held3 (fun w' => w'.cell? ⟨bf, fo + i, none⟩ = some (.slice (some ⟨br, or_, none⟩) l.length rc) ∧ w'.cell? ⟨br, or_ + j * 2, none⟩ = some (sv znm) ∧ w'.cell? ⟨br, or_ + j * 2 + 1, none⟩ = some (.slice zpb zbs.length zcb)) (first | exact hc5 | exact hc4 | exact hs0 | exact HS.out _ (below_on _ _ HB.out (below_drewN _ _)) | exact HS.out _ (below_on _ _ HB4.out ((Below.refl _ _).alloc (Nat.le_refl _) _))) (first
      | (go_at_call 53; (first | refine (HLN.out _ (below_on _ _ HB.out (below_drewN _ _))).mono ?_ | refine (HLN.out _ HB.out).mono ?_); rintro e w4 ⟨g, rfl, hg4, hgw4, hb4⟩; have hb5 : Below wr.heap.size wr w4 := (by first | exact hb4 | exact first2 hb4); have HB4 := hid (below_on _ _ HB.out hb5); have HA4 := hid (HAP.out w4 g hb5 hg4 hgw4); have hc4 := HS.out w4 HB4.out; clear hg4 hgw4 hb4 hb5)
      | (have HA5 := HA4.out; clear HA4; refine step_append_ex rfl (.tmp 22) (.tmp 41) 45 rfl (.slice epo j ec) (.slice (some ⟨w4.heap.size, 0, none⟩) 1 1) rfl rfl HA5 ?_; rintro v5 w5 ⟨vp, vc, rfl, hL5, hb5⟩; have HL5 := hid hL5; have hc5 := HS.out w5 (below_on _ _ HBE.out hb5); clear hL5 hb5 HA5))
     obtain ⟨L5, hL5⟩ := HL5.out
     have HE5 := hid hL5
     clear hL5 HL5
     go_wp2
     go_roundg (l.length - (j + 1))
     case measure => omega
     case rel => exact ⟨j + 1, L5, by omega, by omega, by go_num, HE5.out⟩
    ·have hjt' : ¬ (j : Int) < (l.length : Int) := by omega
     have hjl : j = l.length := by omega
     obtain ⟨q4, m4, c4, vp, vc, w6, e6, hrun, R6, hR6⟩ := HNX.out _ _ _ (by rw [← hjl]; exact HE.out)
     cases e6
     have HRUN := hid hrun
     have HR6 := hid hR6
     clear hrun hR6 HE hjl
     go_wp2_with (first
      | (at_builtin; refine wpList_append_run _ _ 31 rfl rfl _ _ (.slice vp (i + 1) vc) rfl rfl HRUN.out ?_; clear HRUN))
     go_roundg (rows.length - (i + 1))
     case measure => omega
     case rel => exact ⟨i + 1, R6, by omega, by omega, by go_num, HR6.out⟩
  ·have hlt' : ¬ (i : Int) < (rows.length : Int) := by omega
   have hik : i = rows.length := by omega
   have HE := hid (HFI.out _ _ _ (by rw [← hik]; exact HI.out))
   clear HI
   go_wp2
   first | exact HE.out | (rw [← hik]; exact HE.out)
end Go.Proofs.YtfogkegmdgbecaaGreatDoor

/- kept of FanScript: files are as they were lent; they are written over then. -/
namespace Go.Proofs.YtfogkegmdgbecaaGreatDoor
open Go Go.RowKit Go.Shelf

/-- What was lent of fv, as it lies in W. -/
structure KpF (B : Nat) (W : World) (fv f1 : FsV) : Prop where
 at_ : f1.l = [] ∨ ∃ b, f1.po = some ⟨b, 0, none⟩ ∧ ∀ i, i < f1.l.length → W.cell? ⟨b, i, none⟩ = some (f1.l.getD i default).v
 rl : ∀ r ∈ f1.l, RowL B W r
 dj : (f1.l.flatMap RowV.l).Pairwise fun x y => x.bk ≠ y.bk
 fl : f1.l.map RowV.fl = fv.l.map RowV.fl
/-- The files ahead of number j of row i. -/
def preF (R : List RowV) (i j : Nat) : List FlV := (R.take i).flatMap RowV.l ++ ((R.getD i default).l.take j)
def Od (R : List RowV) (i j : Nat) (W W' : World) : Prop := Only (fun b => ∃ x ∈ preF R i j, b = x.bk) W W'
theorem preF_next {R : List RowV} {i j : Nat} (hj : j < (R.getD i default).l.length) : preF R i (j + 1) = preF R i j ++ [(R.getD i default).l.getD j default] := by
 unfold preF
 rw [List.take_add_one, List.getElem?_eq_getElem hj, getD_in _ _ _ hj, List.append_assoc]; rfl
theorem preF_row {R : List RowV} {i : Nat} (hi : i < R.length) : preF R (i + 1) 0 = preF R i (R.getD i default).l.length := by
 unfold preF
 rw [List.take_of_length_le (Nat.le_refl _), List.take_zero, List.append_nil, List.take_add_one, List.getElem?_eq_getElem hi, getD_in _ _ _ hi, List.flatMap_append]; simp
theorem preF_mem {R : List RowV} {i j : Nat} (hi : i < R.length) {x : FlV} (hx : x ∈ preF R i j) : ∃ r ∈ R, x ∈ r.l := by
 rcases List.mem_append.1 hx with hx | hx
 ·obtain ⟨r, hr, hx⟩ := List.mem_flatMap.1 hx
  exact ⟨r, List.mem_of_mem_take hr, hx⟩
 ·exact ⟨R.getD i default, by rw [getD_in _ _ _ hi]; exact List.getElem_mem hi, List.mem_of_mem_take hx⟩
theorem preF_all {R : List RowV} {i j : Nat} (hi : i < R.length) (hj : j < (R.getD i default).l.length) : ∃ rest, R.flatMap RowV.l = preF R i j ++ (R.getD i default).l.getD j default :: rest := by
 refine ⟨(R.getD i default).l.drop (j + 1) ++ (R.drop (i + 1)).flatMap RowV.l, ?_⟩
 unfold preF
 have e1 : R = R.take i ++ R.getD i default :: R.drop (i + 1) := by
  rw [getD_in _ _ _ hi, ← List.drop_eq_getElem_cons hi, List.take_append_drop]
 have e2 : (R.getD i default).l = (R.getD i default).l.take j ++ (R.getD i default).l.getD j default :: (R.getD i default).l.drop (j + 1) := by
  rw [getD_in _ _ _ hj, ← List.drop_eq_getElem_cons hj, List.take_append_drop]
 have e3 : R.flatMap RowV.l = (R.take i).flatMap RowV.l ++ ((R.getD i default).l ++ (R.drop (i + 1)).flatMap RowV.l) := by
  rw [show R.flatMap RowV.l = (R.take i ++ R.getD i default :: R.drop (i + 1)).flatMap RowV.l from by rw [← e1], List.flatMap_append, List.flatMap_cons]
 rw [e3, List.append_assoc]
 congr 1
 rw [show (R.getD i default).l ++ (R.drop (i + 1)).flatMap RowV.l = ((R.getD i default).l.take j ++ (R.getD i default).l.getD j default :: (R.getD i default).l.drop (j + 1)) ++ (R.drop (i + 1)).flatMap RowV.l from by rw [← e2]]
 simp
section
variable {B : Nat} {W W' : World} {fv f1 : FsV} {i j : Nat}
/-- What is still to come lies as it lay. -/
theorem KpF.apart (h : KpF B W fv f1) (hi : i < f1.l.length) (hj : j < (f1.l.getD i default).l.length) : ∀ x ∈ preF f1.l i j, ((f1.l.getD i default).l.getD j default).bk ≠ x.bk := fun x hx => by
 obtain ⟨rest, e⟩ := preF_all hi hj
 have hd := h.dj
 rw [e] at hd
 exact fun e2 => (List.pairwise_append.1 hd).2.2 x hx _ (List.mem_cons_self ..) e2.symm
theorem KpF.lnx (h : KpF B W fv f1) (hi : i < f1.l.length) {x : FlV} (hx : x ∈ preF f1.l i j) : LnX W B x := by
 obtain ⟨r, hr, hx⟩ := preF_mem hi hx
 exact (h.rl r hr).ln x hx
/-- No block whose first cell is no byte is written. -/
theorem KpF.other (h : KpF B W fv f1) (hi : i < f1.l.length) (ho : Od f1.l i j W W') {b : Nat} (hb : b < W.heap.size) {v : Value} (hc : W.cell? ⟨b, 0, none⟩ = some v) (hv : ∀ k : Int, v ≠ .int .u8 k) : W'.heap[b]? = W.heap[b]? := ho.block b hb (fun ⟨x, hx, e⟩ => by
 obtain ⟨k, hk⟩ := (h.lnx hi hx).c0
 rw [← e, hc] at hk
 exact hv _ (Option.some.inj hk))
theorem KpF.lens (h : KpF B W fv f1) : f1.l.length = fv.l.length := by have := congrArg List.length h.fl; simpa using this
theorem KpF.same (h : KpF B W fv f1) (hi : i < f1.l.length) : (f1.l.getD i default).l.map FlV.fl = (fv.l.getD i default).l.map FlV.fl := by
 have e := congrArg (fun q => q[i]?) h.fl
 have hi2 : i < fv.l.length := by rw [← h.lens]; exact hi
 simp only [List.getElem?_map, List.getElem?_eq_getElem hi, List.getElem?_eq_getElem hi2, Option.map_some, Option.some.injEq] at e
 rw [getD_in _ _ _ hi, getD_in _ _ _ hi2]; exact e
theorem KpF.rlen (h : KpF B W fv f1) (hi : i < f1.l.length) : (f1.l.getD i default).l.length = (fv.l.getD i default).l.length := by have := congrArg List.length (h.same hi); simpa using this
theorem KpF.file (h : KpF B W fv f1) (hi : i < f1.l.length) (hj : j < (f1.l.getD i default).l.length) : ((f1.l.getD i default).l.getD j default).nm = ((fv.l.getD i default).l.getD j default).nm ∧ ((f1.l.getD i default).l.getD j default).bs = ((fv.l.getD i default).l.getD j default).bs := by
 have e := congrArg (fun q => q[j]?) (h.same hi)
 have hj2 : j < (fv.l.getD i default).l.length := by rw [← h.rlen hi]; exact hj
 simp only [List.getElem?_map, List.getElem?_eq_getElem hj, List.getElem?_eq_getElem hj2, Option.map_some, Option.some.injEq] at e
 rw [getD_in _ _ _ hj, getD_in _ _ _ hj2]
 exact ⟨congrArg Prod.fst e, congrArg Prod.snd e⟩
theorem Od.below {R : List RowV} (h : Od R i j W W') {W2 : World} (hb : Below W'.heap.size W' W2) : Od R i j W W2 := h.then (Only.of_below (S := fun _ => False) hb) (fun _ _ e => e.elim)
theorem KpF.in_ (h : KpF B W fv f1) (hi : i < f1.l.length) (ho : Od f1.l i j W W') : ∀ b, b < W.heap.size → ¬ (B ≤ b) → W'.heap[b]? = W.heap[b]? := fun b hb hn => ho.block b hb (fun ⟨x, hx, e⟩ => hn (by have := ((h.lnx hi hx).lt).1; omega))
end
/-- Only bytes of these files were turned. -/
def KpO (R : List RowV) (W W' : World) : Prop := Only (fun b => ∃ r ∈ R, ∃ x ∈ r.l, b = x.bk) W W'
set_option maxHeartbeats 8000000 in
set_option maxRecDepth 100000 in
theorem kept10_any {B : Nat} {W : World} {fv f1 : FsV} (h : KpF B W fv f1) (hf : fv.ok W (fun b => B ≤ b)) (hl : fv.l.length ≤ 1000) (h8 : ∀ r ∈ fv.l, r.l.length ≤ 1000) (hb : ∀ r ∈ fv.l, ∀ x ∈ r.l, x.bs.length ≤ 2000) :
  Calls Tryz.prog 15 #[f1.v, fv.v] W fun e w' => e = .returned (.bool true) ∧ KpO f1.l W w' := by
 have hlen := h.lens
 have HF2 : Hid (∀ i j W', i < f1.l.length → Od f1.l i j W W' → fv.ok W' (fun b => B ≤ b)) := hid (fun i j W' hi ho => hf.keep (h.in_ hi ho) (fun _ _ h => h))
 have HLC : Hid (∀ i j W', i < f1.l.length → Od f1.l i j W W' → ∃ b, f1.po = some ⟨b, 0, none⟩ ∧ W'.cell? ⟨b, i, none⟩ = some (f1.l.getD i default).v) := hid (fun i j W' hi ho => by
  rcases h.at_ with e | ⟨b, e, hc⟩
  ·rw [e] at hi; exact absurd hi (Nat.not_lt_zero _)
  ·have h0 := hc 0 (by omega)
   exact ⟨b, e, (World.cell?_of_block (a := ⟨b, i, none⟩) (h.other hi ho (cell_lt2 h0) h0 (fun k e => by cases e))).trans (hc i hi)⟩)
 have HRC : Hid (∀ i j W', i < f1.l.length → j < (f1.l.getD i default).l.length → Od f1.l i j W W' → ∃ b, (f1.l.getD i default).po = some ⟨b, 0, none⟩ ∧ W'.cell? ⟨b, j * 2, none⟩ = some (sv ((f1.l.getD i default).l.getD j default).nm) ∧ W'.cell? ⟨b, j * 2 + 1, none⟩ = some ((f1.l.getD i default).l.getD j default).bv) := hid (fun i j W' hi hj ho => by
  have hr := h.rl (f1.l.getD i default) (by rw [getD_in _ _ _ hi]; exact List.getElem_mem hi)
  rcases hr.at_ with e | ⟨b, e, _, hbl, _, hc⟩
  ·rw [e] at hj; exact absurd hj (Nat.not_lt_zero _)
  ·have h0 := (hc 0 (by omega)).1
   rw [Nat.zero_mul] at h0
   have eb := h.other hi ho hbl h0 (fun k e => by cases e)
   exact ⟨b, e, (World.cell?_of_block (a := ⟨b, j * 2, none⟩) eb).trans (hc j hj).1, (World.cell?_of_block (a := ⟨b, j * 2 + 1, none⟩) eb).trans (hc j hj).2⟩)
 have HLX : Hid (∀ i j W', i < f1.l.length → j < (f1.l.getD i default).l.length → Od f1.l i j W W' → LnX W' B ((f1.l.getD i default).l.getD j default)) := hid (fun i j W' hi hj ho => by
  have hr := h.rl (f1.l.getD i default) (by rw [getD_in _ _ _ hi]; exact List.getElem_mem hi)
  have hx := hr.ln ((f1.l.getD i default).l.getD j default) (by rw [getD_in _ _ _ hj]; exact List.getElem_mem hj)
  exact hx.keep (ho.block _ hx.lt.2 (fun ⟨x, hx2, e⟩ => h.apart hi hj x hx2 e)) ho.size)
 have HSA := hid (fun i j (hi : i < f1.l.length) (hj : j < (f1.l.getD i default).l.length) => h.file hi hj)
 have HRL := hid (fun i (hi : i < f1.l.length) => h.rlen hi)
 have HFI : Hid (∀ i j W', i < f1.l.length → Od f1.l i j W W' → KpO f1.l W W') := hid (fun i j W' hi ho => ho.mono fun b ⟨x, hx, e⟩ => by obtain ⟨r, hr, hx2⟩ := preF_mem hi hx; exact ⟨r, hr, x, hx2, e⟩)
 have HNX : Hid (∀ i j W' W2, i < f1.l.length → j < (f1.l.getD i default).l.length → Od f1.l i j W W' → Only (fun b => b = ((f1.l.getD i default).l.getD j default).bk) W' W2 → Od f1.l i (j + 1) W W2) := hid (fun i j W' W2 hi hj ho h2 => by
  unfold Od
  rw [preF_next hj]
  exact (ho.mono fun b ⟨x, hx, e⟩ => ⟨x, List.mem_append_left _ hx, e⟩).then h2 (fun b _ e => ⟨_, List.mem_append_right _ (List.mem_singleton.2 rfl), e⟩))
 have HNR : Hid (∀ i W', i < f1.l.length → Od f1.l i (f1.l.getD i default).l.length W W' → Od f1.l (i + 1) 0 W W') := hid (fun i W' hi ho => by unfold Od at ho ⊢; rw [preF_row hi]; exact ho)
 have HH8 := hid (fun i (hi : i < fv.l.length) => h8 (fv.l.getD i default) (by rw [getD_in _ _ _ hi]; exact List.getElem_mem hi))
 have HBS := hid (fun i (hi : i < fv.l.length) => hb (fv.l.getD i default) (by rw [getD_in _ _ _ hi]; exact List.getElem_mem hi))
 have H0 : Hid (Od f1.l 0 0 W W) := hid (Only.refl _ _)
 obtain ⟨fpo, fc, rows⟩ := fv
 obtain ⟨gpo, gc, R⟩ := f1
 dsimp only at *
 show Calls Tryz.prog 15 #[.slice gpo R.length gc, .slice fpo rows.length fc] W _
 have HLEN := hid hlen
 clear h hf h8 hb hlen
 go_enter Tryz.func15, Tryz.ntmps15
 go_wp2
 go_loopg [5] rows.length (fun gg v wr => ∃ i : Nat, i ≤ rows.length ∧ rows.length - i ≤ gg ∧ v = .int .i64 (i : Int) ∧ Od R i 0 W wr ∧ (i = rows.length → KpO R W wr))
 case atStart => exact ⟨0, Nat.zero_le _, by omega, rfl, H0.out, fun _ => Only.refl _ _⟩
 case round =>
  clear H0
  obtain ⟨i, hi, hgg, rfl, hO, hOe⟩ := hrel
  by_cases hlt : i < rows.length
  ·have hlt' : (i : Int) < (rows.length : Int) := by omega
   have hi2 : (i : Int) < 1000 := by omega
   have hiR : i < R.length := by rw [HLEN.out]; exact hlt
   have hiR' : (i : Int) < (R.length : Int) := by omega
   have HO0 := hid hO
   clear hO hOe
   have h8i := HH8.out i hlt
   have hrl := HRL.out i hiR
   obtain ⟨bf, fo, hp, -, -⟩ := (HF2.out i 0 wr hiR HO0.out).row hlt
   subst hp
   obtain ⟨bg, hgp, -⟩ := HLC.out i 0 wr hiR HO0.out
   subst hgp
   have HCF : Hid (∀ j W', Od R i j W W' → W'.cell? ⟨bf, fo + i, none⟩ = some (.slice (rows.getD i default).po (rows.getD i default).l.length (rows.getD i default).c) ∧ RowV.ok W' (fun b => B ≤ b) (rows.getD i default)) := hid (fun j W' ho => by
    obtain ⟨b2, o2, hp2, hcl, hrow⟩ := (HF2.out i j W' hiR ho).row hlt
    cases hp2
    exact ⟨hcl 0, hrow⟩)
   have HCG : Hid (∀ j W', Od R i j W W' → W'.cell? ⟨bg, i, none⟩ = some (.slice (R.getD i default).po (R.getD i default).l.length (R.getD i default).c)) := hid (fun j W' ho => by
    obtain ⟨b2, hp2, hcl⟩ := HLC.out i j W' hiR ho
    cases hp2
    exact hcl)
   have HRC' := hid (fun j W' hj ho => HRC.out i j W' hiR hj ho)
   have HLX' := hid (fun j W' hj ho => HLX.out i j W' hiR hj ho)
   have HSA' := hid (fun j hj => HSA.out i j hiR hj)
   have HNX' := hid (fun j W' W2 hj ho h2 => HNX.out i j W' W2 hiR hj ho h2)
   have HNR' : Hid (∀ W', Od R i (R.getD i default).l.length W W' → Od R (i + 1) 0 W W' ∧ KpO R W W') := hid (fun W' ho => ⟨HNR.out i W' hiR ho, HFI.out i _ W' hiR ho⟩)
   have HBI := hid (HBS.out i hlt)
   clear HF2 HLC HRC HLX HSA HNX HNR HFI HBS HH8 HRL
   generalize rows.getD i default = row at *
   generalize R.getD i default = rr at *
   obtain ⟨rpo, rc, l⟩ := row
   obtain ⟨qpo, qc, ql⟩ := rr
   dsimp only at *
   have HQL := hid hrl
   go_wp2
   go_loopg [6] l.length (fun gg v wq => ∃ j : Nat, j ≤ l.length ∧ l.length - j ≤ gg ∧ v = .int .i64 (j : Int) ∧ Od R i j W wq)
   case atStart => exact ⟨0, Nat.zero_le _, by omega, rfl, HO0.out⟩
   case round =>
    clear HO0
    obtain ⟨j, hj, hgj, rfl, hO⟩ := hrel
    have HO := hid hO
    clear hO
    have y0 := (HCF.out j wr HO.out).1
    by_cases hjl : j < l.length
    ·have hjl' : (j : Int) < (l.length : Int) := by omega
     have hj2 : (j : Int) < 1000 := by omega
     have hjR : j < ql.length := by rw [HQL.out]; exact hjl
     have hjR' : (j : Int) < (ql.length : Int) := by omega
     have z0 := HCG.out j wr HO.out
     obtain ⟨br, hrp, z1, z2⟩ := HRC'.out j wr hjR HO.out
     subst hrp
     obtain ⟨bq, oq, hp, hfc⟩ : ∃ b o, rpo = some ⟨b, o, none⟩ ∧ (wr.cell? ⟨b, o + j * 2, none⟩ = some (sv (l.getD j default).nm) ∧ wr.cell? ⟨b, o + j * 2 + 1, none⟩ = some (l.getD j default).bv) := by
      rcases (HCF.out j wr HO.out).2.at_ with h | ⟨b, o, h1, _, h3⟩
      ·rw [show l = [] from h] at hjl; exact absurd hjl (Nat.not_lt_zero _)
      ·exact ⟨b, o, h1, h3 j hjl⟩
     subst hp
     have hmem : l.getD j default ∈ l := by rw [getD_in _ _ _ hjl]; exact List.getElem_mem hjl
     have hok := (HCF.out j wr HO.out).2.el _ hmem
     have hbl := HBI.out _ hmem
     obtain ⟨g, hg1, hg2, hg3, hg4⟩ := HLX'.out j wr hjR HO.out
     obtain ⟨en, eb⟩ := HSA'.out j hjR
     have HNN := hid (fun W2 h2 => HNX'.out j wr W2 hjR HO.out h2)
     have ebk : (ql.getD j default).bk = g := by unfold FlV.bk; rw [hg1]; rfl
     rw [ebk] at HNN
     rw [eb] at hg2 hg3
     have z2 : wr.cell? ⟨br, j * 2 + 1, none⟩ = some (.slice (some ⟨g, 0, none⟩) (l.getD j default).bs.length ((l.getD j default).bs.length + 3)) := by rw [z2]; show some (Value.slice _ _ _) = _; rw [hg1, hg2, eb]
     rw [en] at z1
     have HKB : Hid (∀ W', Below wr.heap.size wr W' → Calls Tryz.prog 69 #[.slice (some ⟨g, 0, none⟩) (l.getD j default).bs.length ((l.getD j default).bs.length + 3), (l.getD j default).bv] W' fun e w' => e = .returned (.bool true) ∧ Below W'.heap.size W' w') := hid (fun W' hb => kept_any g _ _ _ _ _ (by omega) (hg3.below hb).lt (hg3.below hb).row (hok.keep (T' := fun _ => False) (fun b hb' _ => hb.block b hb') (fun _ _ h => h.elim)).bt.str)
     have HOV : Hid (∀ W', Below wr.heap.size wr W' → Calls Tryz.prog 70 #[.slice (some ⟨g, 0, none⟩) (l.getD j default).bs.length ((l.getD j default).bs.length + 3)] W' fun e w' => e = .returned (.tuple #[]) ∧ Od R i (j + 1) W w') := hid (fun W' hb => (over2_any g _ _ W' (by unfold maxLen; omega) ((hg3.below hb).q8 hok.b8)).mono (by
      rintro e w' ⟨rfl, h2⟩
      exact ⟨rfl, HNN.out w' ((Only.of_below (S := fun b => b = g) hb).trans h2)⟩))
     have HS : Hid (∀ W', Below wr.heap.size wr W' → W'.cell? ⟨bg, i, none⟩ = some (.slice (some ⟨br, 0, none⟩) ql.length qc) ∧ W'.cell? ⟨br, j * 2, none⟩ = some (sv (l.getD j default).nm) ∧ W'.cell? ⟨br, j * 2 + 1, none⟩ = some (.slice (some ⟨g, 0, none⟩) (l.getD j default).bs.length ((l.getD j default).bs.length + 3)) ∧ W'.cell? ⟨bf, fo + i, none⟩ = some (.slice (some ⟨bq, oq, none⟩) l.length rc) ∧ W'.cell? ⟨bq, oq + j * 2, none⟩ = some (sv (l.getD j default).nm) ∧ W'.cell? ⟨bq, oq + j * 2 + 1, none⟩ = some (l.getD j default).bv) := hid (fun W' hb => ⟨(World.cell?_of_block (a := ⟨bg, i, none⟩) (hb.block bg (cell_lt2 z0))).trans z0, (World.cell?_of_block (a := ⟨br, j * 2, none⟩) (hb.block br (cell_lt2 z1))).trans z1, (World.cell?_of_block (a := ⟨br, j * 2 + 1, none⟩) (hb.block br (cell_lt2 z1))).trans z2, (World.cell?_of_block (a := ⟨bf, fo + i, none⟩) (hb.block bf (cell_lt2 y0))).trans y0, (World.cell?_of_block (a := ⟨bq, oq + j * 2, none⟩) (hb.block bq (cell_lt2 hfc.1))).trans hfc.1, (World.cell?_of_block (a := ⟨bq, oq + j * 2 + 1, none⟩) (hb.block bq (cell_lt2 hfc.1))).trans hfc.2⟩)
     clear hfc hmem hok hbl hg1 hg2 hg3 hg4 en eb ebk HNN z0 z1 z2 y0 HCF HCG HRC' HLX' HSA' HNX' HNR' HBI
     generalize l.getD j default = z at *
     obtain ⟨znm, zpb, zcb, zbs⟩ := z
     dsimp only [FlV.bv] at *
     have hs0 := HS.out _ (Below.refl _ _)
     have hne : (znm == znm) = true := beq_self_eq_true _
     go_wp2_with fail
     go_region_held3 (fun w' => w'.cell? ⟨bg, i, none⟩ = some (.slice (some ⟨br, 0, none⟩) ql.length qc) ∧ w'.cell? ⟨br, j * 2, none⟩ = some (sv znm) ∧ w'.cell? ⟨br, j * 2 + 1, none⟩ = some (.slice (some ⟨g, 0, none⟩) zbs.length (zbs.length + 3)) ∧ w'.cell? ⟨bf, fo + i, none⟩ = some (.slice (some ⟨bq, oq, none⟩) l.length rc) ∧ w'.cell? ⟨bq, oq + j * 2, none⟩ = some (sv znm) ∧ w'.cell? ⟨bq, oq + j * 2 + 1, none⟩ = some (.slice zpb zbs.length zcb)) (first | exact hs0 | exact hc4 | exact HS.out _ (below_drewN _ _)) (first
      | (go_at_call 69; (first | refine (HKB.out _ (below_drewN _ _)).mono ?_ | refine (HKB.out _ (Below.refl _ _)).mono ?_); rintro e w4 ⟨rfl, hb4⟩; have hb5 : Below wr.heap.size wr w4 := (by first | exact hb4 | exact first2 hb4); have HB4 := hid hb5; have hc4 := HS.out w4 hb5; clear hb4 hb5))
     go_wp2_with fail
     refine (HOV.out _ HB4.out).mono ?_
     rintro e w5 ⟨rfl, hO5⟩
     have HO5 := hid hO5
     clear hO5 HS HKB HOV hs0 hne HB4
     go_wp2
     go_roundg (l.length - (j + 1))
     case measure => omega
     case rel => exact ⟨j + 1, by omega, by omega, by go_num, HO5.out⟩
    ·have hjl' : ¬ (j : Int) < (l.length : Int) := by omega
     have hje : j = ql.length := by rw [HQL.out]; omega
     have HE := hid (HNR'.out wr (by rw [← hje]; exact HO.out))
     clear HO hje HCF HCG HRC' HLX' HSA' HNX' HNR' HBI
     go_wp2
     go_roundg (rows.length - (i + 1))
     case measure => omega
     case rel => exact ⟨i + 1, by omega, by omega, by go_num, HE.out.1, fun _ => HE.out.2⟩
  ·have hlt' : ¬ (i : Int) < (rows.length : Int) := by omega
   have HE := hid (hOe (by omega))
   clear hO hOe
   go_wp2
   go_ret
   exact ⟨by first | rfl | trivial, HE.out⟩
end Go.Proofs.YtfogkegmdgbecaaGreatDoor
