/- Texts laid into one: the remark ahead of each part says what is proved there. -/
import Derived.Test.YtfppmpfmafnfmaaXj
import Derived.Test.YtfppmpfmafnfmaaXi
/- Copies of bools; crashes and fuses since some moment. -/
namespace Go.Proofs.Ytfppmpfmafnfmaa
open Go Go.RowKit

theorem step_append_ex {P : Program} {w : World} {ops : Array Oper} {o : Oper} {a : Act} {K : Act → World → Prop} {Q : Exit → Act → World → Prop} {E : Prop} {R : Value → World → Prop} (hgd : o.guard = none) (s x : Operand) (t : TypeId)
    (ho : o.op = .call { callee := .builtin .append, args := #[s, x], argTypes := #[t, t] }) (v xv : Value) (hs : a.eval s = v) (hx : a.eval x = xv)
    (hr : ∃ v' w', (Builtin.append_ #[t, t] o.type #[v, xv]).run P w = .ok v' w' ∧ R v' w') (h : ∀ v' w', R v' w' → K (a.put o.dst v') w') : if Region.wanted o (yielded ops a.tmps) = true then Oper.wp P o a w K Q else E := by
  have hw : Region.wanted o (yielded ops a.tmps) = true := by simp [Region.wanted, hgd]
  rw [if_pos hw]
  obtain ⟨v', w', hr, hR⟩ := hr
  unfold Oper.wp execOp
  simp only [ho, resolve, invoke, builtin, Sem.run_bind, Sem.run_pure, Result.andThen_ok, List.map_toArray, List.map_cons, List.map_nil, hs, hx, hr]
  exact h _ _ hR
/-- A row of bools of one's own. -/
def RowB (B : Nat) (w : World) (v : Value) (ks : List Bool) : Prop := ∃ po c, v = .slice po ks.length c ∧ w.ownsRow B 4 1 (.slice po ks.length c) ks.length (ks.map Value.bool)
theorem RowB.kat {B : Nat} {w : World} {po : Option Addr} {n c : Nat} {ks : List Bool} (h : RowB B w (.slice po n c) ks) {S : Nat → Prop} (hS : ∀ b, S b → b < B) : n = ks.length ∧ KAt w S po ks := by
  obtain ⟨po', c', e, h⟩ := h
  cases e
  refine ⟨rfl, ?_⟩
  rcases h.2 with ⟨e, h0⟩ | ⟨g, cap, cur, e, hB, hg, h1, _, h3, h4⟩
  · exact Or.inl (List.eq_nil_of_length_eq_zero h0)
  · cases e
    refine Or.inr ⟨g, 0, rfl, fun hs => by have := hS g hs; omega, fun i hi => ?_⟩
    have := h.cells (g := g) rfl i (.bool (ks.getD i false)) (by simp [List.getD, hi])
    rw [add_none] at this; exact this
theorem copyK {w : World} {po : Option Addr} {ks : List Bool} (h : KAt w (fun _ => False) po ks) (c g : Nat) (hg : g = w.heap.size) (hn : ks.length ≤ 1000000) :
    ∃ v' w', (Builtin.append_ #[34, 34] 34 #[.slice (some ⟨g, 0, none⟩) 0 0, .slice po ks.length c]).run Try.prog (w.alloc (.cells #[] 4)) = .ok v' w' ∧ RowB w.heap.size w' v' ks ∧ Below w.heap.size w w' := by
  subst hg
  have h0 : (w.alloc (.cells #[] 4)).ownsRow w.heap.size 4 1 (.slice (some ⟨w.heap.size, 0, none⟩) 0 0) 0 [] := World.ownsRow_made w #[] 0 (Nat.le_refl _) (by unfold maxLen; omega) (by simp)
  have hi4 : (Try.prog.info? 4).map (fun i => (i.zero, i.size, i.bytes)) = some (some (.bool false), 1, 1) := by kernel_rfl
  obtain ⟨i0, hi0, hz0, hz1, hz2⟩ := info_parts hi4
  have hcs : (po = none ∧ ks = []) ∨ ∃ a, po = some a ∧ ∀ j, j < ks.length → w.cell? (a.add j) = some (.bool (ks.getD j false)) := by
    cases po with
    | none => rcases h with h | ⟨b, o, h, _⟩
              · exact Or.inl ⟨rfl, h⟩
              · cases h
    | some a =>
      refine Or.inr ⟨a, rfl, fun j hj => ?_⟩
      rcases h with h | ⟨b, o, h, _, hc⟩
      · subst h; simp at hj
      · cases h; rw [add_none]; exact hc j hj
  rcases hcs with ⟨rfl, rfl⟩ | ⟨a, rfl, hca⟩
  · refine ⟨.slice (some ⟨w.heap.size, 0, none⟩) 0 0, _, ?_, ⟨_, _, rfl, h0⟩, (Below.refl _ _).alloc (Nat.le_refl _) _⟩
    simp [Builtin.append_, run_underlying Try.underlying34, sizeOf, typeInfo, hi0, Builtin.lenOf, Builtin.firstCells, storeCells]
  · obtain ⟨v', w', hr, h3, h4, _, _⟩ := run_append_own_at (P := Try.prog) (w.alloc (.cells #[] 4)) w.heap.size 34 34 4 i0 (.bool false) 1 1 Try.underlying34 hi0 hz0 hz1 hz2 rfl (by decide) _ 0 [] h0 a ks.length c (ks.map Value.bool) (by simp) (fun j u hj => by
      have hjl : j < ks.length := by
        rcases Nat.lt_or_ge j ks.length with q | q
        · exact q
        · rw [List.getElem?_eq_none (by simpa using q)] at hj; cases hj
      have e : u = .bool (ks.getD j false) := by simp [hjl] at hj; rw [← hj]; simp [List.getD, hjl]
      have hc := hca j hjl
      rw [e]
      exact (World.cell?_of_block (((Below.refl w.heap.size w).alloc (Nat.le_refl _) _).block (a.add j).block (cell_lt' (by rw [hc]; simp)))).trans hc) (by intro u hu; simp at hu; rcases hu with ⟨_, rfl⟩ | ⟨_, rfl⟩ <;> rfl) (by unfold maxLen; omega) (by omega) (by rw [size_al]; omega)
    have h3' : w'.ownsRow w.heap.size 4 1 v' ks.length (ks.map Value.bool) := by simpa using h3
    obtain ⟨po', c', rfl⟩ := own_form h3'
    exact ⟨_, w', hr, ⟨po', c', rfl, h3'⟩, grown_made h4⟩
section
variable {w wr W W' : World} {a b a' b' : Dl} {Z ZR : Nat → Nat × Bool} {T : Nat → Prop}
theorem Mid.crash {w5 : World} {v : Value} {ks : List Bool} (h : Mid w wr W a b a' b' Z ZR T) (hb : Below W.heap.size W w5) (how : RowB W.heap.size w5 v ks) (hk : ks.length ≤ 1000) (hl : a.d.F.length < 1000000000000) :
    Calls Try.prog 30 #[ptr a.p, v] w5 fun e w1 => e = .returned (.int .i64 0) ∧ Mid w wr w1 ⟨a.p, none, a.d.crash ks⟩ b a' b' Z ZR T := by
  obtain ⟨T2, hj, ho, hT⟩ := h
  have htl := hj.tl
  have how2 := how
  obtain ⟨po, c, rfl, _⟩ := how
  exact ((hj.below hb).crash po c ks (fun S hS => (how2.kat fun b hb => htl b (hS b hb)).2) (by omega) hl).mono fun e w1 ⟨e1, j1, o1⟩ => ⟨e1, Mid.next (ho.then (Only.of_below (S := fun _ => False) hb) (fun _ _ h => h.elim)) hT j1 o1⟩
theorem Mid.rcrash (h : Mid w wr W a b a' b' Z ZR T) {po : Option Addr} (c : Nat) {ks : List Bool} (hkw : KAt w (fun _ => False) po ks) (hk : ks.length ≤ 1000) (hl : a'.d.F.length < 999000) :
    Calls Try.prog 54 #[ptr a'.p, .slice po ks.length c] W fun e w1 => e = .returned (.int .i64 0) ∧ Mid w wr w1 a b ⟨a'.p, none, a'.d.crash ks⟩ b' Z ZR T := by
  have hbe := h.be
  obtain ⟨T2, hj, ho, hT⟩ := h
  exact (hj.rcrash po c ks (hkw.only (Only.of_below (S := fun _ => False) hbe) (fun _ _ h => h)) (by omega) hl).mono fun e w1 ⟨e1, j1, o1⟩ => ⟨e1, Mid.next ho hT j1 o1⟩
theorem JB.fub (h : JB w wr a b a' b' Z ZR T) : (∀ y, b.fu = some y → y < wr.heap.size) ∧ ∀ y, b'.fu = some y → y < wr.heap.size := by
  obtain ⟨Sa, Sb, Ra, Rb, h1, h2, _⟩ := h
  exact ⟨fun y hy => (h1.fb y hy).1.lt, fun y hy => (h2.fb y hy).1.lt⟩
theorem Mid.fuse1 (h : Mid w wr W a b a' b' Z ZR T) (bl c : Nat) (hc : CAt W bl #[ptr a.p] 23) (n : Nat) (hn : n ≤ 9223372036854775807) :
    Calls Try.prog 14 #[.slice (some ⟨bl, 0, none⟩) 1 c, .int .i64 (n : Int)] W fun e w1 => e = .returned (.int .i64 0) ∧ ∃ z, (∀ y, b.fu = some y → y ≠ z) ∧ Mid w wr w1 ⟨a.p, some z, a.d.lit (a.fu.map Z)⟩ b a' b' (litZ Z z n) ZR T := by
  obtain ⟨T2, hj, ho, hT⟩ := h
  have hfu := hj.fub.1
  exact (hj.fuse1 bl c hc n hn).mono fun e w1 ⟨e1, z, hz, j1, o1⟩ => ⟨e1, z, fun y hy e => by have := hfu y hy; omega, Mid.next ho hT j1 o1⟩
theorem Mid.rfuse1 (h : Mid w wr W a b a' b' Z ZR T) (bl c : Nat) (hc : CAt W bl #[ptr a'.p] 27) (n : Nat) (hn : n ≤ 9223372036854775807) :
    Calls Try.prog 15 #[.slice (some ⟨bl, 0, none⟩) 1 c, .int .i64 (n : Int)] W fun e w1 => e = .returned (.int .i64 0) ∧ ∃ z, (∀ y, b'.fu = some y → y ≠ z) ∧ Mid w wr w1 a b ⟨a'.p, some z, a'.d.lit (a'.fu.map ZR)⟩ b' Z (litZ ZR z n) T := by
  obtain ⟨T2, hj, ho, hT⟩ := h
  have hfu := hj.fub.2
  exact (hj.rfuse1 bl c hc n hn).mono fun e w1 ⟨e1, z, hz, j1, o1⟩ => ⟨e1, z, fun y hy e => by have := hfu y hy; omega, Mid.next ho hT j1 o1⟩
theorem Mid.fuse2 (h : Mid w wr W a b a' b' Z ZR T) (bl c : Nat) (hc : CAt W bl #[ptr a.p, ptr b.p] 23) (n : Nat) (hn : n ≤ 9223372036854775807) :
    Calls Try.prog 14 #[.slice (some ⟨bl, 0, none⟩) 2 c, .int .i64 (n : Int)] W fun e w1 => e = .returned (.int .i64 0) ∧ ∃ z, Mid w wr w1 ⟨a.p, some z, a.d.lit (a.fu.map Z)⟩ ⟨b.p, some z, b.d.lit (b.fu.map Z)⟩ a' b' (litZ Z z n) ZR T := by
  obtain ⟨T2, hj, ho, hT⟩ := h
  exact (hj.fuse2 bl c hc n hn).mono fun e w1 ⟨e1, z, hz, j1, o1⟩ => ⟨e1, z, Mid.next ho hT j1 o1⟩
theorem Mid.rfuse2 (h : Mid w wr W a b a' b' Z ZR T) (bl c : Nat) (hc : CAt W bl #[ptr a'.p, ptr b'.p] 27) (n : Nat) (hn : n ≤ 9223372036854775807) :
    Calls Try.prog 15 #[.slice (some ⟨bl, 0, none⟩) 2 c, .int .i64 (n : Int)] W fun e w1 => e = .returned (.int .i64 0) ∧ ∃ z, Mid w wr w1 a b ⟨a'.p, some z, a'.d.lit (a'.fu.map ZR)⟩ ⟨b'.p, some z, b'.d.lit (b'.fu.map ZR)⟩ Z (litZ ZR z n) T := by
  obtain ⟨T2, hj, ho, hT⟩ := h
  exact (hj.rfuse2 bl c hc n hn).mono fun e w1 ⟨e1, z, hz, j1, o1⟩ => ⟨e1, z, Mid.next ho hT j1 o1⟩
theorem Mid.clone (h : Mid w wr W a b a' b' Z ZR T) (hl : a.d.F.length < 1000000000000) :
    Calls Try.prog 12 #[ptr a.p] W fun e w1 => ∃ pc, e = .returned (ptr pc) ∧ Mid w wr w1 ⟨pc, none, a.d.lit (a.fu.map Z)⟩ b a' b' Z ZR T := by
  obtain ⟨T2, hj, ho, hT⟩ := h
  exact (hj.clone hl).mono fun e w1 ⟨pc, e1, j1, o1⟩ => ⟨pc, e1, Mid.next ho hT j1 o1⟩
theorem Mid.rclone (h : Mid w wr W a b a' b' Z ZR T) (hl : a'.d.F.length < 999000) :
    Calls Try.prog 13 #[ptr a'.p] W fun e w1 => ∃ pc, e = .returned (ptr pc) ∧ Mid w wr w1 a b ⟨pc, none, a'.d.lit (a'.fu.map ZR)⟩ b' Z ZR T := by
  obtain ⟨T2, hj, ho, hT⟩ := h
  exact (hj.rclone hl).mono fun e w1 ⟨pc, e1, j1, o1⟩ => ⟨pc, e1, Mid.next ho hT j1 o1⟩
/-- Blocks outside T stay. -/
theorem Mid.cat (h : Mid w wr W a b a' b' Z ZR T) {g : Nat} {cs : Array Value} {t : TypeId} (hc : CAt wr g cs t) (hg : ¬ T g) : CAt W g cs t := hc.keep (h.only.block g hc.lt hg)
end
theorem lit_few {d : Pd} {n : Nat} (h : d.few n) (f : Fs) : (d.lit f).few n := ⟨h.len, h.ops⟩
#print axioms copyK
#print axioms Mid.rclone
end Go.Proofs.Ytfppmpfmafnfmaa

/- Contract of act of the statements: Crash. (Written by tools/gen_Mb.py.) -/
namespace Go.Proofs.Ytfppmpfmafnfmaa
open Go Go.RowKit
set_option maxHeartbeats 4000000 in
set_option maxRecDepth 100000 in
theorem act_crash {w wr : World} {a b a' b' : Dl} {Z ZR : Nat → Nat × Bool} {T : Nat → Prop} (h : JB w wr a b a' b' Z ZR T) (hr : Rel a b a' b' Z ZR) {n : Nat} (hf : a.d.few n) (hn : n ≤ 1000) (x : AV) (hx : x.ok w) (hA : x.A.length ≤ 600) (hz : x.ks.length ≤ 100) (hk : x.kind = 9) :
    Calls Try.prog 16 #[.agg #[ptr a.p, ptr a'.p], .agg x.val] wr (ActAt w wr a b a' b' T n) := by
  obtain ⟨kd, wh, at_, A, C, pb, cb, bs, is_, mask, pk, ck, ks⟩ := x
  have hxb : BAt w pb bs := hx.bB
  have hx8 : ∀ y ∈ bs, y < 256 := hx.b8
  simp only at hA hk hz
  subst hk
  have hxk : KAt w (fun _ => False) pk ks := hx.bK
  clear hx
  have hfine := h.fine
  have hAm : A.length ≤ maxLen := by unfold maxLen; omega
  have hl := hf.len
  have ho := hf.ops
  obtain ⟨pa, fa, d⟩ := a
  obtain ⟨qa, fa', d'⟩ := a'
  obtain rfl : d' = d := hr.da
  have hfa : fa'.map ZR = fa.map Z := hr.fa
  simp only at hfine hl ho
  have HTL := hid h.tl
  have HJ0 := hid (h.below (boxed_below wr pa qa ⟨9, wh, at_, A, C, pb, cb, bs, is_, mask, pk, ck, ks⟩))
  have HM0 : Hid (Mid w (boxed wr pa qa ⟨9, wh, at_, A, C, pb, cb, bs, is_, mask, pk, ck, ks⟩) (boxed wr pa qa ⟨9, wh, at_, A, C, pb, cb, bs, is_, mask, pk, ck, ks⟩) ⟨pa, fa, d'⟩ b ⟨qa, fa', d'⟩ b' Z ZR T) := hid (Mid.start HJ0.out)
  have HBB := hid (boxed_below wr pa qa ⟨9, wh, at_, A, C, pb, cb, bs, is_, mask, pk, ck, ks⟩)
  have HEQ : Hid (∃ B0, (wr.alloc (.cells #[ptr pa, ptr qa] 31)).alloc (.cells #[.int .i64 9, .int .i64 wh, .int .i64 at_, sv A, sv C, .slice pb bs.length cb, .bool is_, .int .u8 mask, .slice pk ks.length ck] 36) = B0 ∧ B0 = (boxed wr pa qa ⟨9, wh, at_, A, C, pb, cb, bs, is_, mask, pk, ck, ks⟩)) := hid ⟨_, rfl, rfl⟩
  obtain ⟨B0, hE1, hE2⟩ := HEQ.out
  have HE1 := hid hE1
  rw [← hE2] at HJ0 HM0 HBB
  clear HEQ
  have HCP : Hid (∀ W g, g = W.heap.size → Below w.heap.size w W → ∃ v' w', (Builtin.append_ #[34, 34] 34 #[.slice (some ⟨g, 0, none⟩) 0 0, .slice pk ks.length ck]).run Try.prog (W.alloc (.cells #[] 4)) = .ok v' w' ∧ RowB W.heap.size w' v' ks ∧ Below W.heap.size W w') := hid fun W g hg hb => copyK (hxk.only (Only.of_below (S := fun _ => False) hb) (fun _ _ h => h)) ck g hg (by omega)
  have HP : Hid (∀ W w5 v, Mid w B0 W ⟨pa, fa, d'⟩ b ⟨qa, fa', d'⟩ b' Z ZR T → Below W.heap.size W w5 → RowB W.heap.size w5 v ks → Calls Try.prog 30 #[ptr pa, v] w5 fun e w1 => e = .returned (.int .i64 0) ∧ Mid w B0 w1 ⟨pa, none, d'.crash ks⟩ b ⟨qa, fa', d'⟩ b' Z ZR T) := hid fun W w5 v hM hb hR => hM.crash hb hR (by omega) (by simp only; omega)
  have HQ : Hid (∀ W, Mid w B0 W ⟨pa, none, d'.crash ks⟩ b ⟨qa, fa', d'⟩ b' Z ZR T → Calls Try.prog 54 #[ptr qa, .slice pk ks.length ck] W fun e w1 => e = .returned (.int .i64 0) ∧ Mid w B0 w1 ⟨pa, none, d'.crash ks⟩ b ⟨qa, none, d'.crash ks⟩ b' Z ZR T) := hid fun W hM => hM.rcrash ck hxk (by omega) (by simp only; omega)
  have HFW := hid (crash_few hf ks)
  have HREL := hid (hr.none (d'.crash ks) pa qa)
  have HS : Hid (∀ W, Only T B0 W → W.cell? ⟨wr.heap.size, 0, none⟩ = some (ptr pa) ∧ W.cell? ⟨wr.heap.size, 1, none⟩ = some (ptr qa) ∧ W.cell? ⟨wr.heap.size + 1, 8, none⟩ = some (.slice pk ks.length ck)) := hid fun W ho => ⟨(boxed_at HTL.out (hE2 ▸ ho)).1.cell 0, (boxed_at HTL.out (hE2 ▸ ho)).1.cell 1, (boxed_at HTL.out (hE2 ▸ ho)).2.cell 8⟩
  have HC := hid (HS.out _ (Only.refl _ _))
  have HMW := HM0
  have HMD : Hid (Mid w B0 B0.drew ⟨pa, fa, d'⟩ b ⟨qa, fa', d'⟩ b' Z ZR T) := hid (HM0.out.below (Below.refl _ _).drew)
  clear h hr hf hfine hAm hl ho hA hxb hx8 hfa hxk hz hE1 hE2
  simp only at *
  generalize d'.crash ks = d2 at *
  unfold AV.val
  go_enter Try.func16, Try.ntmps16
  go_wp2
  rw [HE1.out]
  go_region_held3 (fun w' => w'.cell? ⟨wr.heap.size, 0, none⟩ = some (ptr pa) ∧ w'.cell? ⟨wr.heap.size, 1, none⟩ = some (ptr qa) ∧ w'.cell? ⟨wr.heap.size + 1, 8, none⟩ = some (.slice pk ks.length ck)) (first | with_reducible exact HC.out | exact HS.out _ ((HMW.out.below (W' := _) (by (first | exact Below.refl _ _ | exact below_drewN _ _ | exact (Below.refl _ _).alloc (Nat.le_refl _) _ | exact below_on _ _ (below_drewN _ _) ((Below.refl _ _).alloc (Nat.le_refl _) _) | exact below_on _ _ ((Below.refl _ _).alloc (Nat.le_refl _) _) (below_drewN _ _) | exact below_on _ _ (below_on _ _ (below_drewN _ _) ((Below.refl _ _).alloc (Nat.le_refl _) _)) (below_drewN _ _)))).only) | exact HC.out) (first
    | (go_at_call 30; (first | refine (HP.out B0.drew _ v5 HMD.out HB5.out HR5.out).mono ?_ | refine (HP.out B0.drew _ v5 HMD.out (below_on _ _ HB5.out (below_drewN _ _)) HR5.out).mono ?_); rintro e w1 ⟨rfl, hm⟩; have HM1 := hid hm; have HC := hid (HS.out w1 hm.only); clear hm)
    | (go_at_call 54; (first | refine (HQ.out _ HM1.out).mono ?_ | refine (HQ.out _ (HM1.out.below (below_drewN _ _))).mono ?_); rintro e w2 ⟨rfl, hm⟩; have HM2 := hid hm; have HC := hid (HS.out w2 hm.only); clear hm)
    | (refine step_append_ex (by rfl) (.tmp 193) (.tmp 195) 34 (by rfl) (.slice (some ⟨B0.heap.size, 0, none⟩) 0 0) (.slice pk ks.length ck) (by rfl) (by rfl) (HCP.out B0.drew B0.heap.size (by rfl) HMD.out.be) ?_; rintro v5 w5 ⟨hR5, hb5⟩; have HR5 := hid hR5; have HB5 := hid hb5; have HC := hid (HS.out w5 ((HMD.out.below hb5).only)); clear hR5 hb5))
  go_wp2
  go_ret
  exact ⟨rfl, _, _, d2, _, _, HM2.out.base HBB.out, HREL.out, HFW.out⟩
#print axioms act_crash
end Go.Proofs.Ytfppmpfmafnfmaa

/- Contract of act of the statements: Fuse. (Written by tools/gen_Mb.py.) -/
namespace Go.Proofs.Ytfppmpfmafnfmaa
open Go Go.RowKit
theorem cat_made (w : World) (cs : Array Value) (t : TypeId) (g : Nat) (hg : g = w.heap.size) : CAt (w.alloc (.cells cs t)) g cs t := by subst hg; exact CAt.made w cs t
theorem cat_alloc {w : World} {g : Nat} {cs : Array Value} {t : TypeId} (o : Obj) (h : CAt w g cs t) : CAt (w.alloc o) g cs t := h.below ((Below.refl _ _).alloc (Nat.le_refl _) _)
theorem cat_drew {w : World} {g : Nat} {cs : Array Value} {t : TypeId} (h : CAt w g cs t) : CAt w.drew g cs t := h
theorem cat_drewN {w : World} {g : Nat} {cs : Array Value} {t : TypeId} (n : Nat) (h : CAt w g cs t) : CAt (w.drewN n) g cs t := h
set_option maxHeartbeats 4000000 in
set_option maxRecDepth 100000 in
theorem act_fuse_bad {w wr : World} {a b a' b' : Dl} {Z ZR : Nat → Nat × Bool} {T : Nat → Prop} (h : JB w wr a b a' b' Z ZR T) (hr : Rel a b a' b' Z ZR) {n : Nat} (hf : a.d.few n) (_hn : n ≤ 1000) (x : AV) (hx : x.ok w) (hA : x.A.length ≤ 600) (hz : x.at_ < 0) (hk : x.kind = 12) :
    Calls Try.prog 16 #[.agg #[ptr a.p, ptr a'.p], .agg x.val] wr (ActAt w wr a b a' b' T n) := by
  obtain ⟨kd, wh, at_, A, C, pb, cb, bs, is_, mask, pk, ck, ks⟩ := x
  have hxb : BAt w pb bs := hx.bB
  have hx8 : ∀ y ∈ bs, y < 256 := hx.b8
  simp only at hA hk hz
  subst hk
  have hk3 := hx.k3
  simp only at hk3
  clear hx
  have hfine := h.fine
  have hAm : A.length ≤ maxLen := by unfold maxLen; omega
  have hl := hf.len
  have ho := hf.ops
  obtain ⟨pa, fa, d⟩ := a
  obtain ⟨qa, fa', d'⟩ := a'
  obtain rfl : d' = d := hr.da
  have hfa : fa'.map ZR = fa.map Z := hr.fa
  simp only at hfine hl ho
  have HTL := hid h.tl
  have HJ0 := hid (h.below (boxed_below wr pa qa ⟨12, wh, at_, A, C, pb, cb, bs, is_, mask, pk, ck, ks⟩))
  have HM0 : Hid (Mid w (boxed wr pa qa ⟨12, wh, at_, A, C, pb, cb, bs, is_, mask, pk, ck, ks⟩) (boxed wr pa qa ⟨12, wh, at_, A, C, pb, cb, bs, is_, mask, pk, ck, ks⟩) ⟨pa, fa, d'⟩ b ⟨qa, fa', d'⟩ b' Z ZR T) := hid (Mid.start HJ0.out)
  have HBB := hid (boxed_below wr pa qa ⟨12, wh, at_, A, C, pb, cb, bs, is_, mask, pk, ck, ks⟩)
  have HEQ : Hid (∃ B0, (wr.alloc (.cells #[ptr pa, ptr qa] 31)).alloc (.cells #[.int .i64 12, .int .i64 wh, .int .i64 at_, sv A, sv C, .slice pb bs.length cb, .bool is_, .int .u8 mask, .slice pk ks.length ck] 36) = B0 ∧ B0 = (boxed wr pa qa ⟨12, wh, at_, A, C, pb, cb, bs, is_, mask, pk, ck, ks⟩)) := hid ⟨_, rfl, rfl⟩
  obtain ⟨B0, hE1, hE2⟩ := HEQ.out
  have HE1 := hid hE1
  rw [← hE2] at HJ0 HM0 HBB
  clear HEQ
  have HP : Hid (∀ W bl, Below B0.heap.size B0 W → CAt W bl #[ptr pa] 23 → Calls Try.prog 14 #[.slice (some ⟨bl, 0, none⟩) 1 1, .int .i64 at_] W fun e w1 => e = .returned (.int .i64 2) ∧ (∀ g cs t, wr.heap.size ≤ g → CAt W g cs t → CAt w1 g cs t) ∧ Mid w B0 w1 ⟨pa, fa, d'⟩ b ⟨qa, fa', d'⟩ b' Z ZR T) := hid fun W bl hb hc => ((HJ0.out.below hb).look fun _ _ _ hd _ => fuse1_bad hd bl 1 hc at_ hz).mono fun e w1 ⟨e1, h1⟩ => by
    subst h1; exact ⟨e1, fun _ _ _ _ h => h, HM0.out.below hb⟩
  have HQ : Hid (∀ W bl, Mid w B0 W ⟨pa, fa, d'⟩ b ⟨qa, fa', d'⟩ b' Z ZR T → CAt W bl #[ptr qa] 27 → Calls Try.prog 15 #[.slice (some ⟨bl, 0, none⟩) 1 1, .int .i64 at_] W fun e w1 => e = .returned (.int .i64 2) ∧ Mid w B0 w1 ⟨pa, fa, d'⟩ b ⟨qa, fa', d'⟩ b' Z ZR T) := hid fun W bl hM _ => (rlight_bad _ 1 1 at_ hz W).mono fun e w1 ⟨e1, h1⟩ => by subst h1; exact ⟨e1, hM⟩
  have HREL := hid (hr.same d' pa qa)
  have HFW := hid hf.more
  have HS : Hid (∀ W, Only T B0 W → W.cell? ⟨wr.heap.size, 0, none⟩ = some (ptr pa) ∧ W.cell? ⟨wr.heap.size, 1, none⟩ = some (ptr qa) ∧ W.cell? ⟨wr.heap.size + 1, 2, none⟩ = some (.int .i64 at_)) := hid fun W ho => ⟨(boxed_at HTL.out (hE2 ▸ ho)).1.cell 0, (boxed_at HTL.out (hE2 ▸ ho)).1.cell 1, (boxed_at HTL.out (hE2 ▸ ho)).2.cell 2⟩
  have HC := hid (HS.out _ (Only.refl _ _))
  have HSZ : Hid (B0.heap.size = wr.heap.size + 2) := hid (by rw [hE2]; exact boxed_size _ _ _ _)
  clear h hr hf hfine hAm hl ho hA hxb hx8 hfa hz hE1 hE2 hk3
  simp only at *
  unfold AV.val
  go_enter Try.func16, Try.ntmps16
  go_wp2
  rw [HE1.out]
  go_region_held3 (fun w' => w'.cell? ⟨wr.heap.size, 0, none⟩ = some (ptr pa) ∧ w'.cell? ⟨wr.heap.size, 1, none⟩ = some (ptr qa) ∧ w'.cell? ⟨wr.heap.size + 1, 2, none⟩ = some (.int .i64 at_)) (first | with_reducible exact HC.out | (refine HS.out _ ((HM0.out.below ?_).only); (repeat (with_reducible first | exact Below.refl _ _ | refine below_on _ _ ?_ (below_drewN _ _) | refine below_on _ _ ?_ (Below.refl _ _).drew | refine below_on _ _ ?_ ((Below.refl _ _).alloc (Nat.le_refl _) _))); done) | (refine HS.out _ ((HM1.out.below ?_).only); (repeat (with_reducible first | exact Below.refl _ _ | refine below_on _ _ ?_ (below_drewN _ _) | refine below_on _ _ ?_ (Below.refl _ _).drew | refine below_on _ _ ?_ ((Below.refl _ _).alloc (Nat.le_refl _) _))); done) | exact HC.out) (first
    | (go_at_call 14; refine (HP.out _ _ (by ((repeat (with_reducible first | exact Below.refl _ _ | refine below_on _ _ ?_ (below_drewN _ _) | refine below_on _ _ ?_ (Below.refl _ _).drew | refine below_on _ _ ?_ ((Below.refl _ _).alloc (Nat.le_refl _) _))); done)) (by ((repeat (first | ((with_reducible refine cat_made _ _ _ _ ?_); (first | rfl | (rw [size_al]; done) | (rw [size_al, size_al]; done))) | (with_reducible refine cat_drewN _ ?_) | (with_reducible refine cat_drew ?_) | (with_reducible refine cat_alloc _ ?_) | ((with_reducible refine HKP.out _ _ _ ?_ ?_); (first | exact Nat.le_trans (by have := HSZ.out; omega) (Nat.le_refl B0.heap.size) | (have := HSZ.out; omega))))); done))).mono ?_; rintro e w1 ⟨rfl, hkp, hm⟩; have HM1 := hid hm; have HKP := hid hkp; have HC := hid (HS.out w1 hm.only); clear hm hkp)
    | (go_at_call 15; refine (HQ.out _ _ (HM1.out.below (W' := _) (by ((repeat (with_reducible first | exact Below.refl _ _ | refine below_on _ _ ?_ (below_drewN _ _) | refine below_on _ _ ?_ (Below.refl _ _).drew | refine below_on _ _ ?_ ((Below.refl _ _).alloc (Nat.le_refl _) _))); done))) (by ((repeat (first | ((with_reducible refine cat_made _ _ _ _ ?_); (first | rfl | (rw [size_al]; done) | (rw [size_al, size_al]; done))) | (with_reducible refine cat_drewN _ ?_) | (with_reducible refine cat_drew ?_) | (with_reducible refine cat_alloc _ ?_) | ((with_reducible refine HKP.out _ _ _ ?_ ?_); (first | exact Nat.le_trans (by have := HSZ.out; omega) (Nat.le_refl B0.heap.size) | (have := HSZ.out; omega))))); done))).mono ?_; rintro e w2 ⟨rfl, hm⟩; have HM2 := hid hm; have HC := hid (HS.out w2 hm.only); clear hm))
  all_goals go_wp2
  all_goals go_ret
  all_goals exact ⟨rfl, _, _, d', _, _, HM2.out.base HBB.out, HREL.out, HFW.out⟩
set_option maxHeartbeats 4000000 in
set_option maxRecDepth 100000 in
theorem act_fuse {w wr : World} {a b a' b' : Dl} {Z ZR : Nat → Nat × Bool} {T : Nat → Prop} (h : JB w wr a b a' b' Z ZR T) (hr : Rel a b a' b' Z ZR) {n : Nat} (hf : a.d.few n) (_hn : n ≤ 1000) (x : AV) (hx : x.ok w) (hA : x.A.length ≤ 600) (hz : 0 ≤ x.at_) (hk : x.kind = 12) :
    Calls Try.prog 16 #[.agg #[ptr a.p, ptr a'.p], .agg x.val] wr (ActAt w wr a b a' b' T n) := by
  obtain ⟨kd, wh, at_, A, C, pb, cb, bs, is_, mask, pk, ck, ks⟩ := x
  have hxb : BAt w pb bs := hx.bB
  have hx8 : ∀ y ∈ bs, y < 256 := hx.b8
  simp only at hA hk hz
  subst hk
  have hk3 := hx.k3
  simp only at hk3
  obtain ⟨nn, rfl⟩ : ∃ nn : Nat, at_ = (nn : Int) := ⟨at_.toNat, by omega⟩
  clear hx
  have hfine := h.fine
  have hAm : A.length ≤ maxLen := by unfold maxLen; omega
  have hl := hf.len
  have ho := hf.ops
  obtain ⟨pa, fa, d⟩ := a
  obtain ⟨qa, fa', d'⟩ := a'
  obtain rfl : d' = d := hr.da
  have hfa : fa'.map ZR = fa.map Z := hr.fa
  simp only at hfine hl ho
  have HTL := hid h.tl
  have HJ0 := hid (h.below (boxed_below wr pa qa ⟨12, wh, (nn : Int), A, C, pb, cb, bs, is_, mask, pk, ck, ks⟩))
  have HM0 : Hid (Mid w (boxed wr pa qa ⟨12, wh, (nn : Int), A, C, pb, cb, bs, is_, mask, pk, ck, ks⟩) (boxed wr pa qa ⟨12, wh, (nn : Int), A, C, pb, cb, bs, is_, mask, pk, ck, ks⟩) ⟨pa, fa, d'⟩ b ⟨qa, fa', d'⟩ b' Z ZR T) := hid (Mid.start HJ0.out)
  have HBB := hid (boxed_below wr pa qa ⟨12, wh, (nn : Int), A, C, pb, cb, bs, is_, mask, pk, ck, ks⟩)
  have HEQ : Hid (∃ B0, (wr.alloc (.cells #[ptr pa, ptr qa] 31)).alloc (.cells #[.int .i64 12, .int .i64 wh, .int .i64 (nn : Int), sv A, sv C, .slice pb bs.length cb, .bool is_, .int .u8 mask, .slice pk ks.length ck] 36) = B0 ∧ B0 = (boxed wr pa qa ⟨12, wh, (nn : Int), A, C, pb, cb, bs, is_, mask, pk, ck, ks⟩)) := hid ⟨_, rfl, rfl⟩
  obtain ⟨B0, hE1, hE2⟩ := HEQ.out
  have HE1 := hid hE1
  rw [← hE2] at HJ0 HM0 HBB
  clear HEQ
  have HP : Hid (∀ W bl, Below B0.heap.size B0 W → CAt W bl #[ptr pa] 23 → Calls Try.prog 14 #[.slice (some ⟨bl, 0, none⟩) 1 1, .int .i64 (nn : Int)] W fun e w1 => e = .returned (.int .i64 0) ∧ (∀ g cs t, wr.heap.size ≤ g → CAt W g cs t → CAt w1 g cs t) ∧ ∃ z, (∀ y, b.fu = some y → y ≠ z) ∧ Mid w B0 w1 ⟨pa, some z, d'.lit (fa.map Z)⟩ b ⟨qa, fa', d'⟩ b' (litZ Z z nn) ZR T) := hid fun W bl hb hc => by
    have hfu := (HJ0.out.below hb).fub.1
    exact ((HJ0.out.below hb).fuse1 bl 1 hc nn (by omega)).mono fun e w1 ⟨e1, z, hz, j1, o1⟩ => ⟨e1, fun g cs t hg h => h.keep (o1.block g h.lt fun k => by have := HTL.out g k; omega), z, fun y hy e => by have := hfu y hy; omega, Mid.next (Only.of_below hb) (fun _ h => Or.inl h) j1 o1⟩
  have HQ : Hid (∀ W bl z, Mid w B0 W ⟨pa, some z, d'.lit (fa.map Z)⟩ b ⟨qa, fa', d'⟩ b' (litZ Z z nn) ZR T → CAt W bl #[ptr qa] 27 → Calls Try.prog 15 #[.slice (some ⟨bl, 0, none⟩) 1 1, .int .i64 (nn : Int)] W fun e w1 => e = .returned (.int .i64 0) ∧ ∃ z', (∀ y, b'.fu = some y → y ≠ z') ∧ Mid w B0 w1 ⟨pa, some z, d'.lit (fa.map Z)⟩ b ⟨qa, some z', d'.lit (fa.map Z)⟩ b' (litZ Z z nn) (litZ ZR z' nn) T) := hid fun W bl z hM hc => by
    have := hM.rfuse1 bl 1 hc nn (by omega)
    simp only [hfa] at this; exact this
  have HREL := hid (fun z z' (h1 : ∀ y, b.fu = some y → y ≠ z) (h2 : ∀ y, b'.fu = some y → y ≠ z') => hr.lit1 (n := nn) (d'.lit (fa.map Z)) pa qa h1 h2)
  have HFW := hid (lit_few hf.more (fa.map Z))
  have HS : Hid (∀ W, Only T B0 W → W.cell? ⟨wr.heap.size, 0, none⟩ = some (ptr pa) ∧ W.cell? ⟨wr.heap.size, 1, none⟩ = some (ptr qa) ∧ W.cell? ⟨wr.heap.size + 1, 2, none⟩ = some (.int .i64 (nn : Int))) := hid fun W ho => ⟨(boxed_at HTL.out (hE2 ▸ ho)).1.cell 0, (boxed_at HTL.out (hE2 ▸ ho)).1.cell 1, (boxed_at HTL.out (hE2 ▸ ho)).2.cell 2⟩
  have HC := hid (HS.out _ (Only.refl _ _))
  have HSZ : Hid (B0.heap.size = wr.heap.size + 2) := hid (by rw [hE2]; exact boxed_size _ _ _ _)
  clear h hr hf hfine hAm hl ho hA hxb hx8 hfa hz hE1 hE2 hk3
  simp only at *
  unfold AV.val
  go_enter Try.func16, Try.ntmps16
  go_wp2
  rw [HE1.out]
  go_region_held3 (fun w' => w'.cell? ⟨wr.heap.size, 0, none⟩ = some (ptr pa) ∧ w'.cell? ⟨wr.heap.size, 1, none⟩ = some (ptr qa) ∧ w'.cell? ⟨wr.heap.size + 1, 2, none⟩ = some (.int .i64 (nn : Int))) (first | with_reducible exact HC.out | (refine HS.out _ ((HM0.out.below ?_).only); (repeat (with_reducible first | exact Below.refl _ _ | refine below_on _ _ ?_ (below_drewN _ _) | refine below_on _ _ ?_ (Below.refl _ _).drew | refine below_on _ _ ?_ ((Below.refl _ _).alloc (Nat.le_refl _) _))); done) | (refine HS.out _ ((HM1.out.below ?_).only); (repeat (with_reducible first | exact Below.refl _ _ | refine below_on _ _ ?_ (below_drewN _ _) | refine below_on _ _ ?_ (Below.refl _ _).drew | refine below_on _ _ ?_ ((Below.refl _ _).alloc (Nat.le_refl _) _))); done) | exact HC.out) (first
    | (go_at_call 14; refine (HP.out _ _ (by ((repeat (with_reducible first | exact Below.refl _ _ | refine below_on _ _ ?_ (below_drewN _ _) | refine below_on _ _ ?_ (Below.refl _ _).drew | refine below_on _ _ ?_ ((Below.refl _ _).alloc (Nat.le_refl _) _))); done)) (by ((repeat (first | ((with_reducible refine cat_made _ _ _ _ ?_); (first | rfl | (rw [size_al]; done) | (rw [size_al, size_al]; done))) | (with_reducible refine cat_drewN _ ?_) | (with_reducible refine cat_drew ?_) | (with_reducible refine cat_alloc _ ?_) | ((with_reducible refine HKP.out _ _ _ ?_ ?_); (first | exact Nat.le_trans (by have := HSZ.out; omega) (Nat.le_refl B0.heap.size) | (have := HSZ.out; omega))))); done))).mono ?_; rintro e w1 ⟨rfl, hkp, z, hz1, hm⟩; have HM1 := hid hm; have HKP := hid hkp; have HZ1 := hid hz1; clear hz1; have HC := hid (HS.out w1 hm.only); clear hm hkp)
    | (go_at_call 15; refine (HQ.out _ _ z (HM1.out.below (W' := _) (by ((repeat (with_reducible first | exact Below.refl _ _ | refine below_on _ _ ?_ (below_drewN _ _) | refine below_on _ _ ?_ (Below.refl _ _).drew | refine below_on _ _ ?_ ((Below.refl _ _).alloc (Nat.le_refl _) _))); done))) (by ((repeat (first | ((with_reducible refine cat_made _ _ _ _ ?_); (first | rfl | (rw [size_al]; done) | (rw [size_al, size_al]; done))) | (with_reducible refine cat_drewN _ ?_) | (with_reducible refine cat_drew ?_) | (with_reducible refine cat_alloc _ ?_) | ((with_reducible refine HKP.out _ _ _ ?_ ?_); (first | exact Nat.le_trans (by have := HSZ.out; omega) (Nat.le_refl B0.heap.size) | (have := HSZ.out; omega))))); done))).mono ?_; rintro e w2 ⟨rfl, z', hz2, hm⟩; have HM2 := hid hm; have HZ2 := hid hz2; clear hz2; have HC := hid (HS.out w2 hm.only); clear hm))
  all_goals go_wp2
  all_goals go_ret
  all_goals exact ⟨rfl, _, _, _, _, _, HM2.out.base HBB.out, HREL.out z z' HZ1.out HZ2.out, HFW.out⟩
#print axioms act_fuse
end Go.Proofs.Ytfppmpfmafnfmaa

/- Contract of act of the statements; what DriveScript carries. -/
namespace Go.Proofs.Ytfppmpfmafnfmaa
open Go Go.RowKit

theorem act_any {w wr : World} {a b a' b' : Dl} {Z ZR : Nat → Nat × Bool} {T : Nat → Prop} (h : JB w wr a b a' b' Z ZR T) (hr : Rel a b a' b' Z ZR) {n : Nat} (hf : a.d.few n) (hn : n ≤ 1000) (x : AV) (hx : x.ok w) (hB : x.bs.length ≤ 2000) (hA : x.A.length ≤ 600) (hC : x.C.length ≤ 600) (hK : x.ks.length ≤ 100) :
    Calls Try.prog 16 #[.agg #[ptr a.p, ptr a'.p], .agg x.val] wr (ActAt w wr a b a' b' T n) := by
  by_cases k0 : x.kind = 0
  · exact act_write h hr hf hn x hx hA hB k0
  by_cases k1 : x.kind = 1
  · exact act_sync h hr hf hn x hx hA hC k1
  by_cases k2 : x.kind = 2
  · exact act_rename h hr hf hn x hx hA hC k2
  by_cases k3 : x.kind = 3
  · exact act_delete h hr hf hn x hx hA hC k3
  by_cases k4 : x.kind = 4
  · exact act_rd h hr hf hn x hx hA k4
  by_cases k5 : x.kind = 5
  · exact act_list h hr hf hn x hx hA k5
  by_cases k6 : x.kind = 6
  · exact act_offline h hr hf hn x hx hA k6
  by_cases k7 : x.kind = 7
  · exact act_full h hr hf hn x hx hA k7
  by_cases k8 : x.kind = 8
  · exact act_turn h hr hf hn x hx hA hC k8
  by_cases k9 : x.kind = 9
  · exact act_crash h hr hf hn x hx hA hK k9
  by_cases k12 : x.kind = 12
  · by_cases hz : x.at_ < 0
    · exact act_fuse_bad h hr hf hn x hx hA hz k12
    · exact act_fuse h hr hf hn x hx hA (by omega) k12
  exact act_other h hr hf hn x hx hA ⟨k0, k1, k2, k3, k4, k5, k6, k7, k8, k9, k12⟩
/-- What DriveScript carries: both pairs, which lie in block g; an act x, which lies in block xb. -/
def LX (w W : World) (g xb : Nat) (x : AV) (i p q p2 q2 : Nat) : Prop := ∃ fa fa' fb fb' d d2 Z ZR T, JB w W ⟨p, fa, d⟩ ⟨p2, fb, d2⟩ ⟨q, fa', d⟩ ⟨q2, fb', d2⟩ Z ZR T ∧ Rel ⟨p, fa, d⟩ ⟨p2, fb, d2⟩ ⟨q, fa', d⟩ ⟨q2, fb', d2⟩ Z ZR ∧ d.few i ∧ d2.few i ∧
  CAt W g #[ptr p, ptr q, ptr p2, ptr q2] 31 ∧ ¬ T g ∧ w.heap.size ≤ g ∧ CAt W xb x.val 36 ∧ ¬ T xb
def LS (w W : World) (g i p q p2 q2 : Nat) : Prop := ∃ fa fa' fb fb' d d2 Z ZR T, JB w W ⟨p, fa, d⟩ ⟨p2, fb, d2⟩ ⟨q, fa', d⟩ ⟨q2, fb', d2⟩ Z ZR T ∧ Rel ⟨p, fa, d⟩ ⟨p2, fb, d2⟩ ⟨q, fa', d⟩ ⟨q2, fb', d2⟩ Z ZR ∧ d.few i ∧ d2.few i ∧
  CAt W g #[ptr p, ptr q, ptr p2, ptr q2] 31 ∧ ¬ T g ∧ w.heap.size ≤ g
section
variable {w W W' : World} {g xb i p q p2 q2 : Nat} {x : AV}
theorem LS.be (h : LS w W g i p q p2 q2) : Below w.heap.size w W := by obtain ⟨_, _, _, _, _, _, _, _, _, hj, _⟩ := h; exact hj.be
theorem LX.be (h : LX w W g xb x i p q p2 q2) : Below w.heap.size w W := by obtain ⟨_, _, _, _, _, _, _, _, _, hj, _⟩ := h; exact hj.be
theorem LX.off (h : LX w W g xb x i p q p2 q2) : LS w W g i p q p2 q2 := by
  obtain ⟨fa, fa', fb, fb', d, d2, Z, ZR, T, hj, hr, h1, h2, hg, hT, hw, _⟩ := h
  exact ⟨fa, fa', fb, fb', d, d2, Z, ZR, T, hj, hr, h1, h2, hg, hT, hw⟩
theorem LS.on (h : LS w W g i p q p2 q2) (x : AV) : LX w (W.alloc (.cells x.val 36)) g W.heap.size x i p q p2 q2 := by
  obtain ⟨fa, fa', fb, fb', d, d2, Z, ZR, T, hj, hr, h1, h2, hg, hT, hw⟩ := h
  exact ⟨fa, fa', fb, fb', d, d2, Z, ZR, T, hj.alloc _, hr, h1, h2, hg.below ((Below.refl _ _).alloc (Nat.le_refl _) _), hT, hw, CAt.made _ _ _, fun ht => by have := hj.tl _ ht; omega⟩
theorem LX.below (h : LX w W g xb x i p q p2 q2) (hb : Below W.heap.size W W') : LX w W' g xb x i p q p2 q2 := by
  obtain ⟨fa, fa', fb, fb', d, d2, Z, ZR, T, hj, hr, h1, h2, hg, hT, hw, hx, hTx⟩ := h
  exact ⟨fa, fa', fb, fb', d, d2, Z, ZR, T, hj.below hb, hr, h1, h2, hg.below hb, hT, hw, hx.below hb, hTx⟩
theorem LX.more (h : LX w W g xb x i p q p2 q2) : LX w W g xb x (i + 1) p q p2 q2 := by
  obtain ⟨fa, fa', fb, fb', d, d2, Z, ZR, T, hj, hr, h1, h2, hh⟩ := h
  exact ⟨fa, fa', fb, fb', d, d2, Z, ZR, T, hj, hr, h1.more, h2.more, hh⟩
theorem LX.cells (h : LX w W g xb x i p q p2 q2) : CAt W g #[ptr p, ptr q, ptr p2, ptr q2] 31 ∧ CAt W xb x.val 36 := by
  obtain ⟨fa, fa', fb, fb', d, d2, Z, ZR, T, hj, hr, h1, h2, hg, hT, hw, hx, hTx⟩ := h
  exact ⟨hg, hx⟩
theorem LX.told0 (h : LX w W g xb x i p q p2 q2) (hi : i ≤ 1000) (s : Nm) (hs : s.length ≤ 600) :
    Calls Try.prog 17 #[.agg #[ptr p, ptr q], sv s] W fun e w' => e = .returned (.bool true) ∧ LX w w' g xb x i p q p2 q2 := by
  have h0 := h
  obtain ⟨fa, fa', fb, fb', d, d2, Z, ZR, T, hj, hr, h1, h2, _⟩ := h
  exact (told_any hj hr h1 hi s hs).mono fun e w' ⟨e1, hb⟩ => ⟨e1, h0.below hb⟩
theorem LX.told1 (h : LX w W g xb x i p q p2 q2) (hi : i ≤ 1000) (s : Nm) (hs : s.length ≤ 600) :
    Calls Try.prog 17 #[.agg #[ptr p2, ptr q2], sv s] W fun e w' => e = .returned (.bool true) ∧ LX w w' g xb x i p q p2 q2 := by
  have h0 := h
  obtain ⟨fa, fa', fb, fb', d, d2, Z, ZR, T, hj, hr, h1, h2, _⟩ := h
  exact (told_any hj.swap hr.swap h2 hi s hs).mono fun e w' ⟨e1, hb⟩ => ⟨e1, h0.below hb⟩
theorem LX.act0 (h : LX w W g xb x i p q p2 q2) (hi : i ≤ 1000) (hx : x.ok w) (hB : x.bs.length ≤ 2000) (hA : x.A.length ≤ 600) (hC : x.C.length ≤ 600) (hK : x.ks.length ≤ 100) :
    Calls Try.prog 16 #[.agg #[ptr p, ptr q], .agg x.val] W fun e w' => e = .returned (.bool true) ∧ LX w w' g xb x (i + 1) p q p2 q2 := by
  obtain ⟨fa, fa', fb, fb', d, d2, Z, ZR, T, hj, hr, h1, h2, hg, hT, hw, hxb, hTx⟩ := h
  refine (act_any hj hr h1 hi x hx hB hA hC hK).mono fun e w' ⟨e1, fu, fu', d3, Z2, ZR2, hm, hr2, hf2⟩ => ⟨e1, ?_⟩
  have k1 := hm.cat hg hT
  have k2 := hm.cat hxb hTx
  obtain ⟨T2, hj2, ho, hT2⟩ := hm
  exact ⟨fu, fu', fb, fb', d3, d2, Z2, ZR2, T2, hj2, hr2, hf2, h2.more, k1, fun ht => (hT2 g ht).elim hT (fun e => by have := hg.lt; omega), hw, k2, fun ht => (hT2 xb ht).elim hTx (fun e => by have := hxb.lt; omega)⟩
theorem LX.act1 (h : LX w W g xb x i p q p2 q2) (hi : i ≤ 1000) (hx : x.ok w) (hB : x.bs.length ≤ 2000) (hA : x.A.length ≤ 600) (hC : x.C.length ≤ 600) (hK : x.ks.length ≤ 100) :
    Calls Try.prog 16 #[.agg #[ptr p2, ptr q2], .agg x.val] W fun e w' => e = .returned (.bool true) ∧ LX w w' g xb x (i + 1) p q p2 q2 := by
  obtain ⟨fa, fa', fb, fb', d, d2, Z, ZR, T, hj, hr, h1, h2, hg, hT, hw, hxb, hTx⟩ := h
  refine (act_any hj.swap hr.swap h2 hi x hx hB hA hC hK).mono fun e w' ⟨e1, fu, fu', d3, Z2, ZR2, hm, hr2, hf2⟩ => ⟨e1, ?_⟩
  have k1 := hm.cat hg hT
  have k2 := hm.cat hxb hTx
  obtain ⟨T2, hj2, ho, hT2⟩ := hm
  exact ⟨fa, fa', fu, fu', d, d3, Z2, ZR2, T2, hj2.swap, hr2.swap, h1.more, hf2, k1, fun ht => (hT2 g ht).elim hT (fun e => by have := hg.lt; omega), hw, k2, fun ht => (hT2 xb ht).elim hTx (fun e => by have := hxb.lt; omega)⟩
/-- Between: since W0, from where the pairs are known; a clone of the first pair is under way. -/
def LC (w W0 W : World) (g xb : Nat) (x : AV) (i p q p2 q2 : Nat) (pc : Option Nat) (qc : Option Nat) : Prop := ∃ fa fa' fb fb' d d2 Z ZR T, Mid w W0 W ⟨pc.getD p, if pc = none then fa else none, if pc = none then d else d.lit (fa.map Z)⟩ ⟨p2, fb, d2⟩ ⟨qc.getD q, if qc = none then fa' else none, if qc = none then d else d.lit (fa.map Z)⟩ ⟨q2, fb', d2⟩ Z ZR T ∧ Rel ⟨p, fa, d⟩ ⟨p2, fb, d2⟩ ⟨q, fa', d⟩ ⟨q2, fb', d2⟩ Z ZR ∧ d.few i ∧ d2.few i ∧
  CAt W0 g #[ptr p, ptr q, ptr p2, ptr q2] 31 ∧ ¬ T g ∧ w.heap.size ≤ g ∧ CAt W0 xb x.val 36 ∧ ¬ T xb
theorem LX.lc (h : LX w W g xb x i p q p2 q2) : LC w W W g xb x i p q p2 q2 none none := by
  obtain ⟨fa, fa', fb, fb', d, d2, Z, ZR, T, hj, hh⟩ := h
  exact ⟨fa, fa', fb, fb', d, d2, Z, ZR, T, Mid.start hj, hh⟩
theorem LX.swap (h : LX w W g xb x i p q p2 q2) : ∃ fa fa' fb fb' d d2 Z ZR T, JB w W ⟨p2, fb, d2⟩ ⟨p, fa, d⟩ ⟨q2, fb', d2⟩ ⟨q, fa', d⟩ Z ZR T ∧ Rel ⟨p2, fb, d2⟩ ⟨p, fa, d⟩ ⟨q2, fb', d2⟩ ⟨q, fa', d⟩ Z ZR ∧ d.few i ∧ d2.few i ∧
  CAt W g #[ptr p, ptr q, ptr p2, ptr q2] 31 ∧ ¬ T g ∧ w.heap.size ≤ g ∧ CAt W xb x.val 36 ∧ ¬ T xb := by
  obtain ⟨fa, fa', fb, fb', d, d2, Z, ZR, T, hj, hr, hh⟩ := h
  exact ⟨fa, fa', fb, fb', d, d2, Z, ZR, T, hj.swap, hr.swap, hh⟩
end
#print axioms act_any
end Go.Proofs.Ytfppmpfmafnfmaa

/- What DriveScript carries, from its start and over clones and fuses. -/
namespace Go.Proofs.Ytfppmpfmafnfmaa
open Go Go.RowKit

theorem jb_start {w w1 w2 w3 w4 : World} {p q p2 q2 n m : Nat} (h1 : DrAt w1 (fun b => w.heap.size ≤ b ∧ b < w1.heap.size) p none (fresh n)) (b1 : Below w.heap.size w w1) (h2 : RfAt w2 (fun b => w1.heap.size ≤ b ∧ b < w2.heap.size) q none (fresh n)) (b2 : Below w1.heap.size w1 w2)
    (h3 : DrAt w3 (fun b => w2.heap.size ≤ b ∧ b < w3.heap.size) p2 none (fresh m)) (b3 : Below w2.heap.size w2 w3) (h4 : RfAt w4 (fun b => w3.heap.size ≤ b ∧ b < w4.heap.size) q2 none (fresh m)) (b4 : Below w3.heap.size w3 w4) (Z : Nat → Nat × Bool) :
    JB w w4 ⟨p, none, fresh n⟩ ⟨p2, none, fresh m⟩ ⟨q, none, fresh n⟩ ⟨q2, none, fresh m⟩ Z Z (fun c => w.heap.size ≤ c ∧ c < w4.heap.size) := by
  have s1 := b1.size
  have s2 := b2.size
  have s3 := b3.size
  have s4 := b4.size
  have c1 : Below w1.heap.size w1 w4 := below_on _ _ (below_on _ _ b2 b3) b4
  have c2 : Below w2.heap.size w2 w4 := below_on _ _ b3 b4
  refine ⟨_, _, _, _, ⟨dok_p.keep h1 (by omega) fun b hb => c1.block b hb.2, dok_p.keep h3 (by omega) fun b hb => b4.block b hb.2, fun z e => (by cases e), fun z e => (by cases e), fun c k1 k2 => (by have := k1.2; have := k2.1; omega), fun c k => k.1, fun c k => (by have := k.1; omega)⟩,
    ⟨dok_r.keep h2 (by omega) fun b hb => c2.block b hb.2, h4, fun z e => (by cases e), fun z e => (by cases e), fun c k1 k2 => (by have := k1.2; have := k2.1; omega), fun c k => (by have := k.1; omega), fun c k => (by have := k.1; omega)⟩, fun c k1 k2 => ?_, fun c k => ?_, fun c k => k.2, fun c k => k.1, below_on _ _ b1 c1⟩
  · rcases k1 with k1 | k1 | k1 | k1
    · rcases k2 with k2 | k2 | k2 | k2
      · have := k1.2; have := k2.1; omega
      · have := k1.2; have := k2.1; omega
      · cases k2
      · cases k2
    · rcases k2 with k2 | k2 | k2 | k2
      · have := k1.1; have := k2.2; omega
      · have := k1.2; have := k2.1; omega
      · cases k2
      · cases k2
    · cases k1
    · cases k1
  · rcases k with (k | k | k | k) | (k | k | k | k)
    · have := k.1; have := k.2; exact ⟨by omega, by omega⟩
    · have := k.1; have := k.2; exact ⟨by omega, by omega⟩
    · cases k
    · cases k
    · have := k.1; have := k.2; exact ⟨by omega, by omega⟩
    · have := k.1; have := k.2; exact ⟨by omega, by omega⟩
    · cases k
    · cases k
theorem ls_start {w W : World} {p q p2 q2 n m : Nat} {T : Nat → Prop} {Z : Nat → Nat × Bool} (h : JB w W ⟨p, none, fresh n⟩ ⟨p2, none, fresh m⟩ ⟨q, none, fresh n⟩ ⟨q2, none, fresh m⟩ Z Z T) :
    LS w (W.alloc (.cells #[ptr p, ptr q, ptr p2, ptr q2] 31)) W.heap.size 0 p q p2 q2 :=
  ⟨none, none, none, none, fresh n, fresh m, Z, Z, T, h.alloc _, ⟨rfl, rfl, rfl, rfl, Iff.rfl⟩, ⟨Nat.le_refl _, Nat.le_refl _⟩, ⟨Nat.le_refl _, Nat.le_refl _⟩, CAt.made _ _ _, fun ht => by have := h.tl _ ht; omega, h.be.size⟩
section
variable {w W0 W W' : World} {g xb i : Nat} {x : AV} {b b' : Dl} {Z ZR : Nat → Nat × Bool} {T : Nat → Prop}
theorem cat_ne {cs cs' : Array Value} (h1 : CAt W g cs 31) (h2 : CAt W xb cs' 36) : g ≠ xb := fun e => by
  subst e
  have k1 : W.heap[g]? = _ := h1
  have k2 : W.heap[g]? = _ := h2
  rw [k1] at k2
  simp at k2
/-- A clone stands in the place of the first pair. -/
theorem cloned0 {pc qc p2 q2 : Nat} {fb fb' : Option Nat} {dl d2 : Pd} (hm : Mid w W0 W ⟨pc, none, dl⟩ ⟨p2, fb, d2⟩ ⟨qc, none, dl⟩ ⟨q2, fb', d2⟩ Z ZR T) (hr : Rel ⟨pc, none, dl⟩ ⟨p2, fb, d2⟩ ⟨qc, none, dl⟩ ⟨q2, fb', d2⟩ Z ZR) (h1 : dl.few i) (h2 : d2.few i)
    {cs : Array Value} (hg : CAt W0 g cs 31) (hT : ¬ T g) (hw : w.heap.size ≤ g) (hx : CAt W0 xb x.val 36) (hTx : ¬ T xb) (ho : Only (fun c => c = g) W W') (hc : CAt W' g #[ptr pc, ptr qc, ptr p2, ptr q2] 31) : LX w W' g xb x i pc qc p2 q2 := by
  have hne := cat_ne hg hx
  have k2 := hm.cat hx hTx
  obtain ⟨T2, hj, ho1, hT2⟩ := hm
  have hTg : ¬ T2 g := fun ht => (hT2 g ht).elim hT (fun e => by have := hg.lt; omega)
  exact ⟨none, none, fb, fb', dl, d2, Z, ZR, T2, hj.frame ho (fun c hc ht => hTg (hc ▸ ht)) (fun c hc => hc ▸ hw), hr, h1, h2, hc, hTg, hw, k2.keep (ho.block xb k2.lt fun e => hne e.symm), fun ht => (hT2 xb ht).elim hTx (fun e => by have := hx.lt; omega)⟩
theorem cloned1 {pc qc p q : Nat} {fa fa' : Option Nat} {dl d : Pd} (hm : Mid w W0 W ⟨pc, none, dl⟩ ⟨p, fa, d⟩ ⟨qc, none, dl⟩ ⟨q, fa', d⟩ Z ZR T) (hr : Rel ⟨pc, none, dl⟩ ⟨p, fa, d⟩ ⟨qc, none, dl⟩ ⟨q, fa', d⟩ Z ZR) (h1 : dl.few i) (h2 : d.few i)
    {cs : Array Value} (hg : CAt W0 g cs 31) (hT : ¬ T g) (hw : w.heap.size ≤ g) (hx : CAt W0 xb x.val 36) (hTx : ¬ T xb) (ho : Only (fun c => c = g) W W') (hc : CAt W' g #[ptr p, ptr q, ptr pc, ptr qc] 31) : LX w W' g xb x i p q pc qc := by
  have hne := cat_ne hg hx
  have k2 := hm.cat hx hTx
  obtain ⟨T2, hj, ho1, hT2⟩ := hm
  have hTg : ¬ T2 g := fun ht => (hT2 g ht).elim hT (fun e => by have := hg.lt; omega)
  exact ⟨fa, fa', none, none, d, dl, Z, ZR, T2, (hj.frame ho (fun c hc ht => hTg (hc ▸ ht)) (fun c hc => hc ▸ hw)).swap, hr.swap, h2, h1, hc, hTg, hw, k2.keep (ho.block xb k2.lt fun e => hne e.symm), fun ht => (hT2 xb ht).elim hTx (fun e => by have := hx.lt; omega)⟩
theorem lit_pair {p q p2 q2 : Nat} {fa fa' fb fb' : Option Nat} {d d2 : Pd} (hm : Mid w W0 W ⟨p, fa, d⟩ ⟨p2, fb, d2⟩ ⟨q, fa', d⟩ ⟨q2, fb', d2⟩ Z ZR T) (hr : Rel ⟨p, fa, d⟩ ⟨p2, fb, d2⟩ ⟨q, fa', d⟩ ⟨q2, fb', d2⟩ Z ZR) (h1 : d.few i) (h2 : d2.few i)
    (hg : CAt W0 g #[ptr p, ptr q, ptr p2, ptr q2] 31) (hT : ¬ T g) (hw : w.heap.size ≤ g) (hx : CAt W0 xb x.val 36) (hTx : ¬ T xb) : LX w W g xb x i p q p2 q2 := by
  have k1 := hm.cat hg hT
  have k2 := hm.cat hx hTx
  obtain ⟨T2, hj, ho1, hT2⟩ := hm
  exact ⟨fa, fa', fb, fb', d, d2, Z, ZR, T2, hj, hr, h1, h2, k1, fun ht => (hT2 g ht).elim hT (fun e => by have := hg.lt; omega), hw, k2, fun ht => (hT2 xb ht).elim hTx (fun e => by have := hx.lt; omega)⟩
end
#print axioms jb_start
#print axioms cloned1
end Go.Proofs.Ytfppmpfmafnfmaa
