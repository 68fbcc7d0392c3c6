/- Texts laid into one, cut to what is needed: the remark ahead of each part says what is proved there. -/
import Derived.Test.YtelkijiphhoacaaGreatDoorMax
import Derived.Test.YtelkijiphhoacaaGreatDoorMbd
import Derived.Test.YtelkijiphhoacaaGreatDoorMaw
/- OverBytes of what Elect tells; choices. -/
namespace Go.Proofs.YtelkijiphhoacaaGreatDoor
open Go Go.RowKit

/-- The first c cells of block g are bytes that may be written. -/
def CellsW (w : World) (g c : Nat) : Prop := ∀ i, i < c → w.frozen? ⟨g, i, none⟩ = false ∧ ∃ z : Nat, z < 256 ∧ w.cell? ⟨g, i, none⟩ = some (.int .u8 (z : Int))
/-- Bools stay. -/
def KBo (w w' : World) : Prop := ∀ a x, w.cell? a = some (.bool x) → w'.cell? a = some (.bool x)
theorem KBo.set {w w' : World} (h : KBo w w') {g k : Nat} (hc : w.frozen? ⟨g, k, none⟩ = false ∧ ∃ z : Nat, z < 256 ∧ w.cell? ⟨g, k, none⟩ = some (.int .u8 (z : Int))) (u : Value) : KBo w (w'.setCell ⟨g, k, none⟩ u) := fun a x ha => by
  rw [World.cell?_setCell_other _ _ _ _ (by rintro rfl; obtain ⟨_, z, _, h2⟩ := hc; rw [h2] at ha; cases ha)]
  exact h a x ha
theorem BoL.kbo {w w' : World} {v : Value} {hs : List Bool} (h : BoL w v hs) (hk : KBo w w') : BoL w' v hs := by
  obtain ⟨po, c, h1, h2, h3⟩ := h
  refine ⟨po, c, h1, h2, ?_⟩
  rcases h3 with h3 | ⟨b, o, e, h3⟩
  · exact Or.inl h3
  · exact Or.inr ⟨b, o, e, fun i x hx => hk _ _ (h3 i x hx)⟩
theorem OvB.below {B : Nat} {w w' : World} {v : Value} (h : OvB B w v) (hb : Below w.heap.size w w') : OvB B w' v := by
  rcases h with h | ⟨g, n, c, rfl, h1, h2, h3, h4⟩
  · exact Or.inl h
  · exact OvB.keepB (Or.inr ⟨g, n, c, rfl, h1, h2, h3, h4⟩) (hb.block g h2) hb.size
theorem CellsW.set {w : World} {g c : Nat} (h : CellsW w g c) (k z : Nat) (hz : z < 256) : CellsW (w.setCell ⟨g, k, none⟩ (.int .u8 (z : Int))) g c := fun i hi => by
  obtain ⟨hf, x, hx, hc⟩ := h i hi
  refine ⟨by rw [World.frozen?_setCell]; exact hf, ?_⟩
  by_cases e : i = k
  · subst e; exact ⟨z, hz, World.cell?_setCell_same _ _ _ hc⟩
  · exact ⟨x, hx, by rw [World.cell?_setCell_other _ _ _ _ (by intro h2; cases h2; exact e rfl)]; exact hc⟩
set_option maxRecDepth 100000 in
set_option maxHeartbeats 1000000 in
theorem over9_some (g n c : Nat) (w : World) (hn : c ≤ maxLen) (h : CellsW w g c) :
    Calls Tryz.prog 11 #[.slice (some ⟨g, 0, none⟩) n c] w fun e w' => e = .returned (.tuple #[]) ∧ Only (fun b => b = g) w w' ∧ KBo w w' := by
  have hs := run_cap8 g n c
  have H := hid h
  have H0 := hid h
  have hn' : c ≤ 9223372036854775807 := hn
  clear h hn
  go_enter Tryz.func11, Tryz.ntmps11
  go_wp2
  clear hs
  go_loopw [3] (fun i wr => ∃ k : Nat, k ≤ c ∧ i = .int .i64 k ∧ Only (fun b => b = g) w wr ∧ CellsW wr g c ∧ Hid (KBo w wr)) (fun i _ => (c - intOf i).toNat)
  case atStart => exact ⟨0, by omega, rfl, Only.refl _ _, H.out, hid (fun _ _ h => h)⟩
  case round =>
    clear H
    obtain ⟨k, hk, rfl, ho, hr, HKB⟩ := hrel
    by_cases hlt : k < c
    · have hlt' : (k : Int) < (c : Int) := by omega
      obtain ⟨hfz, z, hz, hcz⟩ := hr k hlt
      have hx : bits BinOp.xor IntKind.u8 (z : Int) 90 = ((z ^^^ 90 : Nat) : Int) := u8_xor_nat z 90 hz (by decide)
      have HO := hid (ho.trans (Only.set (S := fun b => b = g) wr ⟨g, k, none⟩ (.int .u8 ((z ^^^ 90 : Nat) : Int)) rfl))
      have HR := hid (hr.set k (z ^^^ 90) (xor_lt hz (by decide)))
      have HKN := hid (HKB.out.set (H0.out k hlt) (.int .u8 ((z ^^^ 90 : Nat) : Int)))
      clear hr ho
      generalize z ^^^ 90 = y at *
      go_wp2
      go_roundw
      case rel => exact ⟨k + 1, by omega, by go_num, HO.out, HR.out, HKN⟩
      case measure => simp [intOf]; omega
    · have hlt' : ¬ (k : Int) < (c : Int) := by omega
      have HO := hid ho
      clear hr ho
      go_wp2
      go_end0
      exact ⟨rfl, HO.out, HKB.out⟩
theorem over9_any {B : Nat} {w : World} {v : Value} (h : OvB B w v) (hB : B ≤ w.heap.size) : Calls Tryz.prog 11 #[v] w fun e w' => e = .returned (.tuple #[]) ∧ Below B w w' ∧ KBo w w' := by
  rcases h with rfl | ⟨g, n, c, rfl, hg, _, hc, hx⟩
  · exact (over2_nil w).mono fun e w' ⟨h1, h2⟩ => ⟨h1, by rw [h2]; exact Below.refl _ _, by rw [h2]; exact fun _ _ h => h⟩
  · exact (over9_some g n c w hc hx).mono fun e w' ⟨h1, h2, h3⟩ => ⟨h1, h2.below hB (fun i e => by omega), h3⟩
theorem CAt.e12 {w : World} {g : Nat} {f : Bool} {s : Int} {v b h : Value} {a n : Int} (hc : CAt w g (eC f s v b h a n) 31) : ∀ j u, (jC s v)[j]? = some u → w.cell? ⟨g, 1 + j, none⟩ = some u := fun j u hu => by
  rw [hc.cell]
  match j, hu with
  | 0, hu => exact hu
  | 1, hu => exact hu
  | j + 2, hu => simp [jC] at hu
set_option maxRecDepth 100000 in
set_option maxHeartbeats 4000000 in
theorem choices9_any (f : Bool) (s : Int) (v v2 b b2 h h2 : Value) (A n : Int) (m m2 : List Rp) (x : List Nat) (hs : List Bool) (w : World) (hr : RL w v m) (hr2 : RL w v2 m2) (hm : rcs m = rcs m2) (hb : SL w b x) (hb2 : SL w b2 x) (h8 : ∀ z ∈ x, z < 256) (hh : BoL w h hs) (hh2 : BoL w h2 hs) (hn : hs.length ≤ 2000) :
    Calls Tryz.prog 8 #[.agg (eC f s v b h A n), .agg (eC f s v2 b2 h2 A n)] w fun e w' => e = .returned (.bool true) ∧ Below w.heap.size w w' := by
  have HSM : Hid (∀ W, Below w.heap.size w W → Calls Tryz.prog 23 #[.agg (jC s v), .agg (jC s v2)] W fun e w' => e = .returned (.bool true) ∧ Below W.heap.size W w') := hid (fun W hW => by
    have := rjsame_any s s v v2 m m2 W (hr.below hW) (hr2.below hW)
    rw [hm, decide_eq_true rfl] at this
    exact this)
  have HSB : Hid (∀ W, Below w.heap.size w W → Calls Tryz.prog 24 #[b, b2] W fun e w' => e = .returned (.bool true) ∧ w' = W) := hid (fun W hW => by
    have := sameB_any (hb.below hW) (hb2.below hW) h8 h8
    rw [decide_eq_true rfl] at this
    exact this)
  have HST : Hid (∀ W, Below w.heap.size w W → Calls Tryz.prog 12 #[h, h2] W fun e w' => e = .returned (.bool true) ∧ Below W.heap.size W w') := hid (fun W hW => by
    have := sameT_any h h2 hs hs W hn (hh.below hW) (hh2.below hW)
    rw [decide_eq_true rfl] at this
    exact this)
  have hff : (f == f) = true := by simp
  have hAA : (A == A) = true := by simp
  have hnn : (n == n) = true := by simp
  clear hr hr2 hb hb2 hh hh2 hm h8
  have T1 : Hid True := hid trivial
  have T2 : Hid True := hid trivial
  go_enter Tryz.func8, Tryz.ntmps8
  go_wp2_with (first
    | (clear T1; (with_reducible refine wpList_boxT 31 rfl _ rfl (eC f s v b h A n) ?_ ?_); exact rfl; intro w1 g2 hc1 hb1 hg1; have HC1 := hid hc1; have HB1 := hid hb1; clear hb1 hc1 hg1)
    | ((with_reducible refine wpList_boxT 31 rfl _ rfl (eC f s v2 b2 h2 A n) ?_ ?_); exact rfl; intro w2 g3 hc2 hb2 hg2; have HC2 := hid hc2; replace HC1 := hid (HC1.out.below hb2); replace HB1 := hid (below_on HB1.out hb2); have k0 : w2.cell? ⟨g2, 0, none⟩ = some (.bool f) := HC1.out.cell 0; have j0 : w2.cell? ⟨g3, 0, none⟩ = some (.bool f) := HC2.out.cell 0; clear hb2 hc2 hg2)
    | (clear T2; (with_reducible refine wpList_load_at 27 _ rfl ?_ g2 1 ?_ (jC s v) _ ?_ underJrn rfl ?_ ?_); exact rfl; exact rfl; exact HC1.out.e12; exact sizeJ)
    | ((with_reducible refine wpList_load_at 27 _ rfl ?_ g3 1 ?_ (jC s v2) _ ?_ underJrn rfl ?_ ?_); exact rfl; exact rfl; exact HC2.out.e12; exact sizeJ)
    | (go_at_call 23; refine (HSM.out _ HB1.out).mono ?_; rintro e w4 ⟨rfl, hb4⟩; replace HC1 := hid (HC1.out.below hb4); replace HC2 := hid (HC2.out.below hb4); replace HB1 := hid (below_on HB1.out hb4); clear k0 j0; have k3 : w4.cell? ⟨g2, 3, none⟩ = some b := HC1.out.cell 3; have j3 : w4.cell? ⟨g3, 3, none⟩ = some b2 := HC2.out.cell 3; have k4 : w4.cell? ⟨g2, 4, none⟩ = some h := HC1.out.cell 4; have j4 : w4.cell? ⟨g3, 4, none⟩ = some h2 := HC2.out.cell 4; clear hb4)
    | (go_at_call 24; refine (HSB.out _ HB1.out).mono ?_; rintro e w5 ⟨rfl, hw⟩; have hw5 := hw.symm; subst hw5)
    | (go_at_call 12; refine (HST.out _ HB1.out).mono ?_; rintro e w6 ⟨rfl, hb6⟩; replace HC1 := hid (HC1.out.below hb6); replace HC2 := hid (HC2.out.below hb6); replace HB1 := hid (below_on HB1.out hb6); clear k3 j3 k4 j4; have k5 : w6.cell? ⟨g2, 5, none⟩ = some (i64 A) := HC1.out.cell 5; have j5 : w6.cell? ⟨g3, 5, none⟩ = some (i64 A) := HC2.out.cell 5; have k6 : w6.cell? ⟨g2, 6, none⟩ = some (i64 n) := HC1.out.cell 6; have j6 : w6.cell? ⟨g3, 6, none⟩ = some (i64 n) := HC2.out.cell 6; clear hb6))
  go_ret
  exact ⟨rfl, HB1.out⟩
end Go.Proofs.YtelkijiphhoacaaGreatDoor

/- copies: copies in memory of their own. -/
namespace Go.Proofs.YtelkijiphhoacaaGreatDoor
open Go Go.RowKit

def Cv.row (x : Cv) : List Value := [i64 x.err, x.v]
theorem crow_len (L : List Cv) : ∀ r ∈ L.map Cv.row, r.length = 2 := fun r hr => by obtain ⟨x, _, rfl⟩ := List.mem_map.1 hr; rfl
/-- Copies in a row of their own, their bytes too. -/
structure CI (B : Nat) (w : World) (v : Value) (L : List Cv) : Prop where
  buf : XB 44 2 B w v (L.map Cv.row)
  each : ∀ x ∈ L, Buf B w x.v x.bs ∧ (∀ z ∈ x.bs, z < 256) ∧ x.bs.length ≤ 100000
theorem CI.nil (B : Nat) (w : World) : CI B w nilS [] := ⟨XB.nil _ _ B w, fun x hx => by cases hx⟩
theorem CI.on {B : Nat} {w w' : World} {v : Value} {L : List Cv} (h : CI B w v L) (hb : Below w.heap.size w w') : CI B w' v L := ⟨h.buf.below hb, fun x hx => ⟨(h.each x hx).1.below hb, (h.each x hx).2⟩⟩
theorem own_blk9 {B e sz n : Nat} {w : World} {v : Value} {xs : List Value} (h : w.ownsRow B e sz v n xs) {b : Nat} (hb : v.ownBlock = some b) : ∃ cur, CAt w b cur e := by
  rcases h.2 with ⟨e2, _⟩ | ⟨g', cap, cur, e2, _, hg', _⟩
  · rw [e2] at hb; cases hb
  · rw [e2] at hb
    cases hb
    exact ⟨cur, hg'⟩
theorem own_otherO9 {B1 e1 z1 n1 B2 e2 z2 n2 : Nat} {w w' : World} {u v : Value} {xs ys : List Value} (h1 : w.ownsRow B1 e1 z1 u n1 xs) (h2 : w.ownsRow B2 e2 z2 v n2 ys) (ht : e1 ≠ e2) (hO : Only (fun b => v.ownBlock = some b) w w') : w'.ownsRow B1 e1 z1 u n1 xs :=
  ownsRow_keep h1 fun b hb => hO.block b (own_ge h1 b hb).2 (fun k => by
    obtain ⟨c1, k1⟩ := own_blk9 h1 hb
    obtain ⟨c2, k2⟩ := own_blk9 h2 k
    exact k1.apart k2 ht rfl)
theorem CI.push {B : Nat} {w : World} {v : Value} {L : List Cv} (h : CI B w v L) (x : Cv) (hx : Buf B w x.v x.bs) (h8 : ∀ z ∈ x.bs, z < 256) (hs : x.bs.length ≤ 100000) (hn : L.length ≤ 1000) (hB : B ≤ w.heap.size) (ty : TypeId) :
    ∃ v' w', (Builtin.append_ #[22, 22] ty #[v, .slice (some ⟨w.heap.size, 0, none⟩) 1 1]).run Tryz.prog (w.alloc (.cells (cC x.err x.v) 44)) = .ok v' w' ∧ CI B w' v' (L ++ [x]) ∧ Below B w w' := by
  have hal := below_al w (.cells (cC x.err x.v) 44)
  have hc : CAt (w.alloc (.cells (cC x.err x.v) 44)) w.heap.size (cC x.err x.v) 44 := CAt.made w _ _
  have h1 := h.on hal
  have hB1 : B ≤ (w.alloc (.cells (cC x.err x.v) 44)).heap.size := by rw [size_al]; omega
  obtain ⟨px, cx, hxf⟩ := hx.form
  obtain ⟨v', w', hr, h2, h3, _⟩ := h1.buf.app (ty := ty) (T := 22) Tryz.underlying22 Tryz.infoCp rfl (by decide) w.heap.size 0 1 [x.row] (fun r hr => by rcases List.mem_singleton.1 hr with rfl; rfl) (fun r hr => by
    rcases List.mem_singleton.1 hr with rfl
    intro u hu
    simp only [Cv.row, List.mem_cons, List.not_mem_nil, or_false] at hu
    rcases hu with rfl | rfl
    · rfl
    · rw [hxf]; rfl) (fun i r hr j u hu => by
    rcases i with _ | i
    · simp at hr
      subst hr
      rw [Nat.zero_mul, Nat.zero_add, hc.cell]
      simpa [cC, Cv.row] using hu
    · simp at hr) (by rw [List.length_map]; simp; omega) (by decide) hB1
  have hO : Only (fun b => v.ownBlock = some b) (w.alloc (.cells (cC x.err x.v) 44)) w' := Only.of_grown h3 fun b e _ => e
  refine ⟨v', w', hr, ⟨by rw [List.map_append]; exact h2, fun y hy => ?_⟩, below_tr (below_less hal hB) (XB.mono hB1 h3 h1.buf)⟩
  rcases List.mem_append.1 hy with hy | hy
  · exact ⟨own_otherO9 (h1.each y hy).1 h1.buf (by decide) hO, (h1.each y hy).2⟩
  · rcases List.mem_singleton.1 hy with rfl
    exact ⟨own_otherO9 (hx.below hal) h1.buf (by decide) hO, h8, hs⟩
theorem CI.cl {B : Nat} {w : World} {v : Value} {L : List Cv} (h : CI B w v L) (hn : L.length ≤ 1000) : CL w v L := by
  obtain ⟨po, c, e, h1, h2⟩ := h.buf.form
  rw [List.length_map] at e h1
  refine ⟨po, c, e, h1, hn, h2, ?_, fun x hx => ?_⟩
  · by_cases h0 : 0 < L.length
    · obtain ⟨g, c2, e2, _, _, _, h3⟩ := h.buf.cells (crow_len L) (by rw [List.length_map]; exact h0)
      rw [List.length_map] at e2
      rw [e] at e2
      cases e2
      refine Or.inr ⟨g, 0, rfl, fun i x hx => ?_⟩
      have h4 := h3 i x.row (by rw [List.getElem?_map, hx]; rfl)
      exact ⟨by have := h4 0 (i64 x.err) rfl; simpa using this, h4 1 x.v rfl⟩
    · exact Or.inl (List.eq_nil_of_length_eq_zero (by omega))
  · obtain ⟨h3, h4, h5⟩ := h.each x hx
    obtain ⟨p, c3, e3⟩ := h3.form
    have h6 := h3
    rw [e3] at h6
    have := h6.cv rfl h5 h4 x.err
    rw [← e3] at this
    exact this
theorem exec_app9 {a : Act} {o : Oper} {s x : Operand} {t t2 : TypeId} {v xv v' : Value} {W W' : World} (ho : o.op = .call { callee := .builtin .append, args := #[s, x], argTypes := #[t, t2] }) (hs : a.eval s = v) (hx : a.eval x = xv) (hr : (Builtin.append_ #[t, t2] o.type #[v, xv]).run Tryz.prog W = .ok v' W') : (execOp a.eval o).run Tryz.prog W = .ok (.value v') W' := by
  unfold execOp
  simp only [ho, resolve, invoke, builtin, Sem.run_bind, Sem.run_pure, Result.andThen_ok, List.map_toArray, List.map_cons, List.map_nil, hs, hx, hr]
theorem exec_bsC {a : Act} {o : Oper} {x : Operand} {e : Int} {v : Value} {W : World} (ho : o.op = .buildSlice 22 1 #[(0, x)]) (hx : a.eval x = .agg (cC e v)) : (execOp a.eval o).run Tryz.prog W = .ok (.value (.slice (some ⟨W.heap.size, 0, none⟩) 1 1)) (W.alloc (.cells (cC e v) 44)) := by
  have h := run_buildX (T := 22) Tryz.underlying22 Tryz.infoCp (by decide) (by decide) W (cC e v) rfl
  unfold execOp
  simp only [ho, List.map_toArray, List.map_cons, List.map_nil, hx, Sem.run_bind, h, Result.andThen_ok, Sem.run_pure]
/-- What copies tells. -/
def CpS (w : World) (l : List Cp) (e : Ending) (w' : World) : Prop := ∃ v' L, e = .returned v' ∧ CI w.heap.size w' v' L ∧ cps L = l ∧ Below w.heap.size w w'
set_option maxRecDepth 100000 in
set_option maxHeartbeats 4000000 in
theorem copies9_any (v : Value) (l : List Cv) (w : World) (hl : CL w v l) : Calls Tryz.prog 5 #[v] w (CpS w (cps l)) := by
  have HL := hid hl
  obtain ⟨po, c, rfl, hc1, hn, -⟩ := hl
  obtain ⟨n, hN⟩ : ∃ n, l.length = n := ⟨_, rfl⟩
  have HN := hid hN
  rw [hN] at hn HL ⊢
  clear hN hc1
  go_enter Tryz.func5, Tryz.ntmps5
  go_wp2
  go_loopg [3, 4] n (fun gg s3 s4 wr => ∃ (kk : Nat) (L : List Cv), kk ≤ n ∧ n - kk ≤ gg ∧ s4 = i64 kk ∧ Hid (CI w.heap.size wr s3 L) ∧ Hid (cps L = cps (l.take kk)) ∧ Hid (L.length ≤ kk) ∧ Hid (Below w.heap.size w wr))
  case atStart => exact ⟨0, [], Nat.zero_le _, by omega, rfl, hid (CI.nil _ _), hid rfl, hid (Nat.le_refl _), hid (Below.refl _ _)⟩
  case round =>
    obtain ⟨kk, L, hkk, hg, rfl, HI, HCE, HLN, BW⟩ := hrel
    obtain ⟨ph, ch, hfh, -⟩ := HI.out.buf.form
    obtain ⟨nh, hnh⟩ : ∃ nh, (L.map Cv.row).length = nh := ⟨_, rfl⟩
    rw [hnh] at hfh
    subst hfh
    by_cases hlt : kk < n
    · have hltz : (kk : Int) < (n : Int) := by omega
      obtain ⟨x, hx⟩ : ∃ x, l[kk]? = some x := ⟨_, List.getElem?_eq_getElem (by have := HN.out; omega)⟩
      obtain ⟨b, o, c', e, -⟩ := HL.out.where hx
      rw [HN.out] at e
      cases e
      obtain ⟨-, -, hok0⟩ := HL.out.at BW.out hx
      obtain ⟨p1, c1, hxv, -, -, hnil⟩ := hok0.sl
      obtain ⟨m1, hm1⟩ : ∃ m, x.bs.length = m := ⟨_, rfl⟩
      rw [hm1] at hxv
      have H8 := hid hok0.byte
      have HSM := hid hok0.small
      have HX := hid hx
      have HSF : Hid (∀ W, Below w.heap.size w W → (fun W => W.cell? ⟨b, o + kk * 2, none⟩ = some (i64 x.err) ∧ W.cell? ⟨b, o + kk * 2 + 1, none⟩ = some (.slice p1 m1 c1)) W) := hid (fun W hW => by
        obtain ⟨h1, h2, -⟩ := HL.out.at hW hx
        rw [hxv] at h2
        exact ⟨h1, h2⟩)
      have HCP : Hid (∀ W, Below w.heap.size w W → Calls Tryz.prog 15 #[.slice p1 m1 c1] W (BufS W.heap.size W x.bs)) := hid (fun W hW => by
        have h3 := (HL.out.at hW hx).2.2.slv
        rw [hxv] at h3
        exact copyB_any h3 (by have := HSM.out; omega) (fun n9 c9 e9 => by cases e9; exact hnil rfl))
      unfold BufS at HCP
      obtain ⟨E, hEE⟩ : ∃ E, x.err = E := ⟨_, rfl⟩
      have HEE := hid hEE
      rw [hEE] at HSF
      clear hok0 hxv hm1 hx hnil hnh hEE
      go_wp2_with fail
      have HD := hid (below_drew wr)
      refine wp_region_held_drew (S := (fun W => W.cell? ⟨b, o + kk * 2, none⟩ = some (i64 E) ∧ W.cell? ⟨b, o + kk * 2 + 1, none⟩ = some (.slice p1 m1 c1))) (by kernel_rfl) (HSF.out _ (below_on BW.out HD.out)) (fun hHeld => ?_)
      replace HI := hid (HI.out.on HD.out)
      replace BW := hid (below_on BW.out HD.out)
      generalize wr.drew = wd at HI BW hHeld ⊢
      refine wpAnyH_take (i := 0) (oi := ⟨some 11, .move (.tmp 3), _, _, _, none⟩) (v := .slice ph nh ch) rfl (by kernel_rfl) (by kernel_rfl) (by kernel_rfl) (fun _ _ _ h => h) (Or.inl ⟨by kernel_rfl, by intro W hW; obtain ⟨q0, q1⟩ := hW; go_simp⟩) hHeld ?_
      refine wpAnyH_take (i := 1) (oi := ⟨some 12, .move (.tmp 0), _, _, _, none⟩) (v := .slice (some ⟨b, o, none⟩) n c) rfl (by kernel_rfl) (by kernel_rfl) (by kernel_rfl) (fun _ _ _ h => h) (Or.inl ⟨by kernel_rfl, by intro W hW; obtain ⟨q0, q1⟩ := hW; go_simp⟩) hHeld ?_
      refine wpAnyH_take (i := 2) (oi := ⟨some 13, .move (.tmp 4), _, _, _, none⟩) (v := i64 kk) rfl (by kernel_rfl) (by kernel_rfl) (by kernel_rfl) (fun _ _ _ h => h) (Or.inl ⟨by kernel_rfl, by intro W hW; obtain ⟨q0, q1⟩ := hW; go_simp⟩) hHeld ?_
      refine wpAnyH_take (i := 3) (oi := ⟨some 14, .indexAddr 22 (.tmp 12) (.tmp 13), _, _, _, none⟩) (v := .pointer (some ⟨b, o + kk * 2, none⟩)) rfl (by kernel_rfl) (by kernel_rfl) (by kernel_rfl) (fun _ _ _ h => h) (Or.inl ⟨by kernel_rfl, by intro W hW; obtain ⟨q0, q1⟩ := hW; go_simp⟩) hHeld ?_
      refine wpAnyH_take (i := 4) (oi := ⟨some 15, .fieldAddr 44 (.tmp 14) 0, _, _, _, none⟩) (v := .pointer (some ⟨b, o + kk * 2, none⟩)) rfl (by kernel_rfl) (by kernel_rfl) (by kernel_rfl) (fun _ _ _ h => h) (Or.inl ⟨by kernel_rfl, by intro W hW; obtain ⟨q0, q1⟩ := hW; go_simp⟩) hHeld ?_
      refine wpAnyH_take (i := 5) (oi := ⟨some 16, .load 32 (.tmp 15), _, _, _, none⟩) (v := i64 E) rfl (by kernel_rfl) (by kernel_rfl) (by kernel_rfl) (fun _ _ _ h => h) (Or.inl ⟨by kernel_rfl, by intro W hW; obtain ⟨q0, q1⟩ := hW; go_simp⟩) hHeld ?_
      refine wpAnyH_take (i := 6) (oi := ⟨some 17, .move (.tmp 0), _, _, _, none⟩) (v := .slice (some ⟨b, o, none⟩) n c) rfl (by kernel_rfl) (by kernel_rfl) (by kernel_rfl) (fun _ _ _ h => h) (Or.inl ⟨by kernel_rfl, by intro W hW; obtain ⟨q0, q1⟩ := hW; go_simp⟩) hHeld ?_
      refine wpAnyH_take (i := 7) (oi := ⟨some 18, .move (.tmp 4), _, _, _, none⟩) (v := i64 kk) rfl (by kernel_rfl) (by kernel_rfl) (by kernel_rfl) (fun _ _ _ h => h) (Or.inl ⟨by kernel_rfl, by intro W hW; obtain ⟨q0, q1⟩ := hW; go_simp⟩) hHeld ?_
      refine wpAnyH_take (i := 8) (oi := ⟨some 19, .indexAddr 22 (.tmp 17) (.tmp 18), _, _, _, none⟩) (v := .pointer (some ⟨b, o + kk * 2, none⟩)) rfl (by kernel_rfl) (by kernel_rfl) (by kernel_rfl) (fun _ _ _ h => h) (Or.inl ⟨by kernel_rfl, by intro W hW; obtain ⟨q0, q1⟩ := hW; go_simp⟩) hHeld ?_
      refine wpAnyH_take (i := 9) (oi := ⟨some 20, .fieldAddr 44 (.tmp 19) 1, _, _, _, none⟩) (v := .pointer (some ⟨b, o + kk * 2 + 1, none⟩)) rfl (by kernel_rfl) (by kernel_rfl) (by kernel_rfl) (fun _ _ _ h => h) (Or.inl ⟨by kernel_rfl, by intro W hW; obtain ⟨q0, q1⟩ := hW; go_simp⟩) hHeld ?_
      refine wpAnyH_take (i := 10) (oi := ⟨some 21, .load 28 (.tmp 20), _, _, _, none⟩) (v := .slice p1 m1 c1) rfl (by kernel_rfl) (by kernel_rfl) (by kernel_rfl) (fun _ _ _ h => h) (Or.inl ⟨by kernel_rfl, by intro W hW; obtain ⟨q0, q1⟩ := hW; go_simp⟩) hHeld ?_
      refine wpAnyH_ready (rs := [11]) (by kernel_rfl) (by simp) ?_
      refine AllReadyH.cons rfl (fun K hK => ?_) AllReadyH.nil
      go_simp
      refine (HCP.out _ BW.out).mono ?_
      rintro e w4 ⟨v4, rfl, hb4, hw4⟩
      obtain ⟨p4, n4, c4, hf4⟩ := hb4.form3
      subst hf4
      have hszd := BW.out.size
      replace HI := hid (HI.out.on hw4)
      replace BW := hid (below_on BW.out hw4)
      have hbf : Buf w.heap.size w4 (.slice p4 n4 c4) x.bs := own_base hb4 hszd
      have HB4 := hid hbf
      clear hb4 hw4 hszd hbf
      go_wp2_with fail
      refine hK.out _ _ (HSF.out _ BW.out) (fun hHeld => ?_)
      clear hK K
      refine wpAnyH_take (i := 12) (oi := ⟨some 23, .build 44 #[(0, .tmp 16), (1, .tmp 22)], _, _, _, none⟩) (v := .agg (cC E (.slice p4 n4 c4))) rfl (by kernel_rfl) (by kernel_rfl) (by kernel_rfl) (fun _ _ _ h => h) (Or.inl ⟨by kernel_rfl, by intro W hW; go_simp; rfl⟩) hHeld ?_
      obtain ⟨v6, w6, hr6, hi6, hb6⟩ := HI.out.push ⟨E, .slice p4 n4 c4, x.bs⟩ HB4.out H8.out HSM.out (by have := HLN.out; omega) BW.out.size 22
      have HRUN := hid hr6
      have HI6 := hid hi6
      have HB6 := hid (below_tr BW.out hb6)
      have HBA := hid (below_on BW.out (below_al w4 (.cells (cC E (.slice p4 n4 c4)) 44)))
      clear hr6 hi6 hb6
      refine wpAnyH_ready (rs := [13]) (by kernel_rfl) (by simp) ?_
      refine AllReadyH.cons (o := ⟨some 24, .buildSlice 22 1 #[(0, .tmp 23)], _, _, _, none⟩) rfl (fun K hK => ?_) AllReadyH.nil
      with_reducible refine step_run_val ?_ (.slice (some ⟨w4.heap.size, 0, none⟩) 1 1) (w4.alloc (.cells (cC E (.slice p4 n4 c4)) 44)) ?_ ?_
      · exact rfl
      · exact exec_bsC rfl (by kernel_rfl)
      refine hK.out _ _ (HSF.out _ HBA.out) (fun hHeld => ?_)
      clear hK K
      refine wpAnyH_ready (rs := [14]) (by kernel_rfl) (by simp) ?_
      refine AllReadyH.cons (o := ⟨some 25, .call { callee := .builtin .append, args := #[.tmp 11, .tmp 24], argTypes := #[22, 22] }, 22, _, _, none⟩) rfl (fun K hK => ?_) AllReadyH.nil
      with_reducible refine step_run_val ?_ v6 w6 ?_ ?_
      · exact rfl
      · exact exec_app9 rfl (by kernel_rfl) (by kernel_rfl) HRUN.out
      refine hK.out _ _ (HSF.out _ HB6.out) (fun hHeld => ?_)
      clear hK K
      refine wpAnyH_take (i := 15) (oi := ⟨some 3, .assign (.tmp 25), _, _, _, none⟩) (v := v6) rfl (by kernel_rfl) (by kernel_rfl) (by kernel_rfl) (fun _ _ _ h => h) (Or.inl ⟨by kernel_rfl, by intro W hW; go_simp⟩) hHeld ?_
      refine wpAnyH_done (by kernel_rfl) ?_ _
      (try simp only [Act.put, List.setIfInBounds_toArray, List.set_cons_zero, List.set_cons_succ])
      clear hHeld
      go_wp2
      go_roundg (n - (kk + 1))
      case measure => omega
      case rel => exact ⟨kk + 1, L ++ [⟨E, .slice p4 n4 c4, x.bs⟩], by omega, by omega, by go_num, HI6, hid (by rw [cps_next HX.out, ← HCE.out, ← HEE.out]; simp [cps, Cv.cp]), hid (by have := HLN.out; simp; omega), HB6⟩
    · have hltz : ¬ (kk : Int) < (n : Int) := by omega
      go_wp2
      go_ret
      exact ⟨_, L, rfl, HI.out, by rw [HCE.out, List.take_of_length_le (by have := HN.out; omega)], BW.out⟩
end Go.Proofs.YtelkijiphhoacaaGreatDoor

/- same: two lists of copies with the same content are told to be the same. -/
namespace Go.Proofs.YtelkijiphhoacaaGreatDoor
open Go Go.RowKit

set_option maxRecDepth 100000 in
set_option maxHeartbeats 4000000 in
theorem same9_any (u v : Value) (l m : List Cv) (w : World) (hl : CL w u l) (hm : CL w v m) (he : cps l = cps m) : Calls Tryz.prog 13 #[u, v] w fun e w' => e = .returned (.bool true) ∧ Below w.heap.size w w' := by
  have HL := hid hl
  have HM := hid hm
  have HE := hid he
  obtain ⟨po, c, rfl, -, hn, -⟩ := hl
  obtain ⟨qo, d, rfl, -⟩ := hm
  have hlen : m.length = l.length := by have := congrArg List.length he; rw [cps_len, cps_len] at this; exact this.symm
  obtain ⟨n, hN⟩ : ∃ n, l.length = n := ⟨_, rfl⟩
  have HN := hid hN
  have HN2 : Hid (m.length = n) := hid (hlen.trans hN)
  rw [hlen, hN] at HM ⊢
  rw [hN] at hn HL
  have hnn : ((n : Int) != (n : Int)) = false := by simp
  clear hN hlen he
  go_enter Tryz.func13, Tryz.ntmps13
  go_wp2
  go_loopg [5] n (fun gg s5 wr => ∃ kk : Nat, kk ≤ n ∧ n - kk ≤ gg ∧ s5 = i64 kk ∧ Hid (Below w.heap.size w wr))
  case atStart => exact ⟨0, Nat.zero_le _, by omega, rfl, hid (Below.refl _ _)⟩
  case round =>
    obtain ⟨kk, hkk, hg, rfl, BW⟩ := hrel
    by_cases hlt : kk < n
    · have hltz : (kk : Int) < (n : Int) := by omega
      obtain ⟨x, hx⟩ : ∃ x, l[kk]? = some x := ⟨_, List.getElem?_eq_getElem (by have := HN.out; omega)⟩
      obtain ⟨y, hy⟩ : ∃ y, m[kk]? = some y := ⟨_, List.getElem?_eq_getElem (by have := HN2.out; omega)⟩
      have hxy : x.cp = y.cp := by have := congrArg (fun q => q[kk]?) HE.out; simp only [cps_get, hx, hy] at this; exact Option.some.inj this
      obtain ⟨b, o, c', e, -⟩ := HL.out.where hx
      rw [HN.out] at e
      cases e
      obtain ⟨b2, o2, d', e, -⟩ := HM.out.where hy
      rw [HN2.out] at e
      cases e
      obtain ⟨-, -, hok⟩ := HL.out.at BW.out hx
      obtain ⟨-, -, hok2⟩ := HM.out.at BW.out hy
      obtain ⟨p1, c1, hxv, -⟩ := hok.sl
      obtain ⟨p2, c2, hyv, -⟩ := hok2.sl
      obtain ⟨m1, hm1⟩ : ∃ m, x.bs.length = m := ⟨_, rfl⟩
      obtain ⟨m2, hm2⟩ : ∃ m, y.bs.length = m := ⟨_, rfl⟩
      rw [hm1] at hxv
      rw [hm2] at hyv
      obtain ⟨E, hEE⟩ : ∃ E, x.err = E := ⟨_, rfl⟩
      have hE2 : y.err = E := by rw [← hEE]; exact (congrArg Cp.err hxy).symm
      have hbs : x.bs = y.bs := congrArg Cp.b hxy
      have HSF : Hid (∀ W, Below w.heap.size w W → (fun W => W.cell? ⟨b, o + kk * 2, none⟩ = some (i64 E) ∧ W.cell? ⟨b, o + kk * 2 + 1, none⟩ = some (.slice p1 m1 c1) ∧ W.cell? ⟨b2, o2 + kk * 2, none⟩ = some (i64 E) ∧ W.cell? ⟨b2, o2 + kk * 2 + 1, none⟩ = some (.slice p2 m2 c2)) W) := hid (fun W hW => by
        obtain ⟨h1, h2, -⟩ := HL.out.at hW hx
        obtain ⟨h3, h4, -⟩ := HM.out.at hW hy
        rw [hxv] at h2
        rw [hyv] at h4
        rw [hEE] at h1
        rw [hE2] at h3
        exact ⟨h1, h2, h3, h4⟩)
      have HSB : Hid (∀ W, Below w.heap.size w W → Calls Tryz.prog 24 #[.slice p1 m1 c1, .slice p2 m2 c2] W fun e w' => e = .returned (.bool true) ∧ w' = W) := hid (fun W hW => by
        have h1 := (HL.out.at hW hx).2.2
        have h2 := (HM.out.at hW hy).2.2
        have := sameB_any h1.slv h2.slv h1.byte h2.byte
        rw [decide_eq_true hbs, hxv, hyv] at this
        exact this)
      have hzE : (E != E) = false := by simp
      clear hok hok2 hxv hyv hm1 hm2 hx hy hxy hEE hE2 hbs
      go_wp2_with fail
      have HD := hid (below_drew wr)
      refine wp_region_held_drew (S := (fun W => W.cell? ⟨b, o + kk * 2, none⟩ = some (i64 E) ∧ W.cell? ⟨b, o + kk * 2 + 1, none⟩ = some (.slice p1 m1 c1) ∧ W.cell? ⟨b2, o2 + kk * 2, none⟩ = some (i64 E) ∧ W.cell? ⟨b2, o2 + kk * 2 + 1, none⟩ = some (.slice p2 m2 c2))) (by kernel_rfl) (HSF.out _ (below_on BW.out HD.out)) (fun hHeld => ?_)
      replace BW := hid (below_on BW.out HD.out)
      generalize wr.drew = wd at BW hHeld ⊢
      refine wpAnyH_take (i := 0) (oi := ⟨some 17, .move (.tmp 0), _, _, _, none⟩) (v := .slice (some ⟨b, o, none⟩) n c) rfl (by kernel_rfl) (by kernel_rfl) (by kernel_rfl) (fun _ _ _ h => h) (Or.inl ⟨by kernel_rfl, by intro W hW; obtain ⟨q0, q1, q2, q3⟩ := hW; go_simp⟩) hHeld ?_
      refine wpAnyH_take (i := 1) (oi := ⟨some 18, .move (.tmp 5), _, _, _, none⟩) (v := i64 kk) rfl (by kernel_rfl) (by kernel_rfl) (by kernel_rfl) (fun _ _ _ h => h) (Or.inl ⟨by kernel_rfl, by intro W hW; obtain ⟨q0, q1, q2, q3⟩ := hW; go_simp⟩) hHeld ?_
      refine wpAnyH_take (i := 2) (oi := ⟨some 19, .indexAddr 22 (.tmp 17) (.tmp 18), _, _, _, none⟩) (v := .pointer (some ⟨b, o + kk * 2, none⟩)) rfl (by kernel_rfl) (by kernel_rfl) (by kernel_rfl) (fun _ _ _ h => h) (Or.inl ⟨by kernel_rfl, by intro W hW; obtain ⟨q0, q1, q2, q3⟩ := hW; go_simp⟩) hHeld ?_
      refine wpAnyH_take (i := 3) (oi := ⟨some 20, .fieldAddr 44 (.tmp 19) 0, _, _, _, none⟩) (v := .pointer (some ⟨b, o + kk * 2, none⟩)) rfl (by kernel_rfl) (by kernel_rfl) (by kernel_rfl) (fun _ _ _ h => h) (Or.inl ⟨by kernel_rfl, by intro W hW; obtain ⟨q0, q1, q2, q3⟩ := hW; go_simp⟩) hHeld ?_
      refine wpAnyH_take (i := 4) (oi := ⟨some 21, .load 32 (.tmp 20), _, _, _, none⟩) (v := i64 E) rfl (by kernel_rfl) (by kernel_rfl) (by kernel_rfl) (fun _ _ _ h => h) (Or.inl ⟨by kernel_rfl, by intro W hW; obtain ⟨q0, q1, q2, q3⟩ := hW; go_simp⟩) hHeld ?_
      refine wpAnyH_take (i := 5) (oi := ⟨some 22, .move (.tmp 1), _, _, _, none⟩) (v := .slice (some ⟨b2, o2, none⟩) n d) rfl (by kernel_rfl) (by kernel_rfl) (by kernel_rfl) (fun _ _ _ h => h) (Or.inl ⟨by kernel_rfl, by intro W hW; obtain ⟨q0, q1, q2, q3⟩ := hW; go_simp⟩) hHeld ?_
      refine wpAnyH_take (i := 6) (oi := ⟨some 23, .move (.tmp 5), _, _, _, none⟩) (v := i64 kk) rfl (by kernel_rfl) (by kernel_rfl) (by kernel_rfl) (fun _ _ _ h => h) (Or.inl ⟨by kernel_rfl, by intro W hW; obtain ⟨q0, q1, q2, q3⟩ := hW; go_simp⟩) hHeld ?_
      refine wpAnyH_take (i := 7) (oi := ⟨some 24, .indexAddr 22 (.tmp 22) (.tmp 23), _, _, _, none⟩) (v := .pointer (some ⟨b2, o2 + kk * 2, none⟩)) rfl (by kernel_rfl) (by kernel_rfl) (by kernel_rfl) (fun _ _ _ h => h) (Or.inl ⟨by kernel_rfl, by intro W hW; obtain ⟨q0, q1, q2, q3⟩ := hW; go_simp⟩) hHeld ?_
      refine wpAnyH_take (i := 8) (oi := ⟨some 25, .fieldAddr 44 (.tmp 24) 0, _, _, _, none⟩) (v := .pointer (some ⟨b2, o2 + kk * 2, none⟩)) rfl (by kernel_rfl) (by kernel_rfl) (by kernel_rfl) (fun _ _ _ h => h) (Or.inl ⟨by kernel_rfl, by intro W hW; obtain ⟨q0, q1, q2, q3⟩ := hW; go_simp⟩) hHeld ?_
      refine wpAnyH_take (i := 9) (oi := ⟨some 26, .load 32 (.tmp 25), _, _, _, none⟩) (v := i64 E) rfl (by kernel_rfl) (by kernel_rfl) (by kernel_rfl) (fun _ _ _ h => h) (Or.inl ⟨by kernel_rfl, by intro W hW; obtain ⟨q0, q1, q2, q3⟩ := hW; go_simp⟩) hHeld ?_
      refine wpAnyH_take (i := 10) (oi := ⟨some 27, .binOp .neq 32 (.tmp 21) (.tmp 26) 32, _, _, _, none⟩) (v := .bool false) rfl (by kernel_rfl) (by kernel_rfl) (by kernel_rfl) (fun _ _ _ h => h) (Or.inl ⟨by kernel_rfl, by intro W hW; obtain ⟨q0, q1, q2, q3⟩ := hW; go_simp⟩) hHeld ?_
      refine wpAnyH_take (i := 11) (oi := ⟨some 28, .move (.tmp 27), _, _, _, none⟩) (v := .bool false) rfl (by kernel_rfl) (by kernel_rfl) (by kernel_rfl) (fun _ _ _ h => h) (Or.inl ⟨by kernel_rfl, by intro W hW; obtain ⟨q0, q1, q2, q3⟩ := hW; go_simp⟩) hHeld ?_
      refine wpAnyH_take (i := 12) (oi := ⟨some 29, .move (.tmp 0), _, _, _, some (11, false)⟩) (v := .slice (some ⟨b, o, none⟩) n c) rfl (by kernel_rfl) (by kernel_rfl) (by kernel_rfl) (fun _ _ _ h => h) (Or.inl ⟨by kernel_rfl, by intro W hW; obtain ⟨q0, q1, q2, q3⟩ := hW; go_simp⟩) hHeld ?_
      refine wpAnyH_take (i := 13) (oi := ⟨some 30, .move (.tmp 5), _, _, _, some (11, false)⟩) (v := i64 kk) rfl (by kernel_rfl) (by kernel_rfl) (by kernel_rfl) (fun _ _ _ h => h) (Or.inl ⟨by kernel_rfl, by intro W hW; obtain ⟨q0, q1, q2, q3⟩ := hW; go_simp⟩) hHeld ?_
      refine wpAnyH_take (i := 14) (oi := ⟨some 31, .indexAddr 22 (.tmp 29) (.tmp 30), _, _, _, some (11, false)⟩) (v := .pointer (some ⟨b, o + kk * 2, none⟩)) rfl (by kernel_rfl) (by kernel_rfl) (by kernel_rfl) (fun _ _ _ h => h) (Or.inl ⟨by kernel_rfl, by intro W hW; obtain ⟨q0, q1, q2, q3⟩ := hW; go_simp⟩) hHeld ?_
      refine wpAnyH_take (i := 15) (oi := ⟨some 32, .fieldAddr 44 (.tmp 31) 1, _, _, _, some (11, false)⟩) (v := .pointer (some ⟨b, o + kk * 2 + 1, none⟩)) rfl (by kernel_rfl) (by kernel_rfl) (by kernel_rfl) (fun _ _ _ h => h) (Or.inl ⟨by kernel_rfl, by intro W hW; obtain ⟨q0, q1, q2, q3⟩ := hW; go_simp⟩) hHeld ?_
      refine wpAnyH_take (i := 16) (oi := ⟨some 33, .load 28 (.tmp 32), _, _, _, some (11, false)⟩) (v := .slice p1 m1 c1) rfl (by kernel_rfl) (by kernel_rfl) (by kernel_rfl) (fun _ _ _ h => h) (Or.inl ⟨by kernel_rfl, by intro W hW; obtain ⟨q0, q1, q2, q3⟩ := hW; go_simp⟩) hHeld ?_
      refine wpAnyH_take (i := 17) (oi := ⟨some 34, .move (.tmp 1), _, _, _, some (11, false)⟩) (v := .slice (some ⟨b2, o2, none⟩) n d) rfl (by kernel_rfl) (by kernel_rfl) (by kernel_rfl) (fun _ _ _ h => h) (Or.inl ⟨by kernel_rfl, by intro W hW; obtain ⟨q0, q1, q2, q3⟩ := hW; go_simp⟩) hHeld ?_
      refine wpAnyH_take (i := 18) (oi := ⟨some 35, .move (.tmp 5), _, _, _, some (11, false)⟩) (v := i64 kk) rfl (by kernel_rfl) (by kernel_rfl) (by kernel_rfl) (fun _ _ _ h => h) (Or.inl ⟨by kernel_rfl, by intro W hW; obtain ⟨q0, q1, q2, q3⟩ := hW; go_simp⟩) hHeld ?_
      refine wpAnyH_take (i := 19) (oi := ⟨some 36, .indexAddr 22 (.tmp 34) (.tmp 35), _, _, _, some (11, false)⟩) (v := .pointer (some ⟨b2, o2 + kk * 2, none⟩)) rfl (by kernel_rfl) (by kernel_rfl) (by kernel_rfl) (fun _ _ _ h => h) (Or.inl ⟨by kernel_rfl, by intro W hW; obtain ⟨q0, q1, q2, q3⟩ := hW; go_simp⟩) hHeld ?_
      refine wpAnyH_take (i := 20) (oi := ⟨some 37, .fieldAddr 44 (.tmp 36) 1, _, _, _, some (11, false)⟩) (v := .pointer (some ⟨b2, o2 + kk * 2 + 1, none⟩)) rfl (by kernel_rfl) (by kernel_rfl) (by kernel_rfl) (fun _ _ _ h => h) (Or.inl ⟨by kernel_rfl, by intro W hW; obtain ⟨q0, q1, q2, q3⟩ := hW; go_simp⟩) hHeld ?_
      refine wpAnyH_take (i := 21) (oi := ⟨some 38, .load 28 (.tmp 37), _, _, _, some (11, false)⟩) (v := .slice p2 m2 c2) rfl (by kernel_rfl) (by kernel_rfl) (by kernel_rfl) (fun _ _ _ h => h) (Or.inl ⟨by kernel_rfl, by intro W hW; obtain ⟨q0, q1, q2, q3⟩ := hW; go_simp⟩) hHeld ?_
      refine wpAnyH_ready (rs := [22]) (by kernel_rfl) (by simp) ?_
      refine AllReadyH.cons rfl (fun K hK => ?_) AllReadyH.nil
      go_simp
      refine (HSB.out _ BW.out).mono ?_
      rintro e w4 ⟨rfl, hw⟩
      have hw4 := hw.symm
      subst hw4
      go_wp2_with fail
      refine hK.out _ _ (HSF.out _ BW.out) (fun hHeld => ?_)
      clear hK K
      refine wpAnyH_take (i := 23) (oi := ⟨some 40, .unOp .not 4 (.tmp 39), _, _, _, some (11, false)⟩) (v := .bool false) rfl (by kernel_rfl) (by kernel_rfl) (by kernel_rfl) (fun _ _ _ h => h) (Or.inl ⟨by kernel_rfl, by intro W hW; obtain ⟨q0, q1, q2, q3⟩ := hW; go_simp⟩) hHeld ?_
      refine wpAnyH_take (i := 24) (oi := ⟨some 41, .pick (.tmp 28) (.const (.bool true)) (.tmp 40), _, _, _, none⟩) (v := .bool false) rfl (by kernel_rfl) (by kernel_rfl) (by kernel_rfl) (fun _ _ _ h => h) (Or.inl ⟨by kernel_rfl, by intro W hW; obtain ⟨q0, q1, q2, q3⟩ := hW; go_simp⟩) hHeld ?_
      refine wpAnyH_done (by kernel_rfl) ?_ _
      (try simp only [Act.put, List.setIfInBounds_toArray, List.set_cons_zero, List.set_cons_succ])
      clear hHeld
      go_wp2
      go_roundg (n - (kk + 1))
      case measure => omega
      case rel => exact ⟨kk + 1, by omega, by omega, by go_num, BW⟩
    · have hltz : ¬ (kk : Int) < (n : Int) := by omega
      go_wp2
      go_ret
      exact ⟨rfl, BW.out⟩
end Go.Proofs.YtelkijiphhoacaaGreatDoor

/- TallyTrue: the walk. -/
namespace Go.Proofs.YtelkijiphhoacaaGreatDoor
open Go Go.RowKit

theorem IsCp.keep {w w' : World} {x : Cv} (h : IsCp w x) (hk : ∀ a, w.cell? a ≠ none → w'.cell? a = w.cell? a) : IsCp w' x := by
  obtain ⟨⟨po, c, h1, h2, h3⟩, h4⟩ := h
  exact ⟨⟨po, c, h1, h2.keep hk, h3⟩, h4⟩
theorem IsC.below {w w' : World} {v : Value} {l : List Cv} (h : IsC w v l) (hb : Below w.heap.size w w') : IsC w' v l := by
  have hk : ∀ a, w.cell? a ≠ none → w'.cell? a = w.cell? a := fun a ha => World.cell?_of_block (hb.block a.block (cell_lt' ha))
  obtain ⟨po, c, h1, h2, h3, h4, h5, h6⟩ := h
  refine ⟨po, c, h1, h2, h3, h4, ?_, fun x hx => (h6 x hx).keep hk⟩
  rcases h5 with h5 | ⟨b, o, e, h5⟩
  · exact Or.inl h5
  · exact Or.inr ⟨b, o, e, h5.keep hk⟩
/-- What is true of what counts. -/
theorem ch_facts (l : List Cp) (h8 : ∀ c ∈ l, ∀ z ∈ c.b, z < 256) : ((chC dig l).found = true → votC l (chC dig l).b = (chC dig l).vot ∧ 1 ≤ (chC dig l).vot) ∧ (∀ c ∈ l, ∀ j, hasJ dig c = some j → (chC dig l).found = true ∧ j.seq ≤ (chC dig l).j.seq) ∧ (chC dig l).ans = ansN l ∧ (∀ z ∈ (chC dig l).b, z < 256) ∧ (chC dig l).vot ≤ l.length := by
  cases h : elC dig l with
  | none =>
    rw [chC_none h]
    exact ⟨(fun e => by cases e), (fun c hc j hj => by rw [el_none h c hc] at hj; cases hj), rfl, by simp, Nat.zero_le _⟩
  | some q =>
    obtain ⟨j, b, n⟩ := q
    rw [chC_some h]
    obtain ⟨hn, c, hc, hj, hb⟩ := el_mem h
    refine ⟨fun _ => ⟨hn.symm, ?_⟩, fun c' hc' j' hj' => ⟨rfl, ?_⟩, rfl, ?_, ?_⟩
    · show 1 ≤ n
      rw [hn, ← hb]; exact vot_pos hc (has_err hj).1
    · obtain ⟨j2, b2, n2, e, hm⟩ := el_max hc' hj'
      rw [h] at e
      cases e
      unfold leC at hm
      simp only at hm
      show j'.seq ≤ j.seq
      omega
    · show ∀ z ∈ b, z < 256
      rw [← hb]; exact h8 c hc
    · show n ≤ l.length
      rw [hn]; exact vot_le l b

end Go.Proofs.YtelkijiphhoacaaGreatDoor
