/- Texts laid into one, cut to what is needed: the remark ahead of each part says what is proved there. -/
import Derived.Test.YtelkijiphhoacaaGreatDoorMax
import Derived.Test.YtelkijiphhoacaaGreatDoorMbf
/- The document's Elect. -/
namespace Go.Proofs.YtelkijiphhoacaaGreatDoor
open Go Go.RowKit

theorem wpList_storeM (ty : TypeId) {t : TypeId} {ops : Array Oper} {rest : List Oper} {o : Oper} {a : Act} {w : World} {Q : Exit → Act → World → Prop} (hg : o.guard = none) (hdst : o.dst = none) (x y : Operand) (ho : o.op = .store ty x y) (g off : Nat) (hx : a.eval x = .pointer (some ⟨g, off, none⟩)) (v : Value) (hy : a.eval y = v) (vs : List Value) (hv : v.cells = vs.toArray) (hi : (Tryz.prog.info? ty).map (·.size) = some vs.length) (h1 : vs.toArray.all (·.oneCell') = true) {cs : Array Value} (hb : CAt w g cs t) (hs : off + vs.length ≤ cs.size) (D : Array Value) (hD : (setAll cs.toList off vs).toArray = D)
    (h : ∀ w1, CAt w1 g D t → Only (fun b => b = g) w w1 → wpList Tryz.prog ops Q rest a w1) : wpList Tryz.prog ops Q (o :: rest) a w := by
  refine wpList_plain hg fun _ hK => ?_
  have e1 := run_storeVal w g off ty v vs.toArray hv (fun j hj => ⟨by rw [hb.cell, Array.getElem?_eq_getElem (by simp at hj; omega)]; rfl, hb.free _⟩) (by simpa using hi) h1
  unfold Oper.wp execOp
  simp only [ho, hx, hy, Sem.run_bind, e1, Result.andThen_ok, Sem.run_pure]
  refine hK (a.put o.dst undef) _ ?_
  rw [hdst]
  refine h _ ?_ (only_setCells _ _ _ _ rfl)
  rw [← hD]
  exact CAt.setCells vs off cs w hb
theorem own_other {B e sz n : Nat} {w w' : World} {v : Value} {xs : List Value} {g : Nat} {C : Array Value} {t : TypeId} (ht : t ≠ e) (h : w.ownsRow B e sz v n xs) (hc : CAt w g C t) (ho : Only (fun b => b = g) w w') : w'.ownsRow B e sz v n xs := by
  refine ownsRow_keep h fun b hb => ?_
  rcases h.2 with ⟨e2, _⟩ | ⟨g', cap, cur, e2, _, hg', _⟩
  · rw [e2] at hb; cases hb
  · rw [e2] at hb
    cases hb
    have h2 : CAt w g' cur e := hg'
    exact ho.block g' h2.lt (fun k => hc.apart h2 ht k.symm)
/-- What is carried through the document's Elect. -/
structure Rq9 (w : World) (g4 g6 : Nat) (A : Int) (f : Bool) (s : Int) (v bv hv : Value) (n : Int) (m : List Rp) (b : List Nat) (hs : List Bool) (W : World) : Prop where
  below : Below w.heap.size w W
  c4 : CAt W g4 (eC false 0 nilS nilS nilS 0 0) 31
  c6 : CAt W g6 (eC f s v bv hv A n) 31
  rs : Rs w.heap.size W v m
  bf : Buf w.heap.size W bv b
  hb : BBuf w.heap.size W hv hs
  l4 : w.heap.size ≤ g4
  l6 : w.heap.size ≤ g6
  ne : g4 ≠ g6
theorem Rq9.on {w W W' : World} {g4 g6 : Nat} {A : Int} {f : Bool} {s : Int} {v bv hv : Value} {n : Int} {m : List Rp} {b : List Nat} {hs : List Bool} (h : Rq9 w g4 g6 A f s v bv hv n m b hs W) (hW : Below W.heap.size W W') : Rq9 w g4 g6 A f s v bv hv n m b hs W' := ⟨below_on h.below hW, h.c4.below hW, h.c6.below hW, h.rs.below hW, h.bf.below hW, h.hb.below hW, h.l4, h.l6, h.ne⟩
theorem Rq9.put {w W W' : World} {g4 g6 : Nat} {A A' : Int} {f f' : Bool} {s s' : Int} {v bv hv v' bv' hv' : Value} {n n' : Int} {m m' : List Rp} {b b' : List Nat} {hs hs' : List Bool} (h : Rq9 w g4 g6 A f s v bv hv n m b hs W) (hc : CAt W' g6 (eC f' s' v' bv' hv' A' n') 31) (ho : Only (fun b => b = g6) W W') (hr : Rs w.heap.size W v' m') (hbf : Buf w.heap.size W bv' b') (hhb : BBuf w.heap.size W hv' hs') : Rq9 w g4 g6 A' f' s' v' bv' hv' n' m' b' hs' W' :=
  ⟨below_tr h.below (ho.below h.below.size (fun i e => by have := h.l6; omega)), h.c4.keep (ho.block g4 h.c4.lt h.ne), hc, hr.otherT (by decide) (by decide) h.c6 ho, own_other (by decide) hbf h.c6 ho, own_other (by decide) hhb h.c6 ho, h.l4, h.l6, h.ne⟩
theorem own_blk {B e sz n : Nat} {w : World} {v : Value} {xs : List Value} (h : w.ownsRow B e sz v n xs) {b : Nat} (hb : v.ownBlock = some b) : ∃ cur, CAt w b cur e := by
  rcases h.2 with ⟨e2, _⟩ | ⟨g', cap, cur, e2, _, hg', _⟩
  · rw [e2] at hb; cases hb
  · rw [e2] at hb
    cases hb
    exact ⟨cur, hg'⟩
theorem CAt.otherO {B e sz n : Nat} {w w' : World} {v : Value} {xs : List Value} {g : Nat} {C : Array Value} {t : TypeId} (hc : CAt w g C t) (h : w.ownsRow B e sz v n xs) (ht : t ≠ e) (hO : Only (fun b => v.ownBlock = some b) w w') : CAt w' g C t :=
  hc.keep (hO.block g hc.lt (fun k => by obtain ⟨cur, hk⟩ := own_blk h k; exact hc.apart hk ht rfl))
theorem own_otherO {B1 e1 z1 n1 B2 e2 z2 n2 : Nat} {w w' : World} {u v : Value} {xs ys : List Value} (h1 : w.ownsRow B1 e1 z1 u n1 xs) (h2 : w.ownsRow B2 e2 z2 v n2 ys) (ht : e1 ≠ e2) (hO : Only (fun b => v.ownBlock = some b) w w') : w'.ownsRow B1 e1 z1 u n1 xs :=
  ownsRow_keep h1 fun b hb => hO.block b (own_ge h1 b hb).2 (fun k => by
    obtain ⟨c1, k1⟩ := own_blk h1 hb
    obtain ⟨c2, k2⟩ := own_blk h2 k
    exact k1.apart k2 ht rfl)
theorem Rs.otherO {B B2 e2 z2 n2 : Nat} {w w' : World} {u v : Value} {l : List Rp} {ys : List Value} (h : Rs B w u l) (h2 : w.ownsRow B2 e2 z2 v n2 ys) (h3 : e2 ≠ 103) (h4 : e2 ≠ 74) (hO : Only (fun b => v.ownBlock = some b) w w') : Rs B w' u l := by
  cases hb : v.ownBlock with
  | none => exact h.only (S := fun _ => False) (hO.mono fun i e => by rw [hb] at e; cases e) (fun i k => k.elim)
  | some g =>
    obtain ⟨cur, hk⟩ := own_blk h2 hb
    exact h.otherT h3 h4 hk (hO.mono fun i e => by rw [hb] at e; cases e; rfl)
theorem exec_app {a : Act} {o : Oper} {s x : Operand} {t t2 : TypeId} {v xv v' : Value} {W W' : World} (ho : o.op = .call { callee := .builtin .append, args := #[s, x], argTypes := #[t, t2] }) (hs : a.eval s = v) (hx : a.eval x = xv) (hr : (Builtin.append_ #[t, t2] o.type #[v, xv]).run Tryz.prog W = .ok v' W') : (execOp a.eval o).run Tryz.prog W = .ok (.value v') W' := by
  unfold execOp
  simp only [ho, resolve, invoke, builtin, Sem.run_bind, Sem.run_pure, Result.andThen_ok, List.map_toArray, List.map_cons, List.map_nil, hs, hx, hr]
theorem exec_bs1 {a : Act} {o : Oper} {x : Operand} {y : Bool} {W : World} (ho : o.op = .buildSlice 29 1 #[(0, x)]) (hx : a.eval x = .bool y) : (execOp a.eval o).run Tryz.prog W = .ok (.value (.slice (some ⟨W.heap.size, 0, none⟩) 1 1)) (W.alloc (.cells #[.bool y] 4)) := by
  have h : (Instr.buildSlice 29 1 #[(0, .bool y)]).run Tryz.prog W = .ok (.slice (some ⟨W.heap.size, 0, none⟩) 1 1) (W.alloc (.cells #[.bool y] 4)) := by kernel_rfl
  unfold execOp
  simp only [ho, List.map_toArray, List.map_cons, List.map_nil, hx, Sem.run_bind, h, Result.andThen_ok, Sem.run_pure]
theorem Rq9.fin {w W W1 W' : World} {g4 g6 : Nat} {A : Int} {f : Bool} {s : Int} {v bv hv hv' : Value} {n : Int} {m : List Rp} {b : List Nat} {hs hs' : List Bool} (h : Rq9 w g4 g6 A f s v bv hv n m b hs W) (hO : Only (fun b => hv.ownBlock = some b) W W1) (hp : BBuf w.heap.size W1 hv' hs') (hc : CAt W' g6 (eC f s v bv hv' A n) 31) (ho : Only (fun b => b = g6) W1 W') : Rq9 w g4 g6 A f s v bv hv' n m b hs' W' := by
  have b1 : Below w.heap.size w W1 := below_tr h.below (hO.below h.below.size (fun i e => (own_ge h.hb i e).1))
  have c6 : CAt W1 g6 _ 31 := h.c6.otherO h.hb (by decide) hO
  have c4 := h.c4.otherO h.hb (by decide) hO
  have rs := h.rs.otherO h.hb (by decide) (by decide) hO
  have bf : Buf w.heap.size W1 bv b := own_otherO h.bf h.hb (by decide) hO
  exact ⟨below_tr b1 (ho.below b1.size (fun i e => by have := h.l6; omega)), c4.keep (ho.block g4 c4.lt h.ne), hc, rs.otherT (by decide) (by decide) c6 ho, own_other (by decide) bf c6 ho, own_other (by decide) hp c6 ho, h.l4, h.l6, h.ne⟩
theorem Rq9.c6O {w W W1 : World} {g4 g6 : Nat} {A : Int} {f : Bool} {s : Int} {v bv hv : Value} {n : Int} {m : List Rp} {b : List Nat} {hs : List Bool} (h : Rq9 w g4 g6 A f s v bv hv n m b hs W) (hO : Only (fun b => hv.ownBlock = some b) W W1) : CAt W1 g6 (eC f s v bv hv A n) 31 ∧ Below w.heap.size w W1 ∧ Buf w.heap.size W1 bv b := ⟨h.c6.otherO h.hb (by decide) hO, below_tr h.below (hO.below h.below.size (fun i e => (own_ge h.hb i e).1)), own_otherO h.bf h.hb (by decide) hO⟩
/-- The one that counts so far, as it is kept. -/
def besT (o : Option (Jr × List Nat × Nat)) : Bool × Jr × List Nat × Nat := match o with | none => (false, ⟨0, []⟩, [], 0) | some (j, b, n) => (true, j, b, n)
theorem bet_none {D : List Nat → List Nat} {l : List Cp} {o : Option (Jr × List Nat × Nat)} {c : Cp} (h : hasJ D c = none) : betC D l o c = o := by unfold betC; rw [h]
theorem bet_up {D : List Nat → List Nat} {l : List Cp} {o : Option (Jr × List Nat × Nat)} {c : Cp} {j : Jr} (h : hasJ D c = some j) {f : Bool} {j0 : Jr} {b0 : List Nat} {n0 : Nat} (hb : besT o = (f, j0, b0, n0)) (hc : f = false ∨ j0.seq < j.seq ∨ j.seq = j0.seq ∧ n0 < votC l c.b) : betC D l o c = some (j, c.b, votC l c.b) := by
  unfold betC
  rw [h]
  cases o with
  | none => rfl
  | some q =>
    obtain ⟨j1, b1, n1⟩ := q
    cases hb
    simp only
    rw [if_pos (hc.resolve_left (by simp))]
theorem bet_no {D : List Nat → List Nat} {l : List Cp} {o : Option (Jr × List Nat × Nat)} {c : Cp} {j : Jr} (h : hasJ D c = some j) {j0 : Jr} {b0 : List Nat} {n0 : Nat} (hb : besT o = (true, j0, b0, n0)) (hc : ¬ (j0.seq < j.seq ∨ j.seq = j0.seq ∧ n0 < votC l c.b)) : betC D l o c = o := by
  unfold betC
  rw [h]
  cases o with
  | none => cases hb
  | some q =>
    obtain ⟨j1, b1, n1⟩ := q
    cases hb
    simp only
    rw [if_neg hc]
def besC (l : List Cp) (m : List Cp) : Option (Jr × List Nat × Nat) := m.foldl (betC dig l) none
theorem bes_snoc (l m : List Cp) (c : Cp) : besC l (m ++ [c]) = betC dig l (besC l m) c := by unfold besC; rw [List.foldl_append]; rfl
theorem chC_bes (l : List Cp) {f : Bool} {j : Jr} {b : List Nat} {n : Nat} (h : besT (besC l l) = (f, j, b, n)) : chC dig l = ⟨f, j, b, l.map (fun c => f && hasC b c), ansN l, n⟩ := by
  have e : elC dig l = besC l l := rfl
  cases hb : besC l l with
  | none => rw [hb] at h; cases h; rw [chC_none (e.trans hb)]; simp
  | some q =>
    obtain ⟨j1, b1, n1⟩ := q
    rw [hb] at h
    cases h
    rw [chC_some (e.trans hb)]
    simp
set_option maxRecDepth 100000 in
set_option maxHeartbeats 2000000 in
theorem relect_arg (v : Value) (l : List Cv) (k : Int) (w : World) (hl : CL w v l) (h : 16 < (cps l).length ∨ k < 1 ∨ ((cps l).length : Int) < k) : Calls Tryz.prog 7 #[v, i64 k] w fun e w' => e = .returned (.tuple #[.agg (eC false 0 nilS nilS nilS 0 0), i64 2]) ∧ Below w.heap.size w w' := by
  obtain ⟨po, c, rfl, hc1, hn, -⟩ := hl
  obtain ⟨n, hN⟩ : ∃ n, l.length = n := ⟨_, rfl⟩
  rw [cps_len, hN] at h
  rw [hN] at hn ⊢
  clear hN hc1
  have T1 : Hid True := hid trivial
  by_cases h16 : (16 : Int) < (n : Int)
  · clear h
    go_enter Tryz.func7, Tryz.ntmps7
    go_wp2_with (first
      | (clear T1; (with_reducible refine wpList_allocX 31 _ zeroCh rfl rfl ?_); intro w1 g4 hz1 hb1 hg1; have HZ1 := hid hz1; have HB1 := hid hb1; have HG1 := hid (show w.heap.size ≤ g4 by omega); clear hz1 hb1 hg1)
      | ((with_reducible refine wpList_build_want 31 _ rfl ?_ (eC false 0 nilS nilS nilS 0 0) ?_ ?_); exact rfl; exact builtCh0)
      | ((with_reducible refine wpList_storeX 31 7 sizeCh rfl rfl _ _ rfl g4 ?_ (D := eC false 0 nilS nilS nilS 0 0) ?_ ?_ ?_ ?_ HZ1.out ?_); exact rfl; exact rfl; exact rfl; exact rfl; exact eC_one _ _ rfl rfl rfl _ _; intro w2 h2 o2; have HC2 := hid h2; have HB2 := hid (below_tr HB1.out (o2.below HB1.out.size (fun i e => by have := HG1.out; omega))); clear h2 o2))
    exact ret_rowE rfl g4 rfl rfl rfl HC2.out ⟨rfl, HB2.out⟩
  · by_cases h1 : k < 1
    · clear h
      go_enter Tryz.func7, Tryz.ntmps7
      go_wp2_with (first
        | (clear T1; (with_reducible refine wpList_allocX 31 _ zeroCh rfl rfl ?_); intro w1 g4 hz1 hb1 hg1; have HZ1 := hid hz1; have HB1 := hid hb1; have HG1 := hid (show w.heap.size ≤ g4 by omega); clear hz1 hb1 hg1)
        | ((with_reducible refine wpList_build_want 31 _ rfl ?_ (eC false 0 nilS nilS nilS 0 0) ?_ ?_); exact rfl; exact builtCh0)
        | ((with_reducible refine wpList_storeX 31 7 sizeCh rfl rfl _ _ rfl g4 ?_ (D := eC false 0 nilS nilS nilS 0 0) ?_ ?_ ?_ ?_ HZ1.out ?_); exact rfl; exact rfl; exact rfl; exact rfl; exact eC_one _ _ rfl rfl rfl _ _; intro w2 h2 o2; have HC2 := hid h2; have HB2 := hid (below_tr HB1.out (o2.below HB1.out.size (fun i e => by have := HG1.out; omega))); clear h2 o2))
      exact ret_rowE rfl g4 rfl rfl rfl HC2.out ⟨rfl, HB2.out⟩
    · have h2 : (n : Int) < k := by omega
      clear h
      go_enter Tryz.func7, Tryz.ntmps7
      go_wp2_with (first
        | (clear T1; (with_reducible refine wpList_allocX 31 _ zeroCh rfl rfl ?_); intro w1 g4 hz1 hb1 hg1; have HZ1 := hid hz1; have HB1 := hid hb1; have HG1 := hid (show w.heap.size ≤ g4 by omega); clear hz1 hb1 hg1)
        | ((with_reducible refine wpList_build_want 31 _ rfl ?_ (eC false 0 nilS nilS nilS 0 0) ?_ ?_); exact rfl; exact builtCh0)
        | ((with_reducible refine wpList_storeX 31 7 sizeCh rfl rfl _ _ rfl g4 ?_ (D := eC false 0 nilS nilS nilS 0 0) ?_ ?_ ?_ ?_ HZ1.out ?_); exact rfl; exact rfl; exact rfl; exact rfl; exact eC_one _ _ rfl rfl rfl _ _; intro w2 h2 o2; have HC2 := hid h2; have HB2 := hid (below_tr HB1.out (o2.below HB1.out.size (fun i e => by have := HG1.out; omega))); clear h2 o2))
      exact ret_rowE rfl g4 rfl rfl rfl HC2.out ⟨rfl, HB2.out⟩
set_option maxRecDepth 100000 in
set_option maxHeartbeats 16000000 in
theorem relect_main (v : Value) (l : List Cv) (k : Int) (w : World) (hl : CL w v l) (h : ¬ (16 < (cps l).length ∨ k < 1 ∨ ((cps l).length : Int) < k)) : Calls Tryz.prog 7 #[v, i64 k] w (ElS (fun _ _ _ => True) w (if (ansN (cps l) : Int) < k then (10, chZ) else (0, chC dig (cps l)))) := by
  obtain ⟨RR, hRR⟩ : ∃ RR, (if (ansN (cps l) : Int) < k then (10, chZ) else (0, chC dig (cps l))) = RR := ⟨_, rfl⟩
  rw [hRR]
  have HRR := hid hRR
  clear hRR
  have HL := hid hl
  obtain ⟨po, c, rfl, hc1, hn, -⟩ := hl
  obtain ⟨n, hN⟩ : ∃ n, l.length = n := ⟨_, rfl⟩
  have HN := hid hN
  rw [cps_len, hN] at h
  rw [hN] at hn HL ⊢
  clear hN hc1
  have h16 : ¬ (16 : Int) < (n : Int) := fun e => h (Or.inl (by omega))
  have h1 : ¬ k < 1 := fun e => h (Or.inr (Or.inl e))
  have h2 : ¬ (n : Int) < k := fun e => h (Or.inr (Or.inr e))
  clear h
  have T1 : Hid True := hid trivial
  go_enter Tryz.func7, Tryz.ntmps7
  go_wp2_with (first
    | (clear T1; (with_reducible refine wpList_allocX 31 _ zeroCh rfl rfl ?_); intro w1 g4 hz1 hb1 hg1; have HZ1 := hid hz1; have HB1 := hid hb1; have HG1 := hid (show w.heap.size ≤ g4 by omega); clear hz1 hb1 hg1)
    | ((with_reducible refine wpList_allocX 31 _ zeroCh rfl rfl ?_); intro w2 g6 hz2 hb2 hg2; have HF : Hid (Rq9 w g4 g6 0 false 0 nilS nilS nilS 0 [] [] [] w2) := hid ⟨below_on HB1.out hb2, HZ1.out.below hb2, hz2, Rs.nil _ _, Buf.nil _ _, BBuf.nil _ _, HG1.out, by have := HB1.out.size; omega, by have := HZ1.out.lt; omega⟩; clear hz2 hb2 hg2 HZ1 HB1 HG1))
  go_loopg [7] n (fun gg s7 wr => ∃ kk q : Nat, kk ≤ n ∧ n - kk ≤ gg ∧ q ≤ kk ∧ s7 = i64 kk ∧ Hid (ansN (cps (l.take kk)) = q) ∧ Hid (Rq9 w g4 g6 q false 0 nilS nilS nilS 0 [] [] [] wr))
  case atStart => exact ⟨0, 0, Nat.zero_le _, by omega, Nat.zero_le _, rfl, hid rfl, HF⟩
  case round =>
    obtain ⟨kk, q, hkk, hg, hqk, rfl, HQ, HW⟩ := hrel
    by_cases hlt : kk < n
    · have hltz : (kk : Int) < (n : Int) := by omega
      obtain ⟨x, hx⟩ : ∃ x, l[kk]? = some x := ⟨_, List.getElem?_eq_getElem (by have := HN.out; omega)⟩
      obtain ⟨b, o, c', e, -⟩ := HL.out.where hx
      rw [HN.out] at e
      cases e
      obtain ⟨p1, m1, c1, -, -, hcl, -⟩ := HL.out.load HW.out.below hx
      have HCL := hid hcl
      have HXN : Hid (ansN (cps (l.take (kk + 1))) = q + if ansC x.cp then 1 else 0) := hid (by rw [cps_next hx, ans_snoc, HQ.out])
      have HAN := hid (ranswers_any x.err (.slice p1 m1 c1))
      rw [← ansC_eq] at HAN
      clear hcl hx
      generalize x.err = E at HCL HAN
      cases ha : ansC x.cp with
      | true =>
        rw [ha] at HAN HXN
        go_wp2_with (first
          | ((with_reducible refine wpList_load_at 44 _ rfl ?_ b (o + kk * 2) ?_ (cC E (.slice p1 m1 c1)) _ ?_ underCp rfl ?_ ?_); exact rfl; exact rfl; exact HCL.out; exact sizeCp)
          | (go_at_call 20; refine (HAN.out _).mono ?_; rintro e w4 ⟨rfl, hb4⟩; replace HW := hid (HW.out.on hb4); have k5 : w4.cell? ⟨g6, 5, none⟩ = some (i64 q) := HW.out.c6.cell 5; clear hb4)
          | ((with_reducible refine wpList_storeM 3 rfl rfl _ _ rfl g6 5 ?_ (i64 ((q + 1 : Nat) : Int)) ?_ [i64 ((q + 1 : Nat) : Int)] ?_ ?_ ?_ HW.out.c6 ?_ (eC false 0 nilS nilS nilS ((q + 1 : Nat) : Int) 0) ?_ ?_); exact rfl; (show _ = _; go_num); exact rfl; kernel_rfl; simp [Value.oneCell']; simp [eC]; exact rfl; intro w5 h5 o5; have HW5 := hid (HW.out.put h5 o5 HW.out.rs HW.out.bf HW.out.hb); clear h5 o5))
        go_roundg (n - (kk + 1))
        case measure => omega
        case rel => exact ⟨kk + 1, q + 1, by omega, by omega, by omega, by go_num, HXN, HW5⟩
      | false =>
        rw [ha] at HAN HXN
        go_wp2_with (first
          | ((with_reducible refine wpList_load_at 44 _ rfl ?_ b (o + kk * 2) ?_ (cC E (.slice p1 m1 c1)) _ ?_ underCp rfl ?_ ?_); exact rfl; exact rfl; exact HCL.out; exact sizeCp)
          | (go_at_call 20; refine (HAN.out _).mono ?_; rintro e w4 ⟨rfl, hb4⟩; replace HW := hid (HW.out.on hb4); clear hb4))
        go_roundg (n - (kk + 1))
        case measure => omega
        case rel => exact ⟨kk + 1, q, by omega, by omega, by omega, by go_num, HXN, HW⟩
    · have hltz : ¬ (kk : Int) < (n : Int) := by omega
      have HQA : Hid (ansN (cps l) = q) := hid (by rw [← HQ.out, List.take_of_length_le (by have := HN.out; omega)])
      have k5 : wr.cell? ⟨g6, 5, none⟩ = some (i64 q) := HW.out.c6.cell 5
      clear hkk hg HQ hqk HF
      by_cases hq : (q : Int) < k
      · go_wp2_with (first
          | ((with_reducible refine wpList_build_want 31 _ rfl ?_ (eC false 0 nilS nilS nilS 0 0) ?_ ?_); exact rfl; exact builtCh0)
          | ((with_reducible refine wpList_storeX 31 7 sizeCh rfl rfl _ _ rfl g4 ?_ (D := eC false 0 nilS nilS nilS 0 0) ?_ ?_ ?_ ?_ HW.out.c4 ?_); exact rfl; exact rfl; exact rfl; exact rfl; exact eC_one _ _ rfl rfl rfl _ _; intro w2 h2 o2; have HC2 := hid h2; have HB2 := hid (below_tr HW.out.below (o2.below HW.out.below.size (fun i e => by have := HW.out.l4; omega))); clear h2 o2))
        refine ret_rowE rfl g4 rfl rfl rfl HC2.out ?_
        have hrr := HRR.out
        rw [HQA.out, if_pos hq] at hrr
        rw [← hrr]
        exact ElS.bad trivial HB2.out
      · go_wp2
        go_loopg [8] n (fun gg s8 wr => ∃ (kk : Nat) (fnd : Bool) (s0 : Int) (v0 b0 : Value) (m0 : List Rp) (bb : List Nat) (n0 : Nat), kk ≤ n ∧ n - kk ≤ gg ∧ n0 ≤ 1000 ∧ s8 = i64 kk ∧ Hid (besT (besC (cps l) (cps (l.take kk))) = (fnd, ⟨s0, rcs m0⟩, bb, n0)) ∧ Hid (Rq9 w g4 g6 q fnd s0 v0 b0 nilS n0 m0 bb [] wr) ∧ Hid (m0.length ≤ 100000) ∧ Hid (∀ z ∈ bb, z < 256))
        case atStart => exact ⟨0, false, 0, nilS, nilS, [], [], 0, Nat.zero_le _, by omega, by omega, rfl, hid rfl, HW, hid (by simp), hid (by simp)⟩
        case round =>
          clear HW k5 hltz hlt
          obtain ⟨kk, fnd, s0, v0, b0, m0, bb, n0, hkk, hg, hn0, rfl, HBS, HW, HM0, HB8⟩ := hrel
          obtain ⟨pv, nv, cv, hfv⟩ : ∃ p n c, v0 = .slice p n c := by obtain ⟨a, c, e, _⟩ := HW.out.rs.buf.form; exact ⟨a, _, c, e⟩
          subst hfv
          obtain ⟨pb, nb, cb, hfb⟩ := HW.out.bf.form3
          subst hfb
          by_cases hlt : kk < n
          · have hltz : (kk : Int) < (n : Int) := by omega
            obtain ⟨x, hx⟩ : ∃ x, l[kk]? = some x := ⟨_, List.getElem?_eq_getElem (by have := HN.out; omega)⟩
            obtain ⟨b, o, c', e, -⟩ := HL.out.where hx
            rw [HN.out] at e
            cases e
            obtain ⟨p1, m1, c1, -, hm1, hcl, hbl, hmc, hnil, hm5, h8⟩ := HL.out.load HW.out.below hx
            have HX := hid hx
            have ke : wr.cell? ⟨b, o + kk * 2, none⟩ = some (i64 x.err) := hcl 0 _ rfl
            have HKC : Hid (∀ W, Below w.heap.size w W → W.cell? ⟨b, o + kk * 2 + 1, none⟩ = some (.slice p1 m1 c1)) := hid (fun W hW => by
              have h9 := (HL.out.at HW.out.below hx).2.1
              have h7 := (HL.out.at hW hx).2.1
              have h6 : wr.cell? ⟨b, o + kk * 2 + 1, none⟩ = some (.slice p1 m1 c1) := hcl 1 _ rfl
              rw [h9] at h6
              rw [h7, h6])
            have HKB : Hid (∀ W, Below wr.heap.size wr W → W.cell? ⟨b, o + kk * 2 + 1, none⟩ = some (.slice p1 m1 c1)) := hid (fun W hW => HKC.out W (below_on HW.out.below hW))
            have HBL : Hid (∀ W, Below w.heap.size w W → BL W p1 x.bs) := hid (fun W hW => by
              obtain ⟨p9, m9, c9, e9, _, hcl9, hbl9, _⟩ := HL.out.load hW hx
              have h6 : wr.cell? ⟨b, o + kk * 2 + 1, none⟩ = some (.slice p1 m1 c1) := hcl 1 _ rfl
              have h7 := (HL.out.at HW.out.below hx).2.1
              rw [e9, h6] at h7
              cases h7
              exact hbl9)
            have kb := HKB.out wr (Below.refl _ _)
            have HX8 := hid h8
            have HSM : Hid (x.bs.length ≤ 100000) := hid (by omega)
            have HNIL := hid hnil
            have HM1 := hid hm1.symm
            have HRD := hid (rjread_any p1 c1 x.bs wr hbl (by omega) hnil (by omega) h8)
            have HVT := hid (fun W (hW : Below wr.heap.size wr W) => rvotes_any _ (.slice p1 m1 c1) l x.bs W (HL.out.below (below_on HW.out.below hW)) ⟨p1, c1, by rw [← hm1], hbl.below hW, by omega⟩ h8)
            rw [← hm1] at HRD
            obtain ⟨nn, hnn⟩ : ∃ nn, votC (cps l) x.bs = nn := ⟨_, rfl⟩
            have HNN : Hid (nn ≤ 1000) := hid (by rw [← hnn]; exact Nat.le_trans (vot_le _ _) (by rw [cps_len, HN.out]; exact hn))
            have HNV := hid hnn
            rw [hnn] at HVT
            clear hcl hbl hmc hnil hm5 h8 hm1 hx hnn
            by_cases hE : x.err = 0
            · rw [hE] at ke
              have HHJ : Hid (hasJ dig x.cp = (rdJ dig x.bs).2) := hid (by unfold hasJ; rw [if_pos (show x.cp.err = 0 from hE)]; rfl)
              clear hE
              cases hj : (rdJ dig x.bs).2 with
              | none =>
                obtain ⟨er, her⟩ : ∃ er, (rdJ dig x.bs).1 = er := ⟨_, rfl⟩
                have her2 := rdJ_err hj
                rw [her] at her2
                unfold AddS at HRD
                rw [hj, her] at HRD
                have hz : ((er : Int) == 0) = false := by rcases her2 with rfl | rfl <;> rfl
                have HNO : Hid (betC dig (cps l) (besC (cps l) (cps (l.take kk))) x.cp = besC (cps l) (cps (l.take kk))) := hid (bet_none (by rw [HHJ.out]; exact hj))
                clear her her2 hj
                go_wp2_with (first
                  | (go_at_call 21; refine HRD.out.mono ?_; rintro e w4 ⟨rfl, hb4⟩; replace HW := hid (HW.out.on hb4); have HBX := hid hb4; clear kb; have kb := HKB.out _ hb4; clear hb4)
                  | ((with_reducible refine wpList_allocJ rfl rfl ?_); intro w5 g5 hz5 hb5 hg5; have HZ5 := hid hz5; have HB5 := hid hb5; have HG5 := hid hg5; clear hz5 hb5 hg5)
                  | ((with_reducible refine wpList_storeJ rfl rfl _ _ rfl g5 ?_ (s := 0) (v := .slice none 0 0) ?_ rfl HZ5.out ?_); exact rfl; exact rfl; intro w8 h8 o8; have hb8 := ownX HB5.out HG5.out o8; replace HW := hid (HW.out.on hb8); have HBY := hid (below_on HBX.out hb8); clear kb; have kb := HKB.out _ HBY.out; clear h8 o8 HZ5 HB5 HG5 hb8)
                  | (go_at_call 22; refine (HVT.out _ HBY.out).mono ?_; rintro e w9 ⟨rfl, hb9⟩; replace HW := hid (HW.out.on hb9); clear hb9))
                go_roundg (n - (kk + 1))
                case measure => omega
                case rel => exact ⟨kk + 1, fnd, s0, _, _, m0, bb, n0, by omega, by omega, hn0, by go_num, hid (by rw [cps_next HX.out, bes_snoc, HNO.out]; exact HBS.out), HW, HM0, HB8⟩
              | some j =>
                unfold AddS at HRD
                rw [hj] at HRD
                have HHS : Hid (hasJ dig x.cp = some j) := hid (by rw [HHJ.out]; exact hj)
                have HJS : Hid (j.recs.length ≤ 64) := hid (okJ_parts (rdJ_some HX8.out (rdJ_fst hj)).2.1).2.2.1
                clear hj
                cases fnd with
                | false =>
                  have HUP : Hid (betC dig (cps l) (besC (cps l) (cps (l.take kk))) x.cp = some (j, x.bs, nn)) := hid (by rw [bet_up HHS.out HBS.out (Or.inl rfl), ← HNV.out]; rfl)
                  go_wp2_with (first
                    | (go_at_call 21; refine HRD.out.mono ?_; rintro e w4 ⟨v4, m4, rfl, hr4, he4, hb4⟩; have hszw := HW.out.below.size; replace HW := hid (HW.out.on hb4); have hv4 := hr4.one; have HR4 := hid (hr4.base hszw); have HE4 := hid he4; obtain ⟨p4, n4, c4, hf4⟩ : ∃ p n c, v4 = .slice p n c := (by obtain ⟨a, c, e, _⟩ := hr4.buf.form; exact ⟨a, _, c, e⟩); subst hf4; have HBX := hid hb4; have kb := HKB.out _ hb4; clear hb4 hr4 he4 hszw)
                    | ((with_reducible refine wpList_allocJ rfl rfl ?_); intro w5 g5 hz5 hb5 hg5; have HZ5 := hid hz5; have HB5 := hid hb5; have HG5 := hid hg5; clear hz5 hb5 hg5)
                    | ((with_reducible refine wpList_storeJ rfl rfl _ _ rfl g5 ?_ (s := j.seq) (v := .slice p4 n4 c4) ?_ hv4 HZ5.out ?_); exact rfl; exact rfl; intro w8 h8 o8; have hb8 := ownX HB5.out HG5.out o8; replace HW := hid (HW.out.on hb8); replace HR4 := hid (HR4.out.below hb8); have HC8 := hid h8; have HBY := hid (below_on HBX.out hb8); clear kb; have kb := HKB.out _ HBY.out; clear h8 o8 HZ5 HB5 HG5 hb8 HBX)
                    | (go_at_call 22; refine (HVT.out _ HBY.out).mono ?_; rintro e w9 ⟨rfl, hb9⟩; replace HW := hid (HW.out.on hb9); replace HR4 := hid (HR4.out.below hb9); replace HC8 := hid (HC8.out.below hb9); replace HBY := hid (below_on HBY.out hb9); clear kb; have kb := HKB.out _ HBY.out; have k0 : w9.cell? ⟨g6, 0, none⟩ = some (.bool false) := HW.out.c6.cell 0; have k1 : w9.cell? ⟨g6, 1, none⟩ = some (i64 s0) := HW.out.c6.cell 1; have k6 : w9.cell? ⟨g6, 6, none⟩ = some (i64 (n0 : Nat)) := HW.out.c6.cell 6; have kj : w9.cell? ⟨g5, 0, none⟩ = some (i64 j.seq) := HC8.out.j0; clear hb9)
                    | ((with_reducible refine wpList_storeM 4 rfl rfl _ _ rfl g6 0 ?_ (.bool true) ?_ [.bool true] ?_ ?_ ?_ HW.out.c6 ?_ (eC true s0 (.slice pv nv cv) (.slice pb nb cb) nilS q n0) ?_ ?_); exact rfl; exact rfl; exact rfl; kernel_rfl; simp [Value.oneCell']; simp [eC]; exact rfl; intro wA hA oA; have hapart : g5 ≠ g6 := CAt.apart HC8.out HW.out.c6 (by decide); replace HR4 := hid (HR4.out.otherT (by decide) (by decide) HW.out.c6 oA); replace HC8 := hid (HC8.out.keep (oA.block g5 HC8.out.lt hapart)); have hsA := oA.size; replace HW := hid (HW.out.put hA oA HW.out.rs HW.out.bf HW.out.hb); have HBA := hid HW.out.below; clear hA oA kb k0 k1 k6 kj)
                    | ((with_reducible refine wpList_load_at 27 _ rfl ?_ g5 0 ?_ (jC j.seq (.slice p4 n4 c4)) _ ?_ underJrn rfl ?_ ?_); exact rfl; exact rfl; exact HC8.out.wholeJ; exact sizeJ)
                    | ((with_reducible refine wpList_storeM 27 rfl rfl _ _ rfl g6 1 ?_ (.agg (jC j.seq (.slice p4 n4 c4))) ?_ [i64 j.seq, .slice p4 n4 c4] ?_ ?_ ?_ HW.out.c6 ?_ (eC true j.seq (.slice p4 n4 c4) (.slice pb nb cb) nilS q n0) ?_ ?_); exact rfl; exact rfl; exact rfl; kernel_rfl; simp [Value.oneCell']; simp [eC]; exact rfl; intro wB hB oB; replace HW := hid (HW.out.put hB oB HR4.out HW.out.bf HW.out.hb); have kb : (wB.alloc (.cells #[] 5)).cell? ⟨b, o + kk * 2 + 1, none⟩ = some (.slice p1 m1 c1) := HKC.out _ (below_on HW.out.below (below_al _ _)); obtain ⟨vC, wC, hrC, hbC, hgC⟩ := (Buf.made0 wB w.heap.size HW.out.below.size).app p1 c1 x.bs ((HBL.out _ HW.out.below).below (below_al _ _)) HNIL.out (by simp; have := HSM.out; omega) (by rw [size_al]; have := HW.out.below.size; omega); rw [HM1.out] at hrC; have HRUN := hid hrC; have HBC := hid hbC; have HWC := hid (HW.out.on (below_grown (below_al wB _) hgC (Nat.le_refl _) (fun b hb => by cases hb; exact Nat.le_refl _))); clear hB oB HR4 HC8 hrC hgC)
                    | (at_builtin; refine wpList_append_run _ _ 28 28 rfl rfl _ _ _ rfl rfl HRUN.out ?_; obtain ⟨pC, nC, cC9, hfC⟩ := hbC.form3; subst hfC; clear kb hbC)
                    | ((with_reducible refine wpList_storeM 28 rfl rfl _ _ rfl g6 3 ?_ (.slice pC nC cC9) ?_ [.slice pC nC cC9] ?_ ?_ ?_ HWC.out.c6 ?_ (eC true j.seq (.slice p4 n4 c4) (.slice pC nC cC9) nilS q n0) ?_ ?_); exact rfl; exact rfl; exact rfl; kernel_rfl; simp [Value.oneCell']; simp [eC]; exact rfl; intro wD hD oD; have HWD := hid (HWC.out.put hD oD HWC.out.rs HBC.out HWC.out.hb); clear hD oD)
                    | ((with_reducible refine wpList_storeM 3 rfl rfl _ _ rfl g6 6 ?_ (i64 (nn : Nat)) ?_ [i64 (nn : Nat)] ?_ ?_ ?_ HWD.out.c6 ?_ (eC true j.seq (.slice p4 n4 c4) (.slice pC nC cC9) nilS q nn) ?_ ?_); exact rfl; exact rfl; exact rfl; kernel_rfl; simp [Value.oneCell']; simp [eC]; exact rfl; intro wE hE oE; have HWE := hid (HWD.out.put hE oE HWD.out.rs HWD.out.bf HWD.out.hb); clear hE oE))
                  go_roundg (n - (kk + 1))
                  case measure => omega
                  case rel => exact ⟨kk + 1, true, j.seq, .slice p4 n4 c4, .slice pC nC cC9, m4, x.bs, nn, by omega, by omega, HNN.out, by go_num, hid (by rw [cps_next HX.out, bes_snoc, HUP.out, show (⟨j.seq, rcs m4⟩ : Jr) = j by rw [HE4.out]]; rfl), HWE, hid (by have h := congrArg List.length HE4.out; rw [rcs_len] at h; have := HJS.out; omega), HX8⟩
                | true =>
                  by_cases hs1 : s0 < j.seq
                  · have HUP : Hid (betC dig (cps l) (besC (cps l) (cps (l.take kk))) x.cp = some (j, x.bs, nn)) := hid (by rw [bet_up HHS.out HBS.out (Or.inr (Or.inl hs1)), ← HNV.out]; rfl)
                    go_wp2_with (first
                      | (go_at_call 21; refine HRD.out.mono ?_; rintro e w4 ⟨v4, m4, rfl, hr4, he4, hb4⟩; have hszw := HW.out.below.size; replace HW := hid (HW.out.on hb4); have hv4 := hr4.one; have HR4 := hid (hr4.base hszw); have HE4 := hid he4; obtain ⟨p4, n4, c4, hf4⟩ : ∃ p n c, v4 = .slice p n c := (by obtain ⟨a, c, e, _⟩ := hr4.buf.form; exact ⟨a, _, c, e⟩); subst hf4; have HBX := hid hb4; have kb := HKB.out _ hb4; clear hb4 hr4 he4 hszw)
                      | ((with_reducible refine wpList_allocJ rfl rfl ?_); intro w5 g5 hz5 hb5 hg5; have HZ5 := hid hz5; have HB5 := hid hb5; have HG5 := hid hg5; clear hz5 hb5 hg5)
                      | ((with_reducible refine wpList_storeJ rfl rfl _ _ rfl g5 ?_ (s := j.seq) (v := .slice p4 n4 c4) ?_ hv4 HZ5.out ?_); exact rfl; exact rfl; intro w8 h8 o8; have hb8 := ownX HB5.out HG5.out o8; replace HW := hid (HW.out.on hb8); replace HR4 := hid (HR4.out.below hb8); have HC8 := hid h8; have HBY := hid (below_on HBX.out hb8); clear kb; have kb := HKB.out _ HBY.out; clear h8 o8 HZ5 HB5 HG5 hb8 HBX)
                      | (go_at_call 22; refine (HVT.out _ HBY.out).mono ?_; rintro e w9 ⟨rfl, hb9⟩; replace HW := hid (HW.out.on hb9); replace HR4 := hid (HR4.out.below hb9); replace HC8 := hid (HC8.out.below hb9); replace HBY := hid (below_on HBY.out hb9); clear kb; have kb := HKB.out _ HBY.out; have k0 : w9.cell? ⟨g6, 0, none⟩ = some (.bool true) := HW.out.c6.cell 0; have k1 : w9.cell? ⟨g6, 1, none⟩ = some (i64 s0) := HW.out.c6.cell 1; have k6 : w9.cell? ⟨g6, 6, none⟩ = some (i64 (n0 : Nat)) := HW.out.c6.cell 6; have kj : w9.cell? ⟨g5, 0, none⟩ = some (i64 j.seq) := HC8.out.j0; clear hb9)
                      | ((with_reducible refine wpList_storeM 4 rfl rfl _ _ rfl g6 0 ?_ (.bool true) ?_ [.bool true] ?_ ?_ ?_ HW.out.c6 ?_ (eC true s0 (.slice pv nv cv) (.slice pb nb cb) nilS q n0) ?_ ?_); exact rfl; exact rfl; exact rfl; kernel_rfl; simp [Value.oneCell']; simp [eC]; exact rfl; intro wA hA oA; have hapart : g5 ≠ g6 := CAt.apart HC8.out HW.out.c6 (by decide); replace HR4 := hid (HR4.out.otherT (by decide) (by decide) HW.out.c6 oA); replace HC8 := hid (HC8.out.keep (oA.block g5 HC8.out.lt hapart)); have hsA := oA.size; replace HW := hid (HW.out.put hA oA HW.out.rs HW.out.bf HW.out.hb); have HBA := hid HW.out.below; clear hA oA kb k0 k1 k6 kj)
                      | ((with_reducible refine wpList_load_at 27 _ rfl ?_ g5 0 ?_ (jC j.seq (.slice p4 n4 c4)) _ ?_ underJrn rfl ?_ ?_); exact rfl; exact rfl; exact HC8.out.wholeJ; exact sizeJ)
                      | ((with_reducible refine wpList_storeM 27 rfl rfl _ _ rfl g6 1 ?_ (.agg (jC j.seq (.slice p4 n4 c4))) ?_ [i64 j.seq, .slice p4 n4 c4] ?_ ?_ ?_ HW.out.c6 ?_ (eC true j.seq (.slice p4 n4 c4) (.slice pb nb cb) nilS q n0) ?_ ?_); exact rfl; exact rfl; exact rfl; kernel_rfl; simp [Value.oneCell']; simp [eC]; exact rfl; intro wB hB oB; replace HW := hid (HW.out.put hB oB HR4.out HW.out.bf HW.out.hb); have kb : (wB.alloc (.cells #[] 5)).cell? ⟨b, o + kk * 2 + 1, none⟩ = some (.slice p1 m1 c1) := HKC.out _ (below_on HW.out.below (below_al _ _)); obtain ⟨vC, wC, hrC, hbC, hgC⟩ := (Buf.made0 wB w.heap.size HW.out.below.size).app p1 c1 x.bs ((HBL.out _ HW.out.below).below (below_al _ _)) HNIL.out (by simp; have := HSM.out; omega) (by rw [size_al]; have := HW.out.below.size; omega); rw [HM1.out] at hrC; have HRUN := hid hrC; have HBC := hid hbC; have HWC := hid (HW.out.on (below_grown (below_al wB _) hgC (Nat.le_refl _) (fun b hb => by cases hb; exact Nat.le_refl _))); clear hB oB HR4 HC8 hrC hgC)
                      | (at_builtin; refine wpList_append_run _ _ 28 28 rfl rfl _ _ _ rfl rfl HRUN.out ?_; obtain ⟨pC, nC, cC9, hfC⟩ := hbC.form3; subst hfC; clear kb hbC)
                      | ((with_reducible refine wpList_storeM 28 rfl rfl _ _ rfl g6 3 ?_ (.slice pC nC cC9) ?_ [.slice pC nC cC9] ?_ ?_ ?_ HWC.out.c6 ?_ (eC true j.seq (.slice p4 n4 c4) (.slice pC nC cC9) nilS q n0) ?_ ?_); exact rfl; exact rfl; exact rfl; kernel_rfl; simp [Value.oneCell']; simp [eC]; exact rfl; intro wD hD oD; have HWD := hid (HWC.out.put hD oD HWC.out.rs HBC.out HWC.out.hb); clear hD oD)
                      | ((with_reducible refine wpList_storeM 3 rfl rfl _ _ rfl g6 6 ?_ (i64 (nn : Nat)) ?_ [i64 (nn : Nat)] ?_ ?_ ?_ HWD.out.c6 ?_ (eC true j.seq (.slice p4 n4 c4) (.slice pC nC cC9) nilS q nn) ?_ ?_); exact rfl; exact rfl; exact rfl; kernel_rfl; simp [Value.oneCell']; simp [eC]; exact rfl; intro wE hE oE; have HWE := hid (HWD.out.put hE oE HWD.out.rs HWD.out.bf HWD.out.hb); clear hE oE))
                    go_roundg (n - (kk + 1))
                    case measure => omega
                    case rel => exact ⟨kk + 1, true, j.seq, .slice p4 n4 c4, .slice pC nC cC9, m4, x.bs, nn, by omega, by omega, HNN.out, by go_num, hid (by rw [cps_next HX.out, bes_snoc, HUP.out, show (⟨j.seq, rcs m4⟩ : Jr) = j by rw [HE4.out]]; rfl), HWE, hid (by have h := congrArg List.length HE4.out; rw [rcs_len] at h; have := HJS.out; omega), HX8⟩
                  · by_cases hs2 : j.seq = s0
                    · have hs2b : (j.seq == s0) = true := by simp [hs2]
                      by_cases hs3 : (n0 : Int) < (nn : Int)
                      · have HUP : Hid (betC dig (cps l) (besC (cps l) (cps (l.take kk))) x.cp = some (j, x.bs, nn)) := hid (by rw [bet_up HHS.out HBS.out (Or.inr (Or.inr ⟨hs2, by have := HNV.out; rw [show votC (cps l) x.cp.b = nn from this]; omega⟩)), ← HNV.out]; rfl)
                        clear hs2
                        go_wp2_with (first
                          | (go_at_call 21; refine HRD.out.mono ?_; rintro e w4 ⟨v4, m4, rfl, hr4, he4, hb4⟩; have hszw := HW.out.below.size; replace HW := hid (HW.out.on hb4); have hv4 := hr4.one; have HR4 := hid (hr4.base hszw); have HE4 := hid he4; obtain ⟨p4, n4, c4, hf4⟩ : ∃ p n c, v4 = .slice p n c := (by obtain ⟨a, c, e, _⟩ := hr4.buf.form; exact ⟨a, _, c, e⟩); subst hf4; have HBX := hid hb4; have kb := HKB.out _ hb4; clear hb4 hr4 he4 hszw)
                          | ((with_reducible refine wpList_allocJ rfl rfl ?_); intro w5 g5 hz5 hb5 hg5; have HZ5 := hid hz5; have HB5 := hid hb5; have HG5 := hid hg5; clear hz5 hb5 hg5)
                          | ((with_reducible refine wpList_storeJ rfl rfl _ _ rfl g5 ?_ (s := j.seq) (v := .slice p4 n4 c4) ?_ hv4 HZ5.out ?_); exact rfl; exact rfl; intro w8 h8 o8; have hb8 := ownX HB5.out HG5.out o8; replace HW := hid (HW.out.on hb8); replace HR4 := hid (HR4.out.below hb8); have HC8 := hid h8; have HBY := hid (below_on HBX.out hb8); clear kb; have kb := HKB.out _ HBY.out; clear h8 o8 HZ5 HB5 HG5 hb8 HBX)
                          | (go_at_call 22; refine (HVT.out _ HBY.out).mono ?_; rintro e w9 ⟨rfl, hb9⟩; replace HW := hid (HW.out.on hb9); replace HR4 := hid (HR4.out.below hb9); replace HC8 := hid (HC8.out.below hb9); replace HBY := hid (below_on HBY.out hb9); clear kb; have kb := HKB.out _ HBY.out; have k0 : w9.cell? ⟨g6, 0, none⟩ = some (.bool true) := HW.out.c6.cell 0; have k1 : w9.cell? ⟨g6, 1, none⟩ = some (i64 s0) := HW.out.c6.cell 1; have k6 : w9.cell? ⟨g6, 6, none⟩ = some (i64 (n0 : Nat)) := HW.out.c6.cell 6; have kj : w9.cell? ⟨g5, 0, none⟩ = some (i64 j.seq) := HC8.out.j0; clear hb9)
                          | ((with_reducible refine wpList_storeM 4 rfl rfl _ _ rfl g6 0 ?_ (.bool true) ?_ [.bool true] ?_ ?_ ?_ HW.out.c6 ?_ (eC true s0 (.slice pv nv cv) (.slice pb nb cb) nilS q n0) ?_ ?_); exact rfl; exact rfl; exact rfl; kernel_rfl; simp [Value.oneCell']; simp [eC]; exact rfl; intro wA hA oA; have hapart : g5 ≠ g6 := CAt.apart HC8.out HW.out.c6 (by decide); replace HR4 := hid (HR4.out.otherT (by decide) (by decide) HW.out.c6 oA); replace HC8 := hid (HC8.out.keep (oA.block g5 HC8.out.lt hapart)); have hsA := oA.size; replace HW := hid (HW.out.put hA oA HW.out.rs HW.out.bf HW.out.hb); have HBA := hid HW.out.below; clear hA oA kb k0 k1 k6 kj)
                          | ((with_reducible refine wpList_load_at 27 _ rfl ?_ g5 0 ?_ (jC j.seq (.slice p4 n4 c4)) _ ?_ underJrn rfl ?_ ?_); exact rfl; exact rfl; exact HC8.out.wholeJ; exact sizeJ)
                          | ((with_reducible refine wpList_storeM 27 rfl rfl _ _ rfl g6 1 ?_ (.agg (jC j.seq (.slice p4 n4 c4))) ?_ [i64 j.seq, .slice p4 n4 c4] ?_ ?_ ?_ HW.out.c6 ?_ (eC true j.seq (.slice p4 n4 c4) (.slice pb nb cb) nilS q n0) ?_ ?_); exact rfl; exact rfl; exact rfl; kernel_rfl; simp [Value.oneCell']; simp [eC]; exact rfl; intro wB hB oB; replace HW := hid (HW.out.put hB oB HR4.out HW.out.bf HW.out.hb); have kb : (wB.alloc (.cells #[] 5)).cell? ⟨b, o + kk * 2 + 1, none⟩ = some (.slice p1 m1 c1) := HKC.out _ (below_on HW.out.below (below_al _ _)); obtain ⟨vC, wC, hrC, hbC, hgC⟩ := (Buf.made0 wB w.heap.size HW.out.below.size).app p1 c1 x.bs ((HBL.out _ HW.out.below).below (below_al _ _)) HNIL.out (by simp; have := HSM.out; omega) (by rw [size_al]; have := HW.out.below.size; omega); rw [HM1.out] at hrC; have HRUN := hid hrC; have HBC := hid hbC; have HWC := hid (HW.out.on (below_grown (below_al wB _) hgC (Nat.le_refl _) (fun b hb => by cases hb; exact Nat.le_refl _))); clear hB oB HR4 HC8 hrC hgC)
                          | (at_builtin; refine wpList_append_run _ _ 28 28 rfl rfl _ _ _ rfl rfl HRUN.out ?_; obtain ⟨pC, nC, cC9, hfC⟩ := hbC.form3; subst hfC; clear kb hbC)
                          | ((with_reducible refine wpList_storeM 28 rfl rfl _ _ rfl g6 3 ?_ (.slice pC nC cC9) ?_ [.slice pC nC cC9] ?_ ?_ ?_ HWC.out.c6 ?_ (eC true j.seq (.slice p4 n4 c4) (.slice pC nC cC9) nilS q n0) ?_ ?_); exact rfl; exact rfl; exact rfl; kernel_rfl; simp [Value.oneCell']; simp [eC]; exact rfl; intro wD hD oD; have HWD := hid (HWC.out.put hD oD HWC.out.rs HBC.out HWC.out.hb); clear hD oD)
                          | ((with_reducible refine wpList_storeM 3 rfl rfl _ _ rfl g6 6 ?_ (i64 (nn : Nat)) ?_ [i64 (nn : Nat)] ?_ ?_ ?_ HWD.out.c6 ?_ (eC true j.seq (.slice p4 n4 c4) (.slice pC nC cC9) nilS q nn) ?_ ?_); exact rfl; exact rfl; exact rfl; kernel_rfl; simp [Value.oneCell']; simp [eC]; exact rfl; intro wE hE oE; have HWE := hid (HWD.out.put hE oE HWD.out.rs HWD.out.bf HWD.out.hb); clear hE oE))
                        go_roundg (n - (kk + 1))
                        case measure => omega
                        case rel => exact ⟨kk + 1, true, j.seq, .slice p4 n4 c4, .slice pC nC cC9, m4, x.bs, nn, by omega, by omega, HNN.out, by go_num, hid (by rw [cps_next HX.out, bes_snoc, HUP.out, show (⟨j.seq, rcs m4⟩ : Jr) = j by rw [HE4.out]]; rfl), HWE, hid (by have h := congrArg List.length HE4.out; rw [rcs_len] at h; have := HJS.out; omega), HX8⟩
                      · have HUP : Hid (betC dig (cps l) (besC (cps l) (cps (l.take kk))) x.cp = besC (cps l) (cps (l.take kk))) := hid (bet_no HHS.out HBS.out (fun e => e.elim hs1 (fun e => by have h := e.2; rw [show votC (cps l) x.cp.b = nn from HNV.out] at h; omega)))
                        clear hs2
                        go_wp2_with (first
                          | (go_at_call 21; refine HRD.out.mono ?_; rintro e w4 ⟨v4, m4, rfl, hr4, he4, hb4⟩; have hszw := HW.out.below.size; replace HW := hid (HW.out.on hb4); have hv4 := hr4.one; have HR4 := hid (hr4.base hszw); have HE4 := hid he4; obtain ⟨p4, n4, c4, hf4⟩ : ∃ p n c, v4 = .slice p n c := (by obtain ⟨a, c, e, _⟩ := hr4.buf.form; exact ⟨a, _, c, e⟩); subst hf4; have HBX := hid hb4; have kb := HKB.out _ hb4; clear hb4 hr4 he4 hszw)
                          | ((with_reducible refine wpList_allocJ rfl rfl ?_); intro w5 g5 hz5 hb5 hg5; have HZ5 := hid hz5; have HB5 := hid hb5; have HG5 := hid hg5; clear hz5 hb5 hg5)
                          | ((with_reducible refine wpList_storeJ rfl rfl _ _ rfl g5 ?_ (s := j.seq) (v := .slice p4 n4 c4) ?_ hv4 HZ5.out ?_); exact rfl; exact rfl; intro w8 h8 o8; have hb8 := ownX HB5.out HG5.out o8; replace HW := hid (HW.out.on hb8); replace HR4 := hid (HR4.out.below hb8); have HC8 := hid h8; have HBY := hid (below_on HBX.out hb8); clear kb; have kb := HKB.out _ HBY.out; clear h8 o8 HZ5 HB5 HG5 hb8 HBX)
                          | (go_at_call 22; refine (HVT.out _ HBY.out).mono ?_; rintro e w9 ⟨rfl, hb9⟩; replace HW := hid (HW.out.on hb9); replace HR4 := hid (HR4.out.below hb9); replace HC8 := hid (HC8.out.below hb9); replace HBY := hid (below_on HBY.out hb9); clear kb; have kb := HKB.out _ HBY.out; have k0 : w9.cell? ⟨g6, 0, none⟩ = some (.bool true) := HW.out.c6.cell 0; have k1 : w9.cell? ⟨g6, 1, none⟩ = some (i64 s0) := HW.out.c6.cell 1; have k6 : w9.cell? ⟨g6, 6, none⟩ = some (i64 (n0 : Nat)) := HW.out.c6.cell 6; have kj : w9.cell? ⟨g5, 0, none⟩ = some (i64 j.seq) := HC8.out.j0; clear hb9))
                        go_roundg (n - (kk + 1))
                        case measure => omega
                        case rel => exact ⟨kk + 1, true, s0, _, _, m0, bb, n0, by omega, by omega, hn0, by go_num, hid (by rw [cps_next HX.out, bes_snoc, HUP.out]; exact HBS.out), HW, HM0, HB8⟩
                    · have hs2b : (j.seq == s0) = false := by simpa using hs2
                      have HUP : Hid (betC dig (cps l) (besC (cps l) (cps (l.take kk))) x.cp = besC (cps l) (cps (l.take kk))) := hid (bet_no HHS.out HBS.out (fun e => e.elim hs1 (fun e => hs2 e.1)))
                      clear hs2
                      go_wp2_with (first
                        | (go_at_call 21; refine HRD.out.mono ?_; rintro e w4 ⟨v4, m4, rfl, hr4, he4, hb4⟩; have hszw := HW.out.below.size; replace HW := hid (HW.out.on hb4); have hv4 := hr4.one; have HR4 := hid (hr4.base hszw); have HE4 := hid he4; obtain ⟨p4, n4, c4, hf4⟩ : ∃ p n c, v4 = .slice p n c := (by obtain ⟨a, c, e, _⟩ := hr4.buf.form; exact ⟨a, _, c, e⟩); subst hf4; have HBX := hid hb4; have kb := HKB.out _ hb4; clear hb4 hr4 he4 hszw)
                        | ((with_reducible refine wpList_allocJ rfl rfl ?_); intro w5 g5 hz5 hb5 hg5; have HZ5 := hid hz5; have HB5 := hid hb5; have HG5 := hid hg5; clear hz5 hb5 hg5)
                        | ((with_reducible refine wpList_storeJ rfl rfl _ _ rfl g5 ?_ (s := j.seq) (v := .slice p4 n4 c4) ?_ hv4 HZ5.out ?_); exact rfl; exact rfl; intro w8 h8 o8; have hb8 := ownX HB5.out HG5.out o8; replace HW := hid (HW.out.on hb8); replace HR4 := hid (HR4.out.below hb8); have HC8 := hid h8; have HBY := hid (below_on HBX.out hb8); clear kb; have kb := HKB.out _ HBY.out; clear h8 o8 HZ5 HB5 HG5 hb8 HBX)
                        | (go_at_call 22; refine (HVT.out _ HBY.out).mono ?_; rintro e w9 ⟨rfl, hb9⟩; replace HW := hid (HW.out.on hb9); replace HR4 := hid (HR4.out.below hb9); replace HC8 := hid (HC8.out.below hb9); replace HBY := hid (below_on HBY.out hb9); clear kb; have kb := HKB.out _ HBY.out; have k0 : w9.cell? ⟨g6, 0, none⟩ = some (.bool true) := HW.out.c6.cell 0; have k1 : w9.cell? ⟨g6, 1, none⟩ = some (i64 s0) := HW.out.c6.cell 1; have k6 : w9.cell? ⟨g6, 6, none⟩ = some (i64 (n0 : Nat)) := HW.out.c6.cell 6; have kj : w9.cell? ⟨g5, 0, none⟩ = some (i64 j.seq) := HC8.out.j0; clear hb9))
                      go_roundg (n - (kk + 1))
                      case measure => omega
                      case rel => exact ⟨kk + 1, true, s0, _, _, m0, bb, n0, by omega, by omega, hn0, by go_num, hid (by rw [cps_next HX.out, bes_snoc, HUP.out]; exact HBS.out), HW, HM0, HB8⟩
            · have hz : (x.err != 0) = true := by simpa using hE
              have HNO : Hid (betC dig (cps l) (besC (cps l) (cps (l.take kk))) x.cp = besC (cps l) (cps (l.take kk))) := hid (bet_none (by unfold hasJ; rw [if_neg (show ¬ x.cp.err = 0 from hE)]))
              generalize x.err = E at ke hz
              clear hE HRD
              go_wp2
              go_roundg (n - (kk + 1))
              case measure => omega
              case rel => exact ⟨kk + 1, fnd, s0, _, _, m0, bb, n0, by omega, by omega, hn0, by go_num, hid (by rw [cps_next HX.out, bes_snoc, HNO.out]; exact HBS.out), HW, HM0, HB8⟩
          · have hltz : ¬ (kk : Int) < (n : Int) := by omega
            have HBE : Hid (besT (besC (cps l) (cps l)) = (fnd, ⟨s0, rcs m0⟩, bb, n0)) := hid (by have := HBS.out; rwa [List.take_of_length_le (by have := HN.out; omega)] at this)
            clear HBS
            go_wp2
            go_loopg [12] n (fun gg s12 wr => ∃ (kk : Nat) (hv : Value), kk ≤ n ∧ n - kk ≤ gg ∧ s12 = i64 kk ∧ Hid (Rq9 w g4 g6 q fnd s0 (.slice pv nv cv) (.slice pb nb cb) hv n0 m0 bb ((cps (l.take kk)).map (fun c => fnd && hasC bb c)) wr))
            case atStart => exact ⟨0, nilS, Nat.zero_le _, by omega, rfl, HW⟩
            case round =>
              clear HW hltz hlt hkk hg
              obtain ⟨kk, hv, hkk, hg, rfl, HW⟩ := hrel
              obtain ⟨ph, ch, hfh⟩ := HW.out.hb.form
              obtain ⟨nh, hnh⟩ : ∃ nh, ((cps (l.take kk)).map (fun c => fnd && hasC bb c)).length = nh := ⟨_, rfl⟩
              rw [hnh] at hfh
              subst hfh
              by_cases hlt : kk < n
              · have hltz : (kk : Int) < (n : Int) := by omega
                obtain ⟨x, hx⟩ : ∃ x, l[kk]? = some x := ⟨_, List.getElem?_eq_getElem (by have := HN.out; omega)⟩
                obtain ⟨b, o, c', e, -⟩ := HL.out.where hx
                rw [HN.out] at e
                cases e
                obtain ⟨-, -, hok0⟩ := HL.out.at HW.out.below hx
                obtain ⟨p1, c1, hxv, -⟩ := hok0.sl
                obtain ⟨m1, hm1⟩ : ∃ m, x.bs.length = m := ⟨_, rfl⟩
                rw [hm1] at hxv
                have hse : ((ba x.bs).toList == (ba bb).toList) = decide (x.bs = bb) := by rw [lst_beq, lst_ba hok0.byte, lst_ba HB8.out]
                have HSF : Hid (∀ W, Below w.heap.size w W → ∀ {hv}, CAt W g6 (eC fnd s0 (.slice pv nv cv) (.slice pb nb cb) hv q n0) 31 → Buf w.heap.size W (.slice pb nb cb) bb → (fun W => W.cell? ⟨g6, 0, none⟩ = some (.bool fnd) ∧ W.cell? ⟨g6, 3, none⟩ = some (.slice pb nb cb) ∧ W.cell? ⟨b, o + kk * 2, none⟩ = some (i64 x.err) ∧ W.cell? ⟨b, o + kk * 2 + 1, none⟩ = some (.slice p1 m1 c1) ∧ (convert 28 9 (.slice p1 m1 c1)).run Tryz.prog W = .ok (.string (ba x.bs)) W ∧ (convert 28 9 (.slice pb nb cb)).run Tryz.prog W = .ok (.string (ba bb)) W) W) := hid (fun W hW hv h6 hbf => by
                  obtain ⟨h1, h2, hok⟩ := HL.out.at hW hx
                  have h3 := hok.slv
                  rw [hxv] at h2 h3
                  exact ⟨h6.cell 0, h6.cell 3, h1, h2, h3.run9, hbf.sl.run9⟩)
                have HNX : Hid ((cps (l.take (kk + 1))).map (fun c => fnd && hasC bb c) = (cps (l.take kk)).map (fun c => fnd && hasC bb c) ++ [fnd && hasC bb x.cp]) := hid (by rw [cps_next hx, List.map_append]; rfl)
                have HLEN : Hid (((cps (l.take kk)).map (fun c => fnd && hasC bb c)).length ≤ 1000) := hid (by rw [List.length_map, cps_len, List.length_take]; omega)
                clear hok0 hxv hm1 hx hnh
                go_wp2_with fail
                cases fnd with
                | false =>
                  have HXV : Hid ((false && hasC bb x.cp) = false) := hid rfl
                  generalize x.err = E at HSF
                  have HD := hid (below_drew wr)
                  refine wp_region_held_drew (S := (fun W => W.cell? ⟨g6, 0, none⟩ = some (.bool false) ∧ W.cell? ⟨g6, 3, none⟩ = some (.slice pb nb cb) ∧ W.cell? ⟨b, o + kk * 2, none⟩ = some (i64 E) ∧ W.cell? ⟨b, o + kk * 2 + 1, none⟩ = some (.slice p1 m1 c1) ∧ (convert 28 9 (.slice p1 m1 c1)).run Tryz.prog W = .ok (.string (ba x.bs)) W ∧ (convert 28 9 (.slice pb nb cb)).run Tryz.prog W = .ok (.string (ba bb)) W)) (by kernel_rfl) (HSF.out _ (HW.out.on HD.out).below (HW.out.on HD.out).c6 (HW.out.on HD.out).bf) (fun hHeld => ?_)
                  replace HW := hid (HW.out.on HD.out)
                  clear HD
                  generalize wr.drew = wd at HW hHeld ⊢
                  refine wpAnyH_take (i := 0) (oi := ⟨some 123, .fieldAddr 31 (.tmp 6) 3, _, _, _, none⟩) (v := .pointer (some ⟨g6, 4, none⟩)) rfl (by kernel_rfl) (by kernel_rfl) (by kernel_rfl) (fun _ _ _ h => h) (Or.inl ⟨by kernel_rfl, by intro W hW; obtain ⟨q0, q1, q2, q3, q4, q5⟩ := hW; go_simp⟩) hHeld ?_
                  refine wpAnyH_take (i := 2) (oi := ⟨some 125, .fieldAddr 31 (.tmp 6) 0, _, _, _, none⟩) (v := .pointer (some ⟨g6, 0, none⟩)) rfl (by kernel_rfl) (by kernel_rfl) (by kernel_rfl) (fun _ _ _ h => h) (Or.inl ⟨by kernel_rfl, by intro W hW; obtain ⟨q0, q1, q2, q3, q4, q5⟩ := hW; go_simp⟩) hHeld ?_
                  refine wpAnyH_take (i := 3) (oi := ⟨some 126, .load 4 (.tmp 125), _, _, _, none⟩) (v := .bool false) rfl (by kernel_rfl) (by kernel_rfl) (by kernel_rfl) (fun _ _ _ h => h) (Or.inl ⟨by kernel_rfl, by intro W hW; obtain ⟨q0, q1, q2, q3, q4, q5⟩ := hW; go_simp⟩) hHeld ?_
                  refine wpAnyH_take (i := 4) (oi := ⟨some 127, .move (.tmp 126), _, _, _, none⟩) (v := .bool false) rfl (by kernel_rfl) (by kernel_rfl) (by kernel_rfl) (fun _ _ _ h => h) (Or.inl ⟨by kernel_rfl, by intro W hW; obtain ⟨q0, q1, q2, q3, q4, q5⟩ := hW; go_simp⟩) hHeld ?_
                  refine wpAnyH_take (i := 5) (oi := ⟨some 128, .move (.tmp 0), _, _, _, some (4, true)⟩) (v := undef) rfl (by kernel_rfl) (by kernel_rfl) (by kernel_rfl) (fun _ _ _ h => h) (Or.inr ⟨by kernel_rfl, rfl⟩) hHeld ?_
                  refine wpAnyH_take (i := 6) (oi := ⟨some 129, .move (.tmp 12), _, _, _, some (4, true)⟩) (v := undef) rfl (by kernel_rfl) (by kernel_rfl) (by kernel_rfl) (fun _ _ _ h => h) (Or.inr ⟨by kernel_rfl, rfl⟩) hHeld ?_
                  refine wpAnyH_take (i := 7) (oi := ⟨some 130, .indexAddr 22 (.tmp 128) (.tmp 129), _, _, _, some (4, true)⟩) (v := undef) rfl (by kernel_rfl) (by kernel_rfl) (by kernel_rfl) (fun _ _ _ h => h) (Or.inr ⟨by kernel_rfl, rfl⟩) hHeld ?_
                  refine wpAnyH_take (i := 8) (oi := ⟨some 131, .fieldAddr 44 (.tmp 130) 0, _, _, _, some (4, true)⟩) (v := undef) rfl (by kernel_rfl) (by kernel_rfl) (by kernel_rfl) (fun _ _ _ h => h) (Or.inr ⟨by kernel_rfl, rfl⟩) hHeld ?_
                  refine wpAnyH_take (i := 9) (oi := ⟨some 132, .load 32 (.tmp 131), _, _, _, some (4, true)⟩) (v := undef) rfl (by kernel_rfl) (by kernel_rfl) (by kernel_rfl) (fun _ _ _ h => h) (Or.inr ⟨by kernel_rfl, rfl⟩) hHeld ?_
                  refine wpAnyH_take (i := 10) (oi := ⟨some 133, .binOp .eql 32 (.tmp 132) (.const (.int .i64 0)) 32, _, _, _, some (4, true)⟩) (v := undef) rfl (by kernel_rfl) (by kernel_rfl) (by kernel_rfl) (fun _ _ _ h => h) (Or.inr ⟨by kernel_rfl, rfl⟩) hHeld ?_
                  refine wpAnyH_take (i := 11) (oi := ⟨some 134, .pick (.tmp 127) (.tmp 133) (.const (.bool false)), _, _, _, none⟩) (v := .bool false) rfl (by kernel_rfl) (by kernel_rfl) (by kernel_rfl) (fun _ _ _ h => h) (Or.inl ⟨by kernel_rfl, by intro W hW; obtain ⟨q0, q1, q2, q3, q4, q5⟩ := hW; go_simp⟩) hHeld ?_
                  refine wpAnyH_take (i := 12) (oi := ⟨some 135, .move (.tmp 134), _, _, _, none⟩) (v := .bool false) rfl (by kernel_rfl) (by kernel_rfl) (by kernel_rfl) (fun _ _ _ h => h) (Or.inl ⟨by kernel_rfl, by intro W hW; obtain ⟨q0, q1, q2, q3, q4, q5⟩ := hW; go_simp⟩) hHeld ?_
                  refine wpAnyH_take (i := 13) (oi := ⟨some 136, .move (.tmp 0), _, _, _, some (12, true)⟩) (v := undef) rfl (by kernel_rfl) (by kernel_rfl) (by kernel_rfl) (fun _ _ _ h => h) (Or.inr ⟨by kernel_rfl, rfl⟩) hHeld ?_
                  refine wpAnyH_take (i := 14) (oi := ⟨some 137, .move (.tmp 12), _, _, _, some (12, true)⟩) (v := undef) rfl (by kernel_rfl) (by kernel_rfl) (by kernel_rfl) (fun _ _ _ h => h) (Or.inr ⟨by kernel_rfl, rfl⟩) hHeld ?_
                  refine wpAnyH_take (i := 15) (oi := ⟨some 138, .indexAddr 22 (.tmp 136) (.tmp 137), _, _, _, some (12, true)⟩) (v := undef) rfl (by kernel_rfl) (by kernel_rfl) (by kernel_rfl) (fun _ _ _ h => h) (Or.inr ⟨by kernel_rfl, rfl⟩) hHeld ?_
                  refine wpAnyH_take (i := 16) (oi := ⟨some 139, .fieldAddr 44 (.tmp 138) 1, _, _, _, some (12, true)⟩) (v := undef) rfl (by kernel_rfl) (by kernel_rfl) (by kernel_rfl) (fun _ _ _ h => h) (Or.inr ⟨by kernel_rfl, rfl⟩) hHeld ?_
                  refine wpAnyH_take (i := 17) (oi := ⟨some 140, .load 28 (.tmp 139), _, _, _, some (12, true)⟩) (v := undef) rfl (by kernel_rfl) (by kernel_rfl) (by kernel_rfl) (fun _ _ _ h => h) (Or.inr ⟨by kernel_rfl, rfl⟩) hHeld ?_
                  refine wpAnyH_take (i := 18) (oi := ⟨some 141, .convert 28 9 (.tmp 140), _, _, _, some (12, true)⟩) (v := undef) rfl (by kernel_rfl) (by kernel_rfl) (by kernel_rfl) (fun _ _ _ h => h) (Or.inr ⟨by kernel_rfl, rfl⟩) hHeld ?_
                  refine wpAnyH_take (i := 19) (oi := ⟨some 142, .fieldAddr 31 (.tmp 6) 2, _, _, _, some (12, true)⟩) (v := undef) rfl (by kernel_rfl) (by kernel_rfl) (by kernel_rfl) (fun _ _ _ h => h) (Or.inr ⟨by kernel_rfl, rfl⟩) hHeld ?_
                  refine wpAnyH_take (i := 20) (oi := ⟨some 143, .load 28 (.tmp 142), _, _, _, some (12, true)⟩) (v := undef) rfl (by kernel_rfl) (by kernel_rfl) (by kernel_rfl) (fun _ _ _ h => h) (Or.inr ⟨by kernel_rfl, rfl⟩) hHeld ?_
                  refine wpAnyH_take (i := 21) (oi := ⟨some 144, .convert 28 9 (.tmp 143), _, _, _, some (12, true)⟩) (v := undef) rfl (by kernel_rfl) (by kernel_rfl) (by kernel_rfl) (fun _ _ _ h => h) (Or.inr ⟨by kernel_rfl, rfl⟩) hHeld ?_
                  refine wpAnyH_take (i := 22) (oi := ⟨some 145, .binOp .eql 9 (.tmp 141) (.tmp 144) 9, _, _, _, some (12, true)⟩) (v := undef) rfl (by kernel_rfl) (by kernel_rfl) (by kernel_rfl) (fun _ _ _ h => h) (Or.inr ⟨by kernel_rfl, rfl⟩) hHeld ?_
                  refine wpAnyH_take (i := 23) (oi := ⟨some 146, .pick (.tmp 135) (.tmp 145) (.const (.bool false)), _, _, _, none⟩) (v := .bool false) rfl (by kernel_rfl) (by kernel_rfl) (by kernel_rfl) (fun _ _ _ h => h) (Or.inl ⟨by kernel_rfl, by intro W hW; obtain ⟨q0, q1, q2, q3, q4, q5⟩ := hW; go_simp⟩) hHeld ?_
                  obtain ⟨v13, w13, hr13, hp13, hg13, -⟩ := HW.out.hb.push false HLEN.out HW.out.below.size 29
                  have HO13 : Hid (Only (fun b => (Value.slice ph nh ch).ownBlock = some b) wd w13) := hid ((Only.alloc wd _).trans (Only.of_grown hg13 fun b e _ => e))
                  obtain ⟨p13, n13, c13, hf13⟩ : ∃ p n c, v13 = .slice p n c := by obtain ⟨a, c, e⟩ := hp13.form; exact ⟨a, _, c, e⟩
                  subst hf13
                  have HP13 := hid hp13
                  have HRUN := hid hr13
                  have HX13 := hid (HW.out.c6O HO13.out)
                  clear hr13 hp13 hg13
                  have k4 : wd.cell? ⟨g6, 4, none⟩ = some (.slice ph nh ch) := HW.out.c6.cell 4
                  have HA := hid (HW.out.on (below_al wd (.cells #[.bool false] 4)))
                  have k4b : (wd.alloc (.cells #[.bool false] 4)).cell? ⟨g6, 4, none⟩ = some (.slice ph nh ch) := HA.out.c6.cell 4
                  refine wpAnyH_ready (rs := [1, 24]) (by kernel_rfl) (by simp) ?_
                  refine AllReadyH.cons rfl (fun K hK => ?_) (AllReadyH.cons (o := ⟨some 147, .buildSlice 29 1 #[(0, .tmp 146)], _, _, _, none⟩) rfl (fun K hK => ?_) AllReadyH.nil)
                  · go_simp
                    refine hK.out _ _ (HSF.out _ HW.out.below HW.out.c6 HW.out.bf) (fun hHeld => ?_)
                    clear hK K
                    refine wpAnyH_ready (rs := [24]) (by kernel_rfl) (by simp) ?_
                    refine AllReadyH.cons (o := ⟨some 147, .buildSlice 29 1 #[(0, .tmp 146)], _, _, _, none⟩) rfl (fun K hK => ?_) AllReadyH.nil
                    with_reducible refine step_run_val ?_ (.slice (some ⟨wd.heap.size, 0, none⟩) 1 1) (wd.alloc (.cells #[.bool false] 4)) ?_ ?_
                    · exact rfl
                    · exact exec_bs1 rfl (by kernel_rfl)
                    refine hK.out _ _ (HSF.out _ HA.out.below HA.out.c6 HA.out.bf) (fun hHeld => ?_)
                    clear hK K
                    refine wpAnyH_ready (rs := [25]) (by kernel_rfl) (by simp) ?_
                    refine AllReadyH.cons (o := ⟨some 148, .call { callee := .builtin .append, args := #[.tmp 124, .tmp 147], argTypes := #[29, 29] }, 29, _, _, none⟩) rfl (fun K hK => ?_) AllReadyH.nil
                    with_reducible refine step_run_val ?_ (.slice p13 n13 c13) w13 ?_ ?_
                    · exact rfl
                    · exact exec_app rfl (by kernel_rfl) (by kernel_rfl) HRUN.out
                    refine hK.out _ _ (HSF.out _ HX13.out.2.1 HX13.out.1 HX13.out.2.2) (fun hHeld => ?_)
                    clear hK K
                    refine wpAnyH_take (i := 26) (oi := ⟨some 149, .fieldAddr 31 (.tmp 6) 3, _, _, _, none⟩) (v := .pointer (some ⟨g6, 4, none⟩)) rfl (by kernel_rfl) (by kernel_rfl) (by kernel_rfl) (fun _ _ _ h => h) (Or.inl ⟨by kernel_rfl, by intro W hW; obtain ⟨q0, q1, q2, q3, q4, q5⟩ := hW; go_simp⟩) hHeld ?_
                    refine wpAnyH_ready (rs := [27]) (by kernel_rfl) (by simp) ?_
                    refine AllReadyH.cons (o := ⟨none, .store 29 (.tmp 149) (.tmp 148), _, _, _, none⟩) rfl (fun K hK => ?_) AllReadyH.nil
                    with_reducible refine step_storeM 29 ?_ ?_ (.tmp 149) (.tmp 148) ?_ g6 4 ?_ (.slice p13 n13 c13) ?_ [.slice p13 n13 c13] ?_ ?_ ?_ HX13.out.1 ?_ (eC false s0 (.slice pv nv cv) (.slice pb nb cb) (.slice p13 n13 c13) q n0) ?_ ?_
                    · exact rfl
                    · exact rfl
                    · exact rfl
                    · kernel_rfl
                    · kernel_rfl
                    · exact rfl
                    · kernel_rfl
                    · simp [Value.oneCell']
                    · simp [eC]
                    · exact rfl
                    intro w15 h15 o15
                    have HW15 := hid (HW.out.fin HO13.out HP13.out h15 o15)
                    clear h15 o15
                    refine hK.out _ _ (HSF.out _ HW15.out.below HW15.out.c6 HW15.out.bf) (fun hHeld => ?_)
                    clear hK K
                    refine wpAnyH_done (by kernel_rfl) ?_ _
                    (try simp only [Act.put, List.setIfInBounds_toArray, List.set_cons_zero, List.set_cons_succ])
                    clear hHeld
                    go_wp2
                    go_roundg (n - (kk + 1))
                    case measure => omega
                    case rel => exact ⟨kk + 1, _, by omega, by omega, by go_num, hid (by rw [HNX.out, HXV.out]; exact HW15.out)⟩
                  · with_reducible refine step_run_val ?_ (.slice (some ⟨wd.heap.size, 0, none⟩) 1 1) (wd.alloc (.cells #[.bool false] 4)) ?_ ?_
                    · exact rfl
                    · exact exec_bs1 rfl (by kernel_rfl)
                    refine hK.out _ _ (HSF.out _ HA.out.below HA.out.c6 HA.out.bf) (fun hHeld => ?_)
                    clear hK K
                    refine wpAnyH_ready (rs := [1]) (by kernel_rfl) (by simp) ?_
                    refine AllReadyH.cons rfl (fun K hK => ?_) AllReadyH.nil
                    go_simp
                    refine hK.out _ _ (HSF.out _ HA.out.below HA.out.c6 HA.out.bf) (fun hHeld => ?_)
                    clear hK K
                    refine wpAnyH_ready (rs := [25]) (by kernel_rfl) (by simp) ?_
                    refine AllReadyH.cons (o := ⟨some 148, .call { callee := .builtin .append, args := #[.tmp 124, .tmp 147], argTypes := #[29, 29] }, 29, _, _, none⟩) rfl (fun K hK => ?_) AllReadyH.nil
                    with_reducible refine step_run_val ?_ (.slice p13 n13 c13) w13 ?_ ?_
                    · exact rfl
                    · exact exec_app rfl (by kernel_rfl) (by kernel_rfl) HRUN.out
                    refine hK.out _ _ (HSF.out _ HX13.out.2.1 HX13.out.1 HX13.out.2.2) (fun hHeld => ?_)
                    clear hK K
                    refine wpAnyH_take (i := 26) (oi := ⟨some 149, .fieldAddr 31 (.tmp 6) 3, _, _, _, none⟩) (v := .pointer (some ⟨g6, 4, none⟩)) rfl (by kernel_rfl) (by kernel_rfl) (by kernel_rfl) (fun _ _ _ h => h) (Or.inl ⟨by kernel_rfl, by intro W hW; obtain ⟨q0, q1, q2, q3, q4, q5⟩ := hW; go_simp⟩) hHeld ?_
                    refine wpAnyH_ready (rs := [27]) (by kernel_rfl) (by simp) ?_
                    refine AllReadyH.cons (o := ⟨none, .store 29 (.tmp 149) (.tmp 148), _, _, _, none⟩) rfl (fun K hK => ?_) AllReadyH.nil
                    with_reducible refine step_storeM 29 ?_ ?_ (.tmp 149) (.tmp 148) ?_ g6 4 ?_ (.slice p13 n13 c13) ?_ [.slice p13 n13 c13] ?_ ?_ ?_ HX13.out.1 ?_ (eC false s0 (.slice pv nv cv) (.slice pb nb cb) (.slice p13 n13 c13) q n0) ?_ ?_
                    · exact rfl
                    · exact rfl
                    · exact rfl
                    · kernel_rfl
                    · kernel_rfl
                    · exact rfl
                    · kernel_rfl
                    · simp [Value.oneCell']
                    · simp [eC]
                    · exact rfl
                    intro w15 h15 o15
                    have HW15 := hid (HW.out.fin HO13.out HP13.out h15 o15)
                    clear h15 o15
                    refine hK.out _ _ (HSF.out _ HW15.out.below HW15.out.c6 HW15.out.bf) (fun hHeld => ?_)
                    clear hK K
                    refine wpAnyH_done (by kernel_rfl) ?_ _
                    (try simp only [Act.put, List.setIfInBounds_toArray, List.set_cons_zero, List.set_cons_succ])
                    clear hHeld
                    go_wp2
                    go_roundg (n - (kk + 1))
                    case measure => omega
                    case rel => exact ⟨kk + 1, _, by omega, by omega, by go_num, hid (by rw [HNX.out, HXV.out]; exact HW15.out)⟩
                | true =>
                  by_cases hE : x.err = 0
                  · rw [hE] at HSF
                    have hh : hasC bb x.cp = decide (x.bs = bb) := by unfold hasC; rw [decide_eq_true (show x.cp.err = 0 from hE)]; rfl
                    clear hE
                    cases hd : decide (x.bs = bb) with
                    | true =>
                      rw [hd] at hse hh
                      have HXV : Hid ((true && hasC bb x.cp) = true) := hid (by rw [hh]; rfl)
                      clear hh
                      have HD := hid (below_drew wr)
                      refine wp_region_held_drew (S := (fun W => W.cell? ⟨g6, 0, none⟩ = some (.bool true) ∧ W.cell? ⟨g6, 3, none⟩ = some (.slice pb nb cb) ∧ W.cell? ⟨b, o + kk * 2, none⟩ = some (i64 0) ∧ W.cell? ⟨b, o + kk * 2 + 1, none⟩ = some (.slice p1 m1 c1) ∧ (convert 28 9 (.slice p1 m1 c1)).run Tryz.prog W = .ok (.string (ba x.bs)) W ∧ (convert 28 9 (.slice pb nb cb)).run Tryz.prog W = .ok (.string (ba bb)) W)) (by kernel_rfl) (HSF.out _ (HW.out.on HD.out).below (HW.out.on HD.out).c6 (HW.out.on HD.out).bf) (fun hHeld => ?_)
                      replace HW := hid (HW.out.on HD.out)
                      clear HD
                      generalize wr.drew = wd at HW hHeld ⊢
                      refine wpAnyH_take (i := 0) (oi := ⟨some 123, .fieldAddr 31 (.tmp 6) 3, _, _, _, none⟩) (v := .pointer (some ⟨g6, 4, none⟩)) rfl (by kernel_rfl) (by kernel_rfl) (by kernel_rfl) (fun _ _ _ h => h) (Or.inl ⟨by kernel_rfl, by intro W hW; obtain ⟨q0, q1, q2, q3, q4, q5⟩ := hW; go_simp⟩) hHeld ?_
                      refine wpAnyH_take (i := 2) (oi := ⟨some 125, .fieldAddr 31 (.tmp 6) 0, _, _, _, none⟩) (v := .pointer (some ⟨g6, 0, none⟩)) rfl (by kernel_rfl) (by kernel_rfl) (by kernel_rfl) (fun _ _ _ h => h) (Or.inl ⟨by kernel_rfl, by intro W hW; obtain ⟨q0, q1, q2, q3, q4, q5⟩ := hW; go_simp⟩) hHeld ?_
                      refine wpAnyH_take (i := 3) (oi := ⟨some 126, .load 4 (.tmp 125), _, _, _, none⟩) (v := .bool true) rfl (by kernel_rfl) (by kernel_rfl) (by kernel_rfl) (fun _ _ _ h => h) (Or.inl ⟨by kernel_rfl, by intro W hW; obtain ⟨q0, q1, q2, q3, q4, q5⟩ := hW; go_simp⟩) hHeld ?_
                      refine wpAnyH_take (i := 4) (oi := ⟨some 127, .move (.tmp 126), _, _, _, none⟩) (v := .bool true) rfl (by kernel_rfl) (by kernel_rfl) (by kernel_rfl) (fun _ _ _ h => h) (Or.inl ⟨by kernel_rfl, by intro W hW; obtain ⟨q0, q1, q2, q3, q4, q5⟩ := hW; go_simp⟩) hHeld ?_
                      refine wpAnyH_take (i := 5) (oi := ⟨some 128, .move (.tmp 0), _, _, _, some (4, true)⟩) (v := .slice (some ⟨b, o, none⟩) n c) rfl (by kernel_rfl) (by kernel_rfl) (by kernel_rfl) (fun _ _ _ h => h) (Or.inl ⟨by kernel_rfl, by intro W hW; obtain ⟨q0, q1, q2, q3, q4, q5⟩ := hW; go_simp⟩) hHeld ?_
                      refine wpAnyH_take (i := 6) (oi := ⟨some 129, .move (.tmp 12), _, _, _, some (4, true)⟩) (v := i64 kk) rfl (by kernel_rfl) (by kernel_rfl) (by kernel_rfl) (fun _ _ _ h => h) (Or.inl ⟨by kernel_rfl, by intro W hW; obtain ⟨q0, q1, q2, q3, q4, q5⟩ := hW; go_simp⟩) hHeld ?_
                      refine wpAnyH_take (i := 7) (oi := ⟨some 130, .indexAddr 22 (.tmp 128) (.tmp 129), _, _, _, some (4, true)⟩) (v := .pointer (some ⟨b, o + kk * 2, none⟩)) rfl (by kernel_rfl) (by kernel_rfl) (by kernel_rfl) (fun _ _ _ h => h) (Or.inl ⟨by kernel_rfl, by intro W hW; obtain ⟨q0, q1, q2, q3, q4, q5⟩ := hW; go_simp⟩) hHeld ?_
                      refine wpAnyH_take (i := 8) (oi := ⟨some 131, .fieldAddr 44 (.tmp 130) 0, _, _, _, some (4, true)⟩) (v := .pointer (some ⟨b, o + kk * 2, none⟩)) rfl (by kernel_rfl) (by kernel_rfl) (by kernel_rfl) (fun _ _ _ h => h) (Or.inl ⟨by kernel_rfl, by intro W hW; obtain ⟨q0, q1, q2, q3, q4, q5⟩ := hW; go_simp⟩) hHeld ?_
                      refine wpAnyH_take (i := 9) (oi := ⟨some 132, .load 32 (.tmp 131), _, _, _, some (4, true)⟩) (v := i64 0) rfl (by kernel_rfl) (by kernel_rfl) (by kernel_rfl) (fun _ _ _ h => h) (Or.inl ⟨by kernel_rfl, by intro W hW; obtain ⟨q0, q1, q2, q3, q4, q5⟩ := hW; go_simp⟩) hHeld ?_
                      refine wpAnyH_take (i := 10) (oi := ⟨some 133, .binOp .eql 32 (.tmp 132) (.const (.int .i64 0)) 32, _, _, _, some (4, true)⟩) (v := .bool true) rfl (by kernel_rfl) (by kernel_rfl) (by kernel_rfl) (fun _ _ _ h => h) (Or.inl ⟨by kernel_rfl, by intro W hW; obtain ⟨q0, q1, q2, q3, q4, q5⟩ := hW; go_simp⟩) hHeld ?_
                      refine wpAnyH_take (i := 11) (oi := ⟨some 134, .pick (.tmp 127) (.tmp 133) (.const (.bool false)), _, _, _, none⟩) (v := .bool true) rfl (by kernel_rfl) (by kernel_rfl) (by kernel_rfl) (fun _ _ _ h => h) (Or.inl ⟨by kernel_rfl, by intro W hW; obtain ⟨q0, q1, q2, q3, q4, q5⟩ := hW; go_simp⟩) hHeld ?_
                      refine wpAnyH_take (i := 12) (oi := ⟨some 135, .move (.tmp 134), _, _, _, none⟩) (v := .bool true) rfl (by kernel_rfl) (by kernel_rfl) (by kernel_rfl) (fun _ _ _ h => h) (Or.inl ⟨by kernel_rfl, by intro W hW; obtain ⟨q0, q1, q2, q3, q4, q5⟩ := hW; go_simp⟩) hHeld ?_
                      refine wpAnyH_take (i := 13) (oi := ⟨some 136, .move (.tmp 0), _, _, _, some (12, true)⟩) (v := .slice (some ⟨b, o, none⟩) n c) rfl (by kernel_rfl) (by kernel_rfl) (by kernel_rfl) (fun _ _ _ h => h) (Or.inl ⟨by kernel_rfl, by intro W hW; obtain ⟨q0, q1, q2, q3, q4, q5⟩ := hW; go_simp⟩) hHeld ?_
                      refine wpAnyH_take (i := 14) (oi := ⟨some 137, .move (.tmp 12), _, _, _, some (12, true)⟩) (v := i64 kk) rfl (by kernel_rfl) (by kernel_rfl) (by kernel_rfl) (fun _ _ _ h => h) (Or.inl ⟨by kernel_rfl, by intro W hW; obtain ⟨q0, q1, q2, q3, q4, q5⟩ := hW; go_simp⟩) hHeld ?_
                      refine wpAnyH_take (i := 15) (oi := ⟨some 138, .indexAddr 22 (.tmp 136) (.tmp 137), _, _, _, some (12, true)⟩) (v := .pointer (some ⟨b, o + kk * 2, none⟩)) rfl (by kernel_rfl) (by kernel_rfl) (by kernel_rfl) (fun _ _ _ h => h) (Or.inl ⟨by kernel_rfl, by intro W hW; obtain ⟨q0, q1, q2, q3, q4, q5⟩ := hW; go_simp⟩) hHeld ?_
                      refine wpAnyH_take (i := 16) (oi := ⟨some 139, .fieldAddr 44 (.tmp 138) 1, _, _, _, some (12, true)⟩) (v := .pointer (some ⟨b, o + kk * 2 + 1, none⟩)) rfl (by kernel_rfl) (by kernel_rfl) (by kernel_rfl) (fun _ _ _ h => h) (Or.inl ⟨by kernel_rfl, by intro W hW; obtain ⟨q0, q1, q2, q3, q4, q5⟩ := hW; go_simp⟩) hHeld ?_
                      refine wpAnyH_take (i := 17) (oi := ⟨some 140, .load 28 (.tmp 139), _, _, _, some (12, true)⟩) (v := .slice p1 m1 c1) rfl (by kernel_rfl) (by kernel_rfl) (by kernel_rfl) (fun _ _ _ h => h) (Or.inl ⟨by kernel_rfl, by intro W hW; obtain ⟨q0, q1, q2, q3, q4, q5⟩ := hW; go_simp⟩) hHeld ?_
                      refine wpAnyH_take (i := 18) (oi := ⟨some 141, .convert 28 9 (.tmp 140), _, _, _, some (12, true)⟩) (v := .string (ba x.bs)) rfl (by kernel_rfl) (by kernel_rfl) (by kernel_rfl) (fun _ _ _ h => h) (Or.inl ⟨by kernel_rfl, by intro W hW; obtain ⟨q0, q1, q2, q3, q4, q5⟩ := hW; go_simp⟩) hHeld ?_
                      refine wpAnyH_take (i := 19) (oi := ⟨some 142, .fieldAddr 31 (.tmp 6) 2, _, _, _, some (12, true)⟩) (v := .pointer (some ⟨g6, 3, none⟩)) rfl (by kernel_rfl) (by kernel_rfl) (by kernel_rfl) (fun _ _ _ h => h) (Or.inl ⟨by kernel_rfl, by intro W hW; obtain ⟨q0, q1, q2, q3, q4, q5⟩ := hW; go_simp⟩) hHeld ?_
                      refine wpAnyH_take (i := 20) (oi := ⟨some 143, .load 28 (.tmp 142), _, _, _, some (12, true)⟩) (v := .slice pb nb cb) rfl (by kernel_rfl) (by kernel_rfl) (by kernel_rfl) (fun _ _ _ h => h) (Or.inl ⟨by kernel_rfl, by intro W hW; obtain ⟨q0, q1, q2, q3, q4, q5⟩ := hW; go_simp⟩) hHeld ?_
                      refine wpAnyH_take (i := 21) (oi := ⟨some 144, .convert 28 9 (.tmp 143), _, _, _, some (12, true)⟩) (v := .string (ba bb)) rfl (by kernel_rfl) (by kernel_rfl) (by kernel_rfl) (fun _ _ _ h => h) (Or.inl ⟨by kernel_rfl, by intro W hW; obtain ⟨q0, q1, q2, q3, q4, q5⟩ := hW; go_simp⟩) hHeld ?_
                      refine wpAnyH_take (i := 22) (oi := ⟨some 145, .binOp .eql 9 (.tmp 141) (.tmp 144) 9, _, _, _, some (12, true)⟩) (v := .bool true) rfl (by kernel_rfl) (by kernel_rfl) (by kernel_rfl) (fun _ _ _ h => h) (Or.inl ⟨by kernel_rfl, by intro W hW; obtain ⟨q0, q1, q2, q3, q4, q5⟩ := hW; go_simp⟩) hHeld ?_
                      refine wpAnyH_take (i := 23) (oi := ⟨some 146, .pick (.tmp 135) (.tmp 145) (.const (.bool false)), _, _, _, none⟩) (v := .bool true) rfl (by kernel_rfl) (by kernel_rfl) (by kernel_rfl) (fun _ _ _ h => h) (Or.inl ⟨by kernel_rfl, by intro W hW; obtain ⟨q0, q1, q2, q3, q4, q5⟩ := hW; go_simp⟩) hHeld ?_
                      obtain ⟨v13, w13, hr13, hp13, hg13, -⟩ := HW.out.hb.push true HLEN.out HW.out.below.size 29
                      have HO13 : Hid (Only (fun b => (Value.slice ph nh ch).ownBlock = some b) wd w13) := hid ((Only.alloc wd _).trans (Only.of_grown hg13 fun b e _ => e))
                      obtain ⟨p13, n13, c13, hf13⟩ : ∃ p n c, v13 = .slice p n c := by obtain ⟨a, c, e⟩ := hp13.form; exact ⟨a, _, c, e⟩
                      subst hf13
                      have HP13 := hid hp13
                      have HRUN := hid hr13
                      have HX13 := hid (HW.out.c6O HO13.out)
                      clear hr13 hp13 hg13
                      have k4 : wd.cell? ⟨g6, 4, none⟩ = some (.slice ph nh ch) := HW.out.c6.cell 4
                      have HA := hid (HW.out.on (below_al wd (.cells #[.bool true] 4)))
                      have k4b : (wd.alloc (.cells #[.bool true] 4)).cell? ⟨g6, 4, none⟩ = some (.slice ph nh ch) := HA.out.c6.cell 4
                      refine wpAnyH_ready (rs := [1, 24]) (by kernel_rfl) (by simp) ?_
                      refine AllReadyH.cons rfl (fun K hK => ?_) (AllReadyH.cons (o := ⟨some 147, .buildSlice 29 1 #[(0, .tmp 146)], _, _, _, none⟩) rfl (fun K hK => ?_) AllReadyH.nil)
                      · go_simp
                        refine hK.out _ _ (HSF.out _ HW.out.below HW.out.c6 HW.out.bf) (fun hHeld => ?_)
                        clear hK K
                        refine wpAnyH_ready (rs := [24]) (by kernel_rfl) (by simp) ?_
                        refine AllReadyH.cons (o := ⟨some 147, .buildSlice 29 1 #[(0, .tmp 146)], _, _, _, none⟩) rfl (fun K hK => ?_) AllReadyH.nil
                        with_reducible refine step_run_val ?_ (.slice (some ⟨wd.heap.size, 0, none⟩) 1 1) (wd.alloc (.cells #[.bool true] 4)) ?_ ?_
                        · exact rfl
                        · exact exec_bs1 rfl (by kernel_rfl)
                        refine hK.out _ _ (HSF.out _ HA.out.below HA.out.c6 HA.out.bf) (fun hHeld => ?_)
                        clear hK K
                        refine wpAnyH_ready (rs := [25]) (by kernel_rfl) (by simp) ?_
                        refine AllReadyH.cons (o := ⟨some 148, .call { callee := .builtin .append, args := #[.tmp 124, .tmp 147], argTypes := #[29, 29] }, 29, _, _, none⟩) rfl (fun K hK => ?_) AllReadyH.nil
                        with_reducible refine step_run_val ?_ (.slice p13 n13 c13) w13 ?_ ?_
                        · exact rfl
                        · exact exec_app rfl (by kernel_rfl) (by kernel_rfl) HRUN.out
                        refine hK.out _ _ (HSF.out _ HX13.out.2.1 HX13.out.1 HX13.out.2.2) (fun hHeld => ?_)
                        clear hK K
                        refine wpAnyH_take (i := 26) (oi := ⟨some 149, .fieldAddr 31 (.tmp 6) 3, _, _, _, none⟩) (v := .pointer (some ⟨g6, 4, none⟩)) rfl (by kernel_rfl) (by kernel_rfl) (by kernel_rfl) (fun _ _ _ h => h) (Or.inl ⟨by kernel_rfl, by intro W hW; obtain ⟨q0, q1, q2, q3, q4, q5⟩ := hW; go_simp⟩) hHeld ?_
                        refine wpAnyH_ready (rs := [27]) (by kernel_rfl) (by simp) ?_
                        refine AllReadyH.cons (o := ⟨none, .store 29 (.tmp 149) (.tmp 148), _, _, _, none⟩) rfl (fun K hK => ?_) AllReadyH.nil
                        with_reducible refine step_storeM 29 ?_ ?_ (.tmp 149) (.tmp 148) ?_ g6 4 ?_ (.slice p13 n13 c13) ?_ [.slice p13 n13 c13] ?_ ?_ ?_ HX13.out.1 ?_ (eC true s0 (.slice pv nv cv) (.slice pb nb cb) (.slice p13 n13 c13) q n0) ?_ ?_
                        · exact rfl
                        · exact rfl
                        · exact rfl
                        · kernel_rfl
                        · kernel_rfl
                        · exact rfl
                        · kernel_rfl
                        · simp [Value.oneCell']
                        · simp [eC]
                        · exact rfl
                        intro w15 h15 o15
                        have HW15 := hid (HW.out.fin HO13.out HP13.out h15 o15)
                        clear h15 o15
                        refine hK.out _ _ (HSF.out _ HW15.out.below HW15.out.c6 HW15.out.bf) (fun hHeld => ?_)
                        clear hK K
                        refine wpAnyH_done (by kernel_rfl) ?_ _
                        (try simp only [Act.put, List.setIfInBounds_toArray, List.set_cons_zero, List.set_cons_succ])
                        clear hHeld
                        go_wp2
                        go_roundg (n - (kk + 1))
                        case measure => omega
                        case rel => exact ⟨kk + 1, _, by omega, by omega, by go_num, hid (by rw [HNX.out, HXV.out]; exact HW15.out)⟩
                      · with_reducible refine step_run_val ?_ (.slice (some ⟨wd.heap.size, 0, none⟩) 1 1) (wd.alloc (.cells #[.bool true] 4)) ?_ ?_
                        · exact rfl
                        · exact exec_bs1 rfl (by kernel_rfl)
                        refine hK.out _ _ (HSF.out _ HA.out.below HA.out.c6 HA.out.bf) (fun hHeld => ?_)
                        clear hK K
                        refine wpAnyH_ready (rs := [1]) (by kernel_rfl) (by simp) ?_
                        refine AllReadyH.cons rfl (fun K hK => ?_) AllReadyH.nil
                        go_simp
                        refine hK.out _ _ (HSF.out _ HA.out.below HA.out.c6 HA.out.bf) (fun hHeld => ?_)
                        clear hK K
                        refine wpAnyH_ready (rs := [25]) (by kernel_rfl) (by simp) ?_
                        refine AllReadyH.cons (o := ⟨some 148, .call { callee := .builtin .append, args := #[.tmp 124, .tmp 147], argTypes := #[29, 29] }, 29, _, _, none⟩) rfl (fun K hK => ?_) AllReadyH.nil
                        with_reducible refine step_run_val ?_ (.slice p13 n13 c13) w13 ?_ ?_
                        · exact rfl
                        · exact exec_app rfl (by kernel_rfl) (by kernel_rfl) HRUN.out
                        refine hK.out _ _ (HSF.out _ HX13.out.2.1 HX13.out.1 HX13.out.2.2) (fun hHeld => ?_)
                        clear hK K
                        refine wpAnyH_take (i := 26) (oi := ⟨some 149, .fieldAddr 31 (.tmp 6) 3, _, _, _, none⟩) (v := .pointer (some ⟨g6, 4, none⟩)) rfl (by kernel_rfl) (by kernel_rfl) (by kernel_rfl) (fun _ _ _ h => h) (Or.inl ⟨by kernel_rfl, by intro W hW; obtain ⟨q0, q1, q2, q3, q4, q5⟩ := hW; go_simp⟩) hHeld ?_
                        refine wpAnyH_ready (rs := [27]) (by kernel_rfl) (by simp) ?_
                        refine AllReadyH.cons (o := ⟨none, .store 29 (.tmp 149) (.tmp 148), _, _, _, none⟩) rfl (fun K hK => ?_) AllReadyH.nil
                        with_reducible refine step_storeM 29 ?_ ?_ (.tmp 149) (.tmp 148) ?_ g6 4 ?_ (.slice p13 n13 c13) ?_ [.slice p13 n13 c13] ?_ ?_ ?_ HX13.out.1 ?_ (eC true s0 (.slice pv nv cv) (.slice pb nb cb) (.slice p13 n13 c13) q n0) ?_ ?_
                        · exact rfl
                        · exact rfl
                        · exact rfl
                        · kernel_rfl
                        · kernel_rfl
                        · exact rfl
                        · kernel_rfl
                        · simp [Value.oneCell']
                        · simp [eC]
                        · exact rfl
                        intro w15 h15 o15
                        have HW15 := hid (HW.out.fin HO13.out HP13.out h15 o15)
                        clear h15 o15
                        refine hK.out _ _ (HSF.out _ HW15.out.below HW15.out.c6 HW15.out.bf) (fun hHeld => ?_)
                        clear hK K
                        refine wpAnyH_done (by kernel_rfl) ?_ _
                        (try simp only [Act.put, List.setIfInBounds_toArray, List.set_cons_zero, List.set_cons_succ])
                        clear hHeld
                        go_wp2
                        go_roundg (n - (kk + 1))
                        case measure => omega
                        case rel => exact ⟨kk + 1, _, by omega, by omega, by go_num, hid (by rw [HNX.out, HXV.out]; exact HW15.out)⟩
                    | false =>
                      rw [hd] at hse hh
                      have HXV : Hid ((true && hasC bb x.cp) = false) := hid (by rw [hh]; rfl)
                      clear hh
                      have HD := hid (below_drew wr)
                      refine wp_region_held_drew (S := (fun W => W.cell? ⟨g6, 0, none⟩ = some (.bool true) ∧ W.cell? ⟨g6, 3, none⟩ = some (.slice pb nb cb) ∧ W.cell? ⟨b, o + kk * 2, none⟩ = some (i64 0) ∧ W.cell? ⟨b, o + kk * 2 + 1, none⟩ = some (.slice p1 m1 c1) ∧ (convert 28 9 (.slice p1 m1 c1)).run Tryz.prog W = .ok (.string (ba x.bs)) W ∧ (convert 28 9 (.slice pb nb cb)).run Tryz.prog W = .ok (.string (ba bb)) W)) (by kernel_rfl) (HSF.out _ (HW.out.on HD.out).below (HW.out.on HD.out).c6 (HW.out.on HD.out).bf) (fun hHeld => ?_)
                      replace HW := hid (HW.out.on HD.out)
                      clear HD
                      generalize wr.drew = wd at HW hHeld ⊢
                      refine wpAnyH_take (i := 0) (oi := ⟨some 123, .fieldAddr 31 (.tmp 6) 3, _, _, _, none⟩) (v := .pointer (some ⟨g6, 4, none⟩)) rfl (by kernel_rfl) (by kernel_rfl) (by kernel_rfl) (fun _ _ _ h => h) (Or.inl ⟨by kernel_rfl, by intro W hW; obtain ⟨q0, q1, q2, q3, q4, q5⟩ := hW; go_simp⟩) hHeld ?_
                      refine wpAnyH_take (i := 2) (oi := ⟨some 125, .fieldAddr 31 (.tmp 6) 0, _, _, _, none⟩) (v := .pointer (some ⟨g6, 0, none⟩)) rfl (by kernel_rfl) (by kernel_rfl) (by kernel_rfl) (fun _ _ _ h => h) (Or.inl ⟨by kernel_rfl, by intro W hW; obtain ⟨q0, q1, q2, q3, q4, q5⟩ := hW; go_simp⟩) hHeld ?_
                      refine wpAnyH_take (i := 3) (oi := ⟨some 126, .load 4 (.tmp 125), _, _, _, none⟩) (v := .bool true) rfl (by kernel_rfl) (by kernel_rfl) (by kernel_rfl) (fun _ _ _ h => h) (Or.inl ⟨by kernel_rfl, by intro W hW; obtain ⟨q0, q1, q2, q3, q4, q5⟩ := hW; go_simp⟩) hHeld ?_
                      refine wpAnyH_take (i := 4) (oi := ⟨some 127, .move (.tmp 126), _, _, _, none⟩) (v := .bool true) rfl (by kernel_rfl) (by kernel_rfl) (by kernel_rfl) (fun _ _ _ h => h) (Or.inl ⟨by kernel_rfl, by intro W hW; obtain ⟨q0, q1, q2, q3, q4, q5⟩ := hW; go_simp⟩) hHeld ?_
                      refine wpAnyH_take (i := 5) (oi := ⟨some 128, .move (.tmp 0), _, _, _, some (4, true)⟩) (v := .slice (some ⟨b, o, none⟩) n c) rfl (by kernel_rfl) (by kernel_rfl) (by kernel_rfl) (fun _ _ _ h => h) (Or.inl ⟨by kernel_rfl, by intro W hW; obtain ⟨q0, q1, q2, q3, q4, q5⟩ := hW; go_simp⟩) hHeld ?_
                      refine wpAnyH_take (i := 6) (oi := ⟨some 129, .move (.tmp 12), _, _, _, some (4, true)⟩) (v := i64 kk) rfl (by kernel_rfl) (by kernel_rfl) (by kernel_rfl) (fun _ _ _ h => h) (Or.inl ⟨by kernel_rfl, by intro W hW; obtain ⟨q0, q1, q2, q3, q4, q5⟩ := hW; go_simp⟩) hHeld ?_
                      refine wpAnyH_take (i := 7) (oi := ⟨some 130, .indexAddr 22 (.tmp 128) (.tmp 129), _, _, _, some (4, true)⟩) (v := .pointer (some ⟨b, o + kk * 2, none⟩)) rfl (by kernel_rfl) (by kernel_rfl) (by kernel_rfl) (fun _ _ _ h => h) (Or.inl ⟨by kernel_rfl, by intro W hW; obtain ⟨q0, q1, q2, q3, q4, q5⟩ := hW; go_simp⟩) hHeld ?_
                      refine wpAnyH_take (i := 8) (oi := ⟨some 131, .fieldAddr 44 (.tmp 130) 0, _, _, _, some (4, true)⟩) (v := .pointer (some ⟨b, o + kk * 2, none⟩)) rfl (by kernel_rfl) (by kernel_rfl) (by kernel_rfl) (fun _ _ _ h => h) (Or.inl ⟨by kernel_rfl, by intro W hW; obtain ⟨q0, q1, q2, q3, q4, q5⟩ := hW; go_simp⟩) hHeld ?_
                      refine wpAnyH_take (i := 9) (oi := ⟨some 132, .load 32 (.tmp 131), _, _, _, some (4, true)⟩) (v := i64 0) rfl (by kernel_rfl) (by kernel_rfl) (by kernel_rfl) (fun _ _ _ h => h) (Or.inl ⟨by kernel_rfl, by intro W hW; obtain ⟨q0, q1, q2, q3, q4, q5⟩ := hW; go_simp⟩) hHeld ?_
                      refine wpAnyH_take (i := 10) (oi := ⟨some 133, .binOp .eql 32 (.tmp 132) (.const (.int .i64 0)) 32, _, _, _, some (4, true)⟩) (v := .bool true) rfl (by kernel_rfl) (by kernel_rfl) (by kernel_rfl) (fun _ _ _ h => h) (Or.inl ⟨by kernel_rfl, by intro W hW; obtain ⟨q0, q1, q2, q3, q4, q5⟩ := hW; go_simp⟩) hHeld ?_
                      refine wpAnyH_take (i := 11) (oi := ⟨some 134, .pick (.tmp 127) (.tmp 133) (.const (.bool false)), _, _, _, none⟩) (v := .bool true) rfl (by kernel_rfl) (by kernel_rfl) (by kernel_rfl) (fun _ _ _ h => h) (Or.inl ⟨by kernel_rfl, by intro W hW; obtain ⟨q0, q1, q2, q3, q4, q5⟩ := hW; go_simp⟩) hHeld ?_
                      refine wpAnyH_take (i := 12) (oi := ⟨some 135, .move (.tmp 134), _, _, _, none⟩) (v := .bool true) rfl (by kernel_rfl) (by kernel_rfl) (by kernel_rfl) (fun _ _ _ h => h) (Or.inl ⟨by kernel_rfl, by intro W hW; obtain ⟨q0, q1, q2, q3, q4, q5⟩ := hW; go_simp⟩) hHeld ?_
                      refine wpAnyH_take (i := 13) (oi := ⟨some 136, .move (.tmp 0), _, _, _, some (12, true)⟩) (v := .slice (some ⟨b, o, none⟩) n c) rfl (by kernel_rfl) (by kernel_rfl) (by kernel_rfl) (fun _ _ _ h => h) (Or.inl ⟨by kernel_rfl, by intro W hW; obtain ⟨q0, q1, q2, q3, q4, q5⟩ := hW; go_simp⟩) hHeld ?_
                      refine wpAnyH_take (i := 14) (oi := ⟨some 137, .move (.tmp 12), _, _, _, some (12, true)⟩) (v := i64 kk) rfl (by kernel_rfl) (by kernel_rfl) (by kernel_rfl) (fun _ _ _ h => h) (Or.inl ⟨by kernel_rfl, by intro W hW; obtain ⟨q0, q1, q2, q3, q4, q5⟩ := hW; go_simp⟩) hHeld ?_
                      refine wpAnyH_take (i := 15) (oi := ⟨some 138, .indexAddr 22 (.tmp 136) (.tmp 137), _, _, _, some (12, true)⟩) (v := .pointer (some ⟨b, o + kk * 2, none⟩)) rfl (by kernel_rfl) (by kernel_rfl) (by kernel_rfl) (fun _ _ _ h => h) (Or.inl ⟨by kernel_rfl, by intro W hW; obtain ⟨q0, q1, q2, q3, q4, q5⟩ := hW; go_simp⟩) hHeld ?_
                      refine wpAnyH_take (i := 16) (oi := ⟨some 139, .fieldAddr 44 (.tmp 138) 1, _, _, _, some (12, true)⟩) (v := .pointer (some ⟨b, o + kk * 2 + 1, none⟩)) rfl (by kernel_rfl) (by kernel_rfl) (by kernel_rfl) (fun _ _ _ h => h) (Or.inl ⟨by kernel_rfl, by intro W hW; obtain ⟨q0, q1, q2, q3, q4, q5⟩ := hW; go_simp⟩) hHeld ?_
                      refine wpAnyH_take (i := 17) (oi := ⟨some 140, .load 28 (.tmp 139), _, _, _, some (12, true)⟩) (v := .slice p1 m1 c1) rfl (by kernel_rfl) (by kernel_rfl) (by kernel_rfl) (fun _ _ _ h => h) (Or.inl ⟨by kernel_rfl, by intro W hW; obtain ⟨q0, q1, q2, q3, q4, q5⟩ := hW; go_simp⟩) hHeld ?_
                      refine wpAnyH_take (i := 18) (oi := ⟨some 141, .convert 28 9 (.tmp 140), _, _, _, some (12, true)⟩) (v := .string (ba x.bs)) rfl (by kernel_rfl) (by kernel_rfl) (by kernel_rfl) (fun _ _ _ h => h) (Or.inl ⟨by kernel_rfl, by intro W hW; obtain ⟨q0, q1, q2, q3, q4, q5⟩ := hW; go_simp⟩) hHeld ?_
                      refine wpAnyH_take (i := 19) (oi := ⟨some 142, .fieldAddr 31 (.tmp 6) 2, _, _, _, some (12, true)⟩) (v := .pointer (some ⟨g6, 3, none⟩)) rfl (by kernel_rfl) (by kernel_rfl) (by kernel_rfl) (fun _ _ _ h => h) (Or.inl ⟨by kernel_rfl, by intro W hW; obtain ⟨q0, q1, q2, q3, q4, q5⟩ := hW; go_simp⟩) hHeld ?_
                      refine wpAnyH_take (i := 20) (oi := ⟨some 143, .load 28 (.tmp 142), _, _, _, some (12, true)⟩) (v := .slice pb nb cb) rfl (by kernel_rfl) (by kernel_rfl) (by kernel_rfl) (fun _ _ _ h => h) (Or.inl ⟨by kernel_rfl, by intro W hW; obtain ⟨q0, q1, q2, q3, q4, q5⟩ := hW; go_simp⟩) hHeld ?_
                      refine wpAnyH_take (i := 21) (oi := ⟨some 144, .convert 28 9 (.tmp 143), _, _, _, some (12, true)⟩) (v := .string (ba bb)) rfl (by kernel_rfl) (by kernel_rfl) (by kernel_rfl) (fun _ _ _ h => h) (Or.inl ⟨by kernel_rfl, by intro W hW; obtain ⟨q0, q1, q2, q3, q4, q5⟩ := hW; go_simp⟩) hHeld ?_
                      refine wpAnyH_take (i := 22) (oi := ⟨some 145, .binOp .eql 9 (.tmp 141) (.tmp 144) 9, _, _, _, some (12, true)⟩) (v := .bool false) rfl (by kernel_rfl) (by kernel_rfl) (by kernel_rfl) (fun _ _ _ h => h) (Or.inl ⟨by kernel_rfl, by intro W hW; obtain ⟨q0, q1, q2, q3, q4, q5⟩ := hW; go_simp⟩) hHeld ?_
                      refine wpAnyH_take (i := 23) (oi := ⟨some 146, .pick (.tmp 135) (.tmp 145) (.const (.bool false)), _, _, _, none⟩) (v := .bool false) rfl (by kernel_rfl) (by kernel_rfl) (by kernel_rfl) (fun _ _ _ h => h) (Or.inl ⟨by kernel_rfl, by intro W hW; obtain ⟨q0, q1, q2, q3, q4, q5⟩ := hW; go_simp⟩) hHeld ?_
                      obtain ⟨v13, w13, hr13, hp13, hg13, -⟩ := HW.out.hb.push false HLEN.out HW.out.below.size 29
                      have HO13 : Hid (Only (fun b => (Value.slice ph nh ch).ownBlock = some b) wd w13) := hid ((Only.alloc wd _).trans (Only.of_grown hg13 fun b e _ => e))
                      obtain ⟨p13, n13, c13, hf13⟩ : ∃ p n c, v13 = .slice p n c := by obtain ⟨a, c, e⟩ := hp13.form; exact ⟨a, _, c, e⟩
                      subst hf13
                      have HP13 := hid hp13
                      have HRUN := hid hr13
                      have HX13 := hid (HW.out.c6O HO13.out)
                      clear hr13 hp13 hg13
                      have k4 : wd.cell? ⟨g6, 4, none⟩ = some (.slice ph nh ch) := HW.out.c6.cell 4
                      have HA := hid (HW.out.on (below_al wd (.cells #[.bool false] 4)))
                      have k4b : (wd.alloc (.cells #[.bool false] 4)).cell? ⟨g6, 4, none⟩ = some (.slice ph nh ch) := HA.out.c6.cell 4
                      refine wpAnyH_ready (rs := [1, 24]) (by kernel_rfl) (by simp) ?_
                      refine AllReadyH.cons rfl (fun K hK => ?_) (AllReadyH.cons (o := ⟨some 147, .buildSlice 29 1 #[(0, .tmp 146)], _, _, _, none⟩) rfl (fun K hK => ?_) AllReadyH.nil)
                      · go_simp
                        refine hK.out _ _ (HSF.out _ HW.out.below HW.out.c6 HW.out.bf) (fun hHeld => ?_)
                        clear hK K
                        refine wpAnyH_ready (rs := [24]) (by kernel_rfl) (by simp) ?_
                        refine AllReadyH.cons (o := ⟨some 147, .buildSlice 29 1 #[(0, .tmp 146)], _, _, _, none⟩) rfl (fun K hK => ?_) AllReadyH.nil
                        with_reducible refine step_run_val ?_ (.slice (some ⟨wd.heap.size, 0, none⟩) 1 1) (wd.alloc (.cells #[.bool false] 4)) ?_ ?_
                        · exact rfl
                        · exact exec_bs1 rfl (by kernel_rfl)
                        refine hK.out _ _ (HSF.out _ HA.out.below HA.out.c6 HA.out.bf) (fun hHeld => ?_)
                        clear hK K
                        refine wpAnyH_ready (rs := [25]) (by kernel_rfl) (by simp) ?_
                        refine AllReadyH.cons (o := ⟨some 148, .call { callee := .builtin .append, args := #[.tmp 124, .tmp 147], argTypes := #[29, 29] }, 29, _, _, none⟩) rfl (fun K hK => ?_) AllReadyH.nil
                        with_reducible refine step_run_val ?_ (.slice p13 n13 c13) w13 ?_ ?_
                        · exact rfl
                        · exact exec_app rfl (by kernel_rfl) (by kernel_rfl) HRUN.out
                        refine hK.out _ _ (HSF.out _ HX13.out.2.1 HX13.out.1 HX13.out.2.2) (fun hHeld => ?_)
                        clear hK K
                        refine wpAnyH_take (i := 26) (oi := ⟨some 149, .fieldAddr 31 (.tmp 6) 3, _, _, _, none⟩) (v := .pointer (some ⟨g6, 4, none⟩)) rfl (by kernel_rfl) (by kernel_rfl) (by kernel_rfl) (fun _ _ _ h => h) (Or.inl ⟨by kernel_rfl, by intro W hW; obtain ⟨q0, q1, q2, q3, q4, q5⟩ := hW; go_simp⟩) hHeld ?_
                        refine wpAnyH_ready (rs := [27]) (by kernel_rfl) (by simp) ?_
                        refine AllReadyH.cons (o := ⟨none, .store 29 (.tmp 149) (.tmp 148), _, _, _, none⟩) rfl (fun K hK => ?_) AllReadyH.nil
                        with_reducible refine step_storeM 29 ?_ ?_ (.tmp 149) (.tmp 148) ?_ g6 4 ?_ (.slice p13 n13 c13) ?_ [.slice p13 n13 c13] ?_ ?_ ?_ HX13.out.1 ?_ (eC true s0 (.slice pv nv cv) (.slice pb nb cb) (.slice p13 n13 c13) q n0) ?_ ?_
                        · exact rfl
                        · exact rfl
                        · exact rfl
                        · kernel_rfl
                        · kernel_rfl
                        · exact rfl
                        · kernel_rfl
                        · simp [Value.oneCell']
                        · simp [eC]
                        · exact rfl
                        intro w15 h15 o15
                        have HW15 := hid (HW.out.fin HO13.out HP13.out h15 o15)
                        clear h15 o15
                        refine hK.out _ _ (HSF.out _ HW15.out.below HW15.out.c6 HW15.out.bf) (fun hHeld => ?_)
                        clear hK K
                        refine wpAnyH_done (by kernel_rfl) ?_ _
                        (try simp only [Act.put, List.setIfInBounds_toArray, List.set_cons_zero, List.set_cons_succ])
                        clear hHeld
                        go_wp2
                        go_roundg (n - (kk + 1))
                        case measure => omega
                        case rel => exact ⟨kk + 1, _, by omega, by omega, by go_num, hid (by rw [HNX.out, HXV.out]; exact HW15.out)⟩
                      · with_reducible refine step_run_val ?_ (.slice (some ⟨wd.heap.size, 0, none⟩) 1 1) (wd.alloc (.cells #[.bool false] 4)) ?_ ?_
                        · exact rfl
                        · exact exec_bs1 rfl (by kernel_rfl)
                        refine hK.out _ _ (HSF.out _ HA.out.below HA.out.c6 HA.out.bf) (fun hHeld => ?_)
                        clear hK K
                        refine wpAnyH_ready (rs := [1]) (by kernel_rfl) (by simp) ?_
                        refine AllReadyH.cons rfl (fun K hK => ?_) AllReadyH.nil
                        go_simp
                        refine hK.out _ _ (HSF.out _ HA.out.below HA.out.c6 HA.out.bf) (fun hHeld => ?_)
                        clear hK K
                        refine wpAnyH_ready (rs := [25]) (by kernel_rfl) (by simp) ?_
                        refine AllReadyH.cons (o := ⟨some 148, .call { callee := .builtin .append, args := #[.tmp 124, .tmp 147], argTypes := #[29, 29] }, 29, _, _, none⟩) rfl (fun K hK => ?_) AllReadyH.nil
                        with_reducible refine step_run_val ?_ (.slice p13 n13 c13) w13 ?_ ?_
                        · exact rfl
                        · exact exec_app rfl (by kernel_rfl) (by kernel_rfl) HRUN.out
                        refine hK.out _ _ (HSF.out _ HX13.out.2.1 HX13.out.1 HX13.out.2.2) (fun hHeld => ?_)
                        clear hK K
                        refine wpAnyH_take (i := 26) (oi := ⟨some 149, .fieldAddr 31 (.tmp 6) 3, _, _, _, none⟩) (v := .pointer (some ⟨g6, 4, none⟩)) rfl (by kernel_rfl) (by kernel_rfl) (by kernel_rfl) (fun _ _ _ h => h) (Or.inl ⟨by kernel_rfl, by intro W hW; obtain ⟨q0, q1, q2, q3, q4, q5⟩ := hW; go_simp⟩) hHeld ?_
                        refine wpAnyH_ready (rs := [27]) (by kernel_rfl) (by simp) ?_
                        refine AllReadyH.cons (o := ⟨none, .store 29 (.tmp 149) (.tmp 148), _, _, _, none⟩) rfl (fun K hK => ?_) AllReadyH.nil
                        with_reducible refine step_storeM 29 ?_ ?_ (.tmp 149) (.tmp 148) ?_ g6 4 ?_ (.slice p13 n13 c13) ?_ [.slice p13 n13 c13] ?_ ?_ ?_ HX13.out.1 ?_ (eC true s0 (.slice pv nv cv) (.slice pb nb cb) (.slice p13 n13 c13) q n0) ?_ ?_
                        · exact rfl
                        · exact rfl
                        · exact rfl
                        · kernel_rfl
                        · kernel_rfl
                        · exact rfl
                        · kernel_rfl
                        · simp [Value.oneCell']
                        · simp [eC]
                        · exact rfl
                        intro w15 h15 o15
                        have HW15 := hid (HW.out.fin HO13.out HP13.out h15 o15)
                        clear h15 o15
                        refine hK.out _ _ (HSF.out _ HW15.out.below HW15.out.c6 HW15.out.bf) (fun hHeld => ?_)
                        clear hK K
                        refine wpAnyH_done (by kernel_rfl) ?_ _
                        (try simp only [Act.put, List.setIfInBounds_toArray, List.set_cons_zero, List.set_cons_succ])
                        clear hHeld
                        go_wp2
                        go_roundg (n - (kk + 1))
                        case measure => omega
                        case rel => exact ⟨kk + 1, _, by omega, by omega, by go_num, hid (by rw [HNX.out, HXV.out]; exact HW15.out)⟩
                  · have hz : (x.err == 0) = false := by simpa using hE
                    have HXV : Hid ((true && hasC bb x.cp) = false) := hid (by unfold hasC; rw [decide_eq_false (show ¬ x.cp.err = 0 from hE)]; rfl)
                    generalize x.err = E at HSF hz
                    clear hE hse
                    have HD := hid (below_drew wr)
                    refine wp_region_held_drew (S := (fun W => W.cell? ⟨g6, 0, none⟩ = some (.bool true) ∧ W.cell? ⟨g6, 3, none⟩ = some (.slice pb nb cb) ∧ W.cell? ⟨b, o + kk * 2, none⟩ = some (i64 E) ∧ W.cell? ⟨b, o + kk * 2 + 1, none⟩ = some (.slice p1 m1 c1) ∧ (convert 28 9 (.slice p1 m1 c1)).run Tryz.prog W = .ok (.string (ba x.bs)) W ∧ (convert 28 9 (.slice pb nb cb)).run Tryz.prog W = .ok (.string (ba bb)) W)) (by kernel_rfl) (HSF.out _ (HW.out.on HD.out).below (HW.out.on HD.out).c6 (HW.out.on HD.out).bf) (fun hHeld => ?_)
                    replace HW := hid (HW.out.on HD.out)
                    clear HD
                    generalize wr.drew = wd at HW hHeld ⊢
                    refine wpAnyH_take (i := 0) (oi := ⟨some 123, .fieldAddr 31 (.tmp 6) 3, _, _, _, none⟩) (v := .pointer (some ⟨g6, 4, none⟩)) rfl (by kernel_rfl) (by kernel_rfl) (by kernel_rfl) (fun _ _ _ h => h) (Or.inl ⟨by kernel_rfl, by intro W hW; obtain ⟨q0, q1, q2, q3, q4, q5⟩ := hW; go_simp⟩) hHeld ?_
                    refine wpAnyH_take (i := 2) (oi := ⟨some 125, .fieldAddr 31 (.tmp 6) 0, _, _, _, none⟩) (v := .pointer (some ⟨g6, 0, none⟩)) rfl (by kernel_rfl) (by kernel_rfl) (by kernel_rfl) (fun _ _ _ h => h) (Or.inl ⟨by kernel_rfl, by intro W hW; obtain ⟨q0, q1, q2, q3, q4, q5⟩ := hW; go_simp⟩) hHeld ?_
                    refine wpAnyH_take (i := 3) (oi := ⟨some 126, .load 4 (.tmp 125), _, _, _, none⟩) (v := .bool true) rfl (by kernel_rfl) (by kernel_rfl) (by kernel_rfl) (fun _ _ _ h => h) (Or.inl ⟨by kernel_rfl, by intro W hW; obtain ⟨q0, q1, q2, q3, q4, q5⟩ := hW; go_simp⟩) hHeld ?_
                    refine wpAnyH_take (i := 4) (oi := ⟨some 127, .move (.tmp 126), _, _, _, none⟩) (v := .bool true) rfl (by kernel_rfl) (by kernel_rfl) (by kernel_rfl) (fun _ _ _ h => h) (Or.inl ⟨by kernel_rfl, by intro W hW; obtain ⟨q0, q1, q2, q3, q4, q5⟩ := hW; go_simp⟩) hHeld ?_
                    refine wpAnyH_take (i := 5) (oi := ⟨some 128, .move (.tmp 0), _, _, _, some (4, true)⟩) (v := .slice (some ⟨b, o, none⟩) n c) rfl (by kernel_rfl) (by kernel_rfl) (by kernel_rfl) (fun _ _ _ h => h) (Or.inl ⟨by kernel_rfl, by intro W hW; obtain ⟨q0, q1, q2, q3, q4, q5⟩ := hW; go_simp⟩) hHeld ?_
                    refine wpAnyH_take (i := 6) (oi := ⟨some 129, .move (.tmp 12), _, _, _, some (4, true)⟩) (v := i64 kk) rfl (by kernel_rfl) (by kernel_rfl) (by kernel_rfl) (fun _ _ _ h => h) (Or.inl ⟨by kernel_rfl, by intro W hW; obtain ⟨q0, q1, q2, q3, q4, q5⟩ := hW; go_simp⟩) hHeld ?_
                    refine wpAnyH_take (i := 7) (oi := ⟨some 130, .indexAddr 22 (.tmp 128) (.tmp 129), _, _, _, some (4, true)⟩) (v := .pointer (some ⟨b, o + kk * 2, none⟩)) rfl (by kernel_rfl) (by kernel_rfl) (by kernel_rfl) (fun _ _ _ h => h) (Or.inl ⟨by kernel_rfl, by intro W hW; obtain ⟨q0, q1, q2, q3, q4, q5⟩ := hW; go_simp⟩) hHeld ?_
                    refine wpAnyH_take (i := 8) (oi := ⟨some 131, .fieldAddr 44 (.tmp 130) 0, _, _, _, some (4, true)⟩) (v := .pointer (some ⟨b, o + kk * 2, none⟩)) rfl (by kernel_rfl) (by kernel_rfl) (by kernel_rfl) (fun _ _ _ h => h) (Or.inl ⟨by kernel_rfl, by intro W hW; obtain ⟨q0, q1, q2, q3, q4, q5⟩ := hW; go_simp⟩) hHeld ?_
                    refine wpAnyH_take (i := 9) (oi := ⟨some 132, .load 32 (.tmp 131), _, _, _, some (4, true)⟩) (v := i64 E) rfl (by kernel_rfl) (by kernel_rfl) (by kernel_rfl) (fun _ _ _ h => h) (Or.inl ⟨by kernel_rfl, by intro W hW; obtain ⟨q0, q1, q2, q3, q4, q5⟩ := hW; go_simp⟩) hHeld ?_
                    refine wpAnyH_take (i := 10) (oi := ⟨some 133, .binOp .eql 32 (.tmp 132) (.const (.int .i64 0)) 32, _, _, _, some (4, true)⟩) (v := .bool false) rfl (by kernel_rfl) (by kernel_rfl) (by kernel_rfl) (fun _ _ _ h => h) (Or.inl ⟨by kernel_rfl, by intro W hW; obtain ⟨q0, q1, q2, q3, q4, q5⟩ := hW; go_simp⟩) hHeld ?_
                    refine wpAnyH_take (i := 11) (oi := ⟨some 134, .pick (.tmp 127) (.tmp 133) (.const (.bool false)), _, _, _, none⟩) (v := .bool false) rfl (by kernel_rfl) (by kernel_rfl) (by kernel_rfl) (fun _ _ _ h => h) (Or.inl ⟨by kernel_rfl, by intro W hW; obtain ⟨q0, q1, q2, q3, q4, q5⟩ := hW; go_simp⟩) hHeld ?_
                    refine wpAnyH_take (i := 12) (oi := ⟨some 135, .move (.tmp 134), _, _, _, none⟩) (v := .bool false) rfl (by kernel_rfl) (by kernel_rfl) (by kernel_rfl) (fun _ _ _ h => h) (Or.inl ⟨by kernel_rfl, by intro W hW; obtain ⟨q0, q1, q2, q3, q4, q5⟩ := hW; go_simp⟩) hHeld ?_
                    refine wpAnyH_take (i := 13) (oi := ⟨some 136, .move (.tmp 0), _, _, _, some (12, true)⟩) (v := undef) rfl (by kernel_rfl) (by kernel_rfl) (by kernel_rfl) (fun _ _ _ h => h) (Or.inr ⟨by kernel_rfl, rfl⟩) hHeld ?_
                    refine wpAnyH_take (i := 14) (oi := ⟨some 137, .move (.tmp 12), _, _, _, some (12, true)⟩) (v := undef) rfl (by kernel_rfl) (by kernel_rfl) (by kernel_rfl) (fun _ _ _ h => h) (Or.inr ⟨by kernel_rfl, rfl⟩) hHeld ?_
                    refine wpAnyH_take (i := 15) (oi := ⟨some 138, .indexAddr 22 (.tmp 136) (.tmp 137), _, _, _, some (12, true)⟩) (v := undef) rfl (by kernel_rfl) (by kernel_rfl) (by kernel_rfl) (fun _ _ _ h => h) (Or.inr ⟨by kernel_rfl, rfl⟩) hHeld ?_
                    refine wpAnyH_take (i := 16) (oi := ⟨some 139, .fieldAddr 44 (.tmp 138) 1, _, _, _, some (12, true)⟩) (v := undef) rfl (by kernel_rfl) (by kernel_rfl) (by kernel_rfl) (fun _ _ _ h => h) (Or.inr ⟨by kernel_rfl, rfl⟩) hHeld ?_
                    refine wpAnyH_take (i := 17) (oi := ⟨some 140, .load 28 (.tmp 139), _, _, _, some (12, true)⟩) (v := undef) rfl (by kernel_rfl) (by kernel_rfl) (by kernel_rfl) (fun _ _ _ h => h) (Or.inr ⟨by kernel_rfl, rfl⟩) hHeld ?_
                    refine wpAnyH_take (i := 18) (oi := ⟨some 141, .convert 28 9 (.tmp 140), _, _, _, some (12, true)⟩) (v := undef) rfl (by kernel_rfl) (by kernel_rfl) (by kernel_rfl) (fun _ _ _ h => h) (Or.inr ⟨by kernel_rfl, rfl⟩) hHeld ?_
                    refine wpAnyH_take (i := 19) (oi := ⟨some 142, .fieldAddr 31 (.tmp 6) 2, _, _, _, some (12, true)⟩) (v := undef) rfl (by kernel_rfl) (by kernel_rfl) (by kernel_rfl) (fun _ _ _ h => h) (Or.inr ⟨by kernel_rfl, rfl⟩) hHeld ?_
                    refine wpAnyH_take (i := 20) (oi := ⟨some 143, .load 28 (.tmp 142), _, _, _, some (12, true)⟩) (v := undef) rfl (by kernel_rfl) (by kernel_rfl) (by kernel_rfl) (fun _ _ _ h => h) (Or.inr ⟨by kernel_rfl, rfl⟩) hHeld ?_
                    refine wpAnyH_take (i := 21) (oi := ⟨some 144, .convert 28 9 (.tmp 143), _, _, _, some (12, true)⟩) (v := undef) rfl (by kernel_rfl) (by kernel_rfl) (by kernel_rfl) (fun _ _ _ h => h) (Or.inr ⟨by kernel_rfl, rfl⟩) hHeld ?_
                    refine wpAnyH_take (i := 22) (oi := ⟨some 145, .binOp .eql 9 (.tmp 141) (.tmp 144) 9, _, _, _, some (12, true)⟩) (v := undef) rfl (by kernel_rfl) (by kernel_rfl) (by kernel_rfl) (fun _ _ _ h => h) (Or.inr ⟨by kernel_rfl, rfl⟩) hHeld ?_
                    refine wpAnyH_take (i := 23) (oi := ⟨some 146, .pick (.tmp 135) (.tmp 145) (.const (.bool false)), _, _, _, none⟩) (v := .bool false) rfl (by kernel_rfl) (by kernel_rfl) (by kernel_rfl) (fun _ _ _ h => h) (Or.inl ⟨by kernel_rfl, by intro W hW; obtain ⟨q0, q1, q2, q3, q4, q5⟩ := hW; go_simp⟩) hHeld ?_
                    obtain ⟨v13, w13, hr13, hp13, hg13, -⟩ := HW.out.hb.push false HLEN.out HW.out.below.size 29
                    have HO13 : Hid (Only (fun b => (Value.slice ph nh ch).ownBlock = some b) wd w13) := hid ((Only.alloc wd _).trans (Only.of_grown hg13 fun b e _ => e))
                    obtain ⟨p13, n13, c13, hf13⟩ : ∃ p n c, v13 = .slice p n c := by obtain ⟨a, c, e⟩ := hp13.form; exact ⟨a, _, c, e⟩
                    subst hf13
                    have HP13 := hid hp13
                    have HRUN := hid hr13
                    have HX13 := hid (HW.out.c6O HO13.out)
                    clear hr13 hp13 hg13
                    have k4 : wd.cell? ⟨g6, 4, none⟩ = some (.slice ph nh ch) := HW.out.c6.cell 4
                    have HA := hid (HW.out.on (below_al wd (.cells #[.bool false] 4)))
                    have k4b : (wd.alloc (.cells #[.bool false] 4)).cell? ⟨g6, 4, none⟩ = some (.slice ph nh ch) := HA.out.c6.cell 4
                    refine wpAnyH_ready (rs := [1, 24]) (by kernel_rfl) (by simp) ?_
                    refine AllReadyH.cons rfl (fun K hK => ?_) (AllReadyH.cons (o := ⟨some 147, .buildSlice 29 1 #[(0, .tmp 146)], _, _, _, none⟩) rfl (fun K hK => ?_) AllReadyH.nil)
                    · go_simp
                      refine hK.out _ _ (HSF.out _ HW.out.below HW.out.c6 HW.out.bf) (fun hHeld => ?_)
                      clear hK K
                      refine wpAnyH_ready (rs := [24]) (by kernel_rfl) (by simp) ?_
                      refine AllReadyH.cons (o := ⟨some 147, .buildSlice 29 1 #[(0, .tmp 146)], _, _, _, none⟩) rfl (fun K hK => ?_) AllReadyH.nil
                      with_reducible refine step_run_val ?_ (.slice (some ⟨wd.heap.size, 0, none⟩) 1 1) (wd.alloc (.cells #[.bool false] 4)) ?_ ?_
                      · exact rfl
                      · exact exec_bs1 rfl (by kernel_rfl)
                      refine hK.out _ _ (HSF.out _ HA.out.below HA.out.c6 HA.out.bf) (fun hHeld => ?_)
                      clear hK K
                      refine wpAnyH_ready (rs := [25]) (by kernel_rfl) (by simp) ?_
                      refine AllReadyH.cons (o := ⟨some 148, .call { callee := .builtin .append, args := #[.tmp 124, .tmp 147], argTypes := #[29, 29] }, 29, _, _, none⟩) rfl (fun K hK => ?_) AllReadyH.nil
                      with_reducible refine step_run_val ?_ (.slice p13 n13 c13) w13 ?_ ?_
                      · exact rfl
                      · exact exec_app rfl (by kernel_rfl) (by kernel_rfl) HRUN.out
                      refine hK.out _ _ (HSF.out _ HX13.out.2.1 HX13.out.1 HX13.out.2.2) (fun hHeld => ?_)
                      clear hK K
                      refine wpAnyH_take (i := 26) (oi := ⟨some 149, .fieldAddr 31 (.tmp 6) 3, _, _, _, none⟩) (v := .pointer (some ⟨g6, 4, none⟩)) rfl (by kernel_rfl) (by kernel_rfl) (by kernel_rfl) (fun _ _ _ h => h) (Or.inl ⟨by kernel_rfl, by intro W hW; obtain ⟨q0, q1, q2, q3, q4, q5⟩ := hW; go_simp⟩) hHeld ?_
                      refine wpAnyH_ready (rs := [27]) (by kernel_rfl) (by simp) ?_
                      refine AllReadyH.cons (o := ⟨none, .store 29 (.tmp 149) (.tmp 148), _, _, _, none⟩) rfl (fun K hK => ?_) AllReadyH.nil
                      with_reducible refine step_storeM 29 ?_ ?_ (.tmp 149) (.tmp 148) ?_ g6 4 ?_ (.slice p13 n13 c13) ?_ [.slice p13 n13 c13] ?_ ?_ ?_ HX13.out.1 ?_ (eC true s0 (.slice pv nv cv) (.slice pb nb cb) (.slice p13 n13 c13) q n0) ?_ ?_
                      · exact rfl
                      · exact rfl
                      · exact rfl
                      · kernel_rfl
                      · kernel_rfl
                      · exact rfl
                      · kernel_rfl
                      · simp [Value.oneCell']
                      · simp [eC]
                      · exact rfl
                      intro w15 h15 o15
                      have HW15 := hid (HW.out.fin HO13.out HP13.out h15 o15)
                      clear h15 o15
                      refine hK.out _ _ (HSF.out _ HW15.out.below HW15.out.c6 HW15.out.bf) (fun hHeld => ?_)
                      clear hK K
                      refine wpAnyH_done (by kernel_rfl) ?_ _
                      (try simp only [Act.put, List.setIfInBounds_toArray, List.set_cons_zero, List.set_cons_succ])
                      clear hHeld
                      go_wp2
                      go_roundg (n - (kk + 1))
                      case measure => omega
                      case rel => exact ⟨kk + 1, _, by omega, by omega, by go_num, hid (by rw [HNX.out, HXV.out]; exact HW15.out)⟩
                    · with_reducible refine step_run_val ?_ (.slice (some ⟨wd.heap.size, 0, none⟩) 1 1) (wd.alloc (.cells #[.bool false] 4)) ?_ ?_
                      · exact rfl
                      · exact exec_bs1 rfl (by kernel_rfl)
                      refine hK.out _ _ (HSF.out _ HA.out.below HA.out.c6 HA.out.bf) (fun hHeld => ?_)
                      clear hK K
                      refine wpAnyH_ready (rs := [1]) (by kernel_rfl) (by simp) ?_
                      refine AllReadyH.cons rfl (fun K hK => ?_) AllReadyH.nil
                      go_simp
                      refine hK.out _ _ (HSF.out _ HA.out.below HA.out.c6 HA.out.bf) (fun hHeld => ?_)
                      clear hK K
                      refine wpAnyH_ready (rs := [25]) (by kernel_rfl) (by simp) ?_
                      refine AllReadyH.cons (o := ⟨some 148, .call { callee := .builtin .append, args := #[.tmp 124, .tmp 147], argTypes := #[29, 29] }, 29, _, _, none⟩) rfl (fun K hK => ?_) AllReadyH.nil
                      with_reducible refine step_run_val ?_ (.slice p13 n13 c13) w13 ?_ ?_
                      · exact rfl
                      · exact exec_app rfl (by kernel_rfl) (by kernel_rfl) HRUN.out
                      refine hK.out _ _ (HSF.out _ HX13.out.2.1 HX13.out.1 HX13.out.2.2) (fun hHeld => ?_)
                      clear hK K
                      refine wpAnyH_take (i := 26) (oi := ⟨some 149, .fieldAddr 31 (.tmp 6) 3, _, _, _, none⟩) (v := .pointer (some ⟨g6, 4, none⟩)) rfl (by kernel_rfl) (by kernel_rfl) (by kernel_rfl) (fun _ _ _ h => h) (Or.inl ⟨by kernel_rfl, by intro W hW; obtain ⟨q0, q1, q2, q3, q4, q5⟩ := hW; go_simp⟩) hHeld ?_
                      refine wpAnyH_ready (rs := [27]) (by kernel_rfl) (by simp) ?_
                      refine AllReadyH.cons (o := ⟨none, .store 29 (.tmp 149) (.tmp 148), _, _, _, none⟩) rfl (fun K hK => ?_) AllReadyH.nil
                      with_reducible refine step_storeM 29 ?_ ?_ (.tmp 149) (.tmp 148) ?_ g6 4 ?_ (.slice p13 n13 c13) ?_ [.slice p13 n13 c13] ?_ ?_ ?_ HX13.out.1 ?_ (eC true s0 (.slice pv nv cv) (.slice pb nb cb) (.slice p13 n13 c13) q n0) ?_ ?_
                      · exact rfl
                      · exact rfl
                      · exact rfl
                      · kernel_rfl
                      · kernel_rfl
                      · exact rfl
                      · kernel_rfl
                      · simp [Value.oneCell']
                      · simp [eC]
                      · exact rfl
                      intro w15 h15 o15
                      have HW15 := hid (HW.out.fin HO13.out HP13.out h15 o15)
                      clear h15 o15
                      refine hK.out _ _ (HSF.out _ HW15.out.below HW15.out.c6 HW15.out.bf) (fun hHeld => ?_)
                      clear hK K
                      refine wpAnyH_done (by kernel_rfl) ?_ _
                      (try simp only [Act.put, List.setIfInBounds_toArray, List.set_cons_zero, List.set_cons_succ])
                      clear hHeld
                      go_wp2
                      go_roundg (n - (kk + 1))
                      case measure => omega
                      case rel => exact ⟨kk + 1, _, by omega, by omega, by go_num, hid (by rw [HNX.out, HXV.out]; exact HW15.out)⟩
              · have hltz : ¬ (kk : Int) < (n : Int) := by omega
                go_wp2_with (first
                  | ((with_reducible refine wpList_load_at 31 _ rfl ?_ g6 0 ?_ (eC fnd s0 (.slice pv nv cv) (.slice pb nb cb) (.slice ph nh ch) q n0) _ ?_ underCh rfl ?_ ?_); exact rfl; exact rfl; exact HW.out.c6.whole; exact sizeCh)
                  | ((with_reducible refine wpList_storeX 31 7 sizeCh rfl rfl _ _ rfl g4 ?_ (D := eC fnd s0 (.slice pv nv cv) (.slice pb nb cb) (.slice ph nh ch) q n0) ?_ ?_ ?_ ?_ HW.out.c4 ?_); exact rfl; exact rfl; exact rfl; exact rfl; exact eC_one _ _ rfl rfl rfl _ _; intro w17 h17 o17; have HC17 := hid h17; have HO17 := hid o17; clear h17 o17))
                have hrr := HRR.out
                rw [HQA.out, if_neg (by omega), chC_bes (cps l) HBE.out, HQA.out] at hrr
                rw [List.take_of_length_le (by have := HN.out; omega)] at HW
                have hbf : Buf w.heap.size w17 (.slice pb nb cb) bb := own_other (by decide) HW.out.bf HW.out.c4 HO17.out
                have hbb : BBuf w.heap.size w17 (.slice ph nh ch) _ := own_other (by decide) HW.out.hb HW.out.c4 HO17.out
                refine ret_rowE rfl g4 rfl rfl rfl HC17.out ?_
                rw [← hrr]
                exact ⟨s0, _, _, _, m0, rfl, HW.out.rs.otherT (by decide) (by decide) HW.out.c4 HO17.out, rfl, HM0.out, hbf.sl, trivial, hbb.bol, below_tr HW.out.below (HO17.out.below HW.out.below.size (fun i e => by have := HW.out.l4; omega))⟩
end Go.Proofs.YtelkijiphhoacaaGreatDoor
