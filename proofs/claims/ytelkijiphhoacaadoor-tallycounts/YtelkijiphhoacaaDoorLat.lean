/- Texts laid into one, cut to what is needed: the remark ahead of each part says what is proved there. -/
import Derived.Test.YtelkijiphhoacaaDoorLas
/- tally.Elect where a drive has a journal. -/
namespace Go.Proofs.YtelkijiphhoacaaDoor
open Go Go.RowKit

theorem run_storeVal (w : World) (b o : Nat) (ty : TypeId) (v : Value) (cs : Array Value) (hv : v.cells = cs) (ht : w.there b o cs.size) (hi : (Tryd.prog.info? ty).map (·.size) = some cs.size) (h1 : cs.all (·.oneCell') = true) :
    (Instr.storeAt ty (.pointer (some ⟨b, o, none⟩)) v).run Tryd.prog w = .ok () (w.setCells b o cs.toList) := by
  have := run_storeCells_cells (P := Tryd.prog) b o cs.toList 0 w (fun j hj => by simpa using (ht j (by simpa using hj)).1) (fun j hj => by simpa using (ht j (by simpa using hj)).2)
    (fun v hv => (Array.all_eq_true_iff_forall_mem.1 h1) v (by simpa using hv))
  cases hq : Tryd.prog.info? ty with
  | none => simp [hq] at hi
  | some i =>
    have hs : cs.size = i.size := by simp [hq] at hi; omega
    simp only [Nat.add_zero] at this
    simp [Instr.storeAt, Instr.sureAddr, storeVar, sizeOf, typeInfo, hq, hv, hs, this]
/-- A value is stored into a part of a variable. -/
theorem step_storeM (ty : TypeId) {t : TypeId} {w : World} {ops : Array Oper} {o : Oper} {a : Act} {K : Act → World → Prop} {Q : Exit → Act → World → Prop} {E : Prop} (hgd : o.guard = none) (hdst : o.dst = none) (x y : Operand) (ho : o.op = .store ty x y) (g off : Nat) (hx : a.eval x = .pointer (some ⟨g, off, none⟩)) (v : Value) (hy : a.eval y = v) (vs : List Value) (hv : v.cells = vs.toArray) (hi : (Tryd.prog.info? ty).map (·.size) = some vs.length) (h1 : vs.toArray.all (·.oneCell') = true) {cs : Array Value} (hb : CAt w g cs t) (hs : off + vs.length ≤ cs.size) (D : Array Value) (hD : (setAll cs.toList off vs).toArray = D)
    (h : ∀ w1, CAt w1 g D t → Only (fun b => b = g) w w1 → K a w1) : if Region.wanted o (yielded ops a.tmps) = true then Oper.wp Tryd.prog o a w K Q else E := by
  have e1 := run_storeVal w g off ty v vs.toArray hv (fun j hj => ⟨by rw [hb.cell, Array.getElem?_eq_getElem (by simp at hj; omega)]; rfl, hb.free _⟩) (by simpa using hi) h1
  rw [if_pos (by simp [Region.wanted, hgd])]
  unfold Oper.wp execOp
  simp only [ho, hx, hy, Sem.run_bind, e1, Result.andThen_ok, Sem.run_pure]
  show K (a.put o.dst undef) _
  rw [hdst]
  refine h _ ?_ (only_setCells _ _ _ _ rfl)
  rw [← hD]
  exact CAt.setCells vs off cs w hb
def hasF (l : List Cp) (b : List Nat) (i : Nat) : Bool := match l[i]? with | some c => hasC b c | none => false
theorem hasF_at {l : List Cp} {b : List Nat} {i : Nat} {c : Cp} (h : l[i]? = some c) : hasF l b i = hasC b c := by unfold hasF; rw [h]
theorem conv_new (t : ByteArray) (w : World) : (convert 9 29 (.string t)).run Tryd.prog w = .ok (.slice (some ⟨w.heap.size, 0, none⟩) t.size (grownCap w t.size 0 5)) (Lib.bytesWorld w 5 t) := Lib.run_convert_string_bytes w 9 29 5 t Tryd.underlying9 Tryd.underlying29 Tryd.underlying5
theorem bytesW_below (w : World) (t : ByteArray) : Below w.heap.size w (Lib.bytesWorld w 5 t) := ⟨rfl, rfl, rfl, by rw [Lib.bytesWorld_size]; omega, fun k hk => Lib.bytesWorld_at_old w 5 t k hk⟩
theorem getD_lst (t : ByteArray) {i : Nat} (hi : i < t.size) : u8 ((lst t).getD i 0) = Value.int .u8 ((t.data.toList.getD i 0).toNat) := by
  have hi' : i < t.data.toList.length := by simpa using hi
  unfold u8 lst
  rw [List.getD_eq_getElem?_getD, List.getD_eq_getElem?_getD, List.getElem?_map, List.getElem?_eq_getElem hi']
  rfl
theorem bytesW_sl (w : World) (t : ByteArray) (c : Nat) (hc : t.size ≤ c) : SL (Lib.bytesWorld w 5 t) (.slice (some ⟨w.heap.size, 0, none⟩) t.size c) (lst t) := by
  refine ⟨_, c, by rw [lst_len], Or.inr ⟨_, 0, rfl, fun i hi => ?_⟩, by rw [lst_len]; exact hc⟩
  rw [lst_len] at hi
  rw [Nat.zero_add, Lib.bytesWorld_cell w 5 t i hi]
  rw [getD_lst t hi]
theorem cap_ge (w : World) (n : Nat) (hn : n ≤ 100000) : n ≤ grownCap w n 0 5 ∧ grownCap w n 0 5 ≤ maxLen := ⟨grownCap_ge w n 0 5, grownCap_le_maxLen w n 0 5 (by unfold maxLen; omega)⟩
theorem bytesW_ov (B : Nat) (w : World) (t : ByteArray) (hB : B ≤ w.heap.size) (ht : t.size ≤ 100000) : OvB B (Lib.bytesWorld w 5 t) (.slice (some ⟨w.heap.size, 0, none⟩) t.size (grownCap w t.size 0 5)) := by
  have hc := cap_ge w t.size ht
  have hs : (Lib.bytesCells w 5 t).size = grownCap w t.size 0 5 := by
    have : t.data.size = t.size := rfl
    simp [Lib.bytesCells, this]; omega
  have hnew := Lib.bytesWorld_at_new w 5 t
  refine Or.inr ⟨w.heap.size, t.size, _, rfl, hB, by rw [Lib.bytesWorld_size]; omega, hc.2, fun i hi => ⟨?_, ?_⟩⟩
  · simp only [World.frozen?, hnew, hs]
    simp
    omega
  · by_cases h : i < t.size
    · exact ⟨_, UInt8.toNat_lt _, Lib.bytesWorld_cell w 5 t i h⟩
    · refine ⟨0, by decide, ?_⟩
      have h2 : t.data.size = t.size := rfl
      have h3 : (Lib.bytesCells w 5 t)[i]? = some (.int .u8 0) := by
        rw [Lib.bytesCells, Array.getElem?_append_right (by rw [Array.size_map, h2]; omega), Array.size_map, h2, Array.getElem?_replicate, if_pos (by omega)]
      simpa [World.cell?, hnew] using h3
theorem SL.keepB {w w' : World} {g n c : Nat} {x : List Nat} (h : SL w (.slice (some ⟨g, 0, none⟩) n c) x) (e : w'.heap[g]? = w.heap[g]?) : SL w' (.slice (some ⟨g, 0, none⟩) n c) x := by
  obtain ⟨po, c', h1, h2, h3⟩ := h
  cases h1
  refine ⟨_, c, rfl, ?_, h3⟩
  rcases h2 with h2 | ⟨b, o, e2, h2⟩
  · exact Or.inl h2
  · cases e2
    exact Or.inr ⟨g, 0, rfl, fun i hi => (World.cell?_of_block (a := ⟨g, 0 + i, none⟩) e).trans (h2 i hi)⟩
theorem OvB.keepB {B : Nat} {w w' : World} {g n c : Nat} (h : OvB B w (.slice (some ⟨g, 0, none⟩) n c)) (e : w'.heap[g]? = w.heap[g]?) (hs : w.heap.size ≤ w'.heap.size) : OvB B w' (.slice (some ⟨g, 0, none⟩) n c) := by
  rcases h with h | ⟨g', n', c', h1, h2, h3, h4, h5⟩
  · cases h
  · cases h1
    refine Or.inr ⟨g, n, c, rfl, h2, by omega, h4, fun i hi => ?_⟩
    obtain ⟨a, z, hz, b⟩ := h5 i hi
    exact ⟨by rw [← a]; simp [World.frozen?, e], z, hz, (World.cell?_of_block (a := ⟨g, i, none⟩) e).trans b⟩
theorem CntM.apart {w : World} {m n : Nat} {f : List Nat → Nat} (h : CntM w m n f) {g : Nat} {cs : Array Value} {t : TypeId} (hc : CAt w g cs t) : m ≠ g := fun e => by
  obtain ⟨D, ⟨es, clock, hb, _⟩, _⟩ := h
  subst e
  have := hb.symm.trans hc
  simp at this
theorem exec_conv9 {a : Act} {o : Oper} {x : Operand} {v u : Value} {W W' : World} (ho : o.op = .convert 9 29 x) (hx : a.eval x = v) (h : (convert 9 29 v).run Tryd.prog W = .ok u W') : (execOp a.eval o).run Tryd.prog W = .ok (.value u) W' := by
  unfold execOp
  simp only [ho, hx, Sem.run_bind, h, Result.andThen_ok, Sem.run_pure]
theorem E7.next {w W : World} {g4 g7 gH n kk : Nat} {A : Int} {G : Nat → Bool} (h : E7 w g4 g7 gH n A (fun i => if i < kk then G i else false) W) {x : Bool} (hx : G kk = x) : E7 w g4 g7 gH n A (fun i => if i < kk + 1 then G i else false) (W.setCell ⟨gH, kk, none⟩ (.bool x)) :=
  (h.set kk x).congr (fun i _ => by
    show (if i = kk then x else if i < kk then G i else false) = if i < kk + 1 then G i else false
    by_cases e : i = kk
    · subst e; rw [if_pos rfl, if_pos (by omega), hx]
    · rw [if_neg e]
      by_cases h2 : i < kk
      · rw [if_pos h2, if_pos (by omega)]
      · rw [if_neg h2, if_neg (by omega)])
theorem str_eq {bs : List Nat} (h8 : ∀ z ∈ bs, z < 256) (t : ByteArray) : ((ba bs).toList == t.toList) = decide (bs = lst t) := by rw [lst_beq, lst_ba h8]
/-- What the last assignment of Elect leaves. -/
structure E9 (w wr : World) (g7 gB CB : Nat) (D : Array Value) (yt : ByteArray) (W : World) : Prop where
  c7 : CAt W g7 D 40
  o7 : Only (fun b => b = g7) wr W
  sl : SL W (.slice (some ⟨gB, 0, none⟩) yt.size CB) (lst yt)
  ov : OvB w.heap.size W (.slice (some ⟨gB, 0, none⟩) yt.size CB)
  ge : wr.heap.size ≤ gB
  lt : gB < W.heap.size
set_option maxRecDepth 100000 in
set_option maxHeartbeats 8000000 in
theorem elect_found (v : Value) (l : List Cv) (k : Int) (w : World) (a0 a1 : Addr) (he : Ers w a0 a1) (hl : CL w v l) (h : ¬ (16 < (cps l).length ∨ k < 1 ∨ ((cps l).length : Int) < k)) (hq : ¬ (ansN (cps l) : Int) < k) (x0 : Jr × List Nat) (r0 : List (Jr × List Nat)) (ha : allC dig (cps l) = x0 :: r0) : Calls Tryd.prog 12 #[v, i64 k] w (ElS OvB w (0, chC dig (cps l))) := by
  rw [chC_some (el_cnt ha)]
  obtain ⟨Y, hY⟩ : ∃ Y, r0.foldl (mxC (cntC (x0 :: r0))) x0 = Y := ⟨_, rfl⟩
  rw [hY]
  have HYY := hid hY
  clear hY
  have HL := hid hl
  obtain ⟨po, c, rfl, hc1, hn, -⟩ := hl
  obtain ⟨n, hN⟩ : ∃ n, l.length = n := ⟨_, rfl⟩
  have HN := hid hN
  rw [cps_len, hN] at h
  rw [hN] at hn ⊢
  clear hN hc1
  have h16 : ¬ (16 : Int) < (n : Int) := fun e => h (Or.inl (by omega))
  have h1 : ¬ k < 1 := fun e => h (Or.inr (Or.inl e))
  have h2 : ¬ (n : Int) < k := fun e => h (Or.inr (Or.inr e))
  rw [HN.out] at HL
  have HAN : Hid (∀ W, Below w.heap.size w W → Calls Tryd.prog 25 #[.slice po n c] W fun e w' => e = .returned (i64 (ansN (cps l))) ∧ Below W.heap.size W w') := hid (fun W hW => answering_any _ l W (HL.out.below hW))
  have HJN := hid (fun W (hW : Below w.heap.size w W) => journals_any _ l W a0 a1 (HL.out.below hW) (he.below hW))
  unfold JlS at HJN
  rw [ha, cps_len, HN.out] at HJN
  obtain ⟨A, hA⟩ : ∃ A : Nat, ansN (cps l) = A := ⟨_, rfl⟩
  rw [hA] at hq HAN
  have HA := hid hA
  have hmk := run_make_b n (by omega)
  clear h ha he hA
  have T1 : Hid True := hid trivial
  go_enter Tryd.func12, Tryd.ntmps12
  go_wp2_with (first
    | (clear T1; (with_reducible refine wpList_allocX 40 _ zeroCh rfl rfl ?_); intro w1 g4 hz1 hb1 hg1; have HZ1 := hid hz1; have HB1 := hid hb1; have HG1 := hid (show w.heap.size ≤ g4 by omega); have HZ1L : Hid (∀ W, Below w.heap.size w W → True) := hid (fun _ _ => trivial); clear hz1 hb1 hg1)
    | (go_at_call 25; refine (HAN.out _ HB1.out).mono ?_; rintro e wa ⟨rfl, hba⟩; have HG4 := hid (HZ1.out.below hba).lt; replace HZ1 := hid (HZ1.out.below hba); replace HB1 := hid (below_on HB1.out hba); clear hba)
    | ((with_reducible refine wpList_build_want 40 _ rfl ?_ (eC false 0 nilS nilS (.slice (some ⟨wa.heap.size, 0, none⟩) n n) A 0) ?_ ?_); exact rfl; exact builtCh2 _ _ _ _)
    | ((with_reducible refine wpList_allocX 40 _ zeroCh rfl rfl ?_); intro w3 g7 hz3 hb3 hg3; have HZ3 := hid hz3; have HBH := hid ((BoF.made wa n).below hb3); have HB3 := hid (below_on (below_on HB1.out (below_al wa _)) hb3); replace HZ1 := hid ((HZ1.out.below (below_al wa (.cells (madeCells #[.bool false] n) 4))).below hb3); have HG3 := hid (show w.heap.size ≤ g7 ∧ g4 ≠ g7 ∧ w.heap.size ≤ wa.heap.size by have h1 := HB1.out.size; have h2 := HG4.out; rw [size_al] at hg3; exact ⟨by omega, by omega, h1⟩); clear hz3 hb3 hg3)
    | ((with_reducible refine wpList_storeX 40 7 sizeCh rfl rfl _ _ rfl g7 ?_ (D := eC false 0 nilS nilS (.slice (some ⟨wa.heap.size, 0, none⟩) n n) A 0) ?_ ?_ ?_ ?_ HZ3.out ?_); exact rfl; exact rfl; exact rfl; exact rfl; exact eC_one _ _ rfl rfl rfl _ _; intro w4 h4 o4; have HF : Hid (E7 w g4 g7 wa.heap.size n A (fun _ => false) w4) := hid (E7.start HB3.out HZ1.out HBH.out h4 HZ3.out o4 HG1.out HG3.out.1 HG3.out.2.1 HG3.out.2.2); clear h4 o4 HZ3 HBH HB3 HZ1)
    | (go_at_call 26; refine (HJN.out _ HF.out.below).mono ?_; rintro e w5 ⟨vj, L, rfl, hs5, hj5, hl5, hb5⟩; obtain ⟨pj, cj, rfl, -⟩ := hs5.form; have HS4 := hid HF.out.below.size; have HGH : Hid (wa.heap.size < w4.heap.size ∧ g7 < w4.heap.size ∧ g4 < w4.heap.size) := hid ⟨HF.out.bh.lt, HF.out.c7.lt, HF.out.c4.lt⟩; replace HF := hid (HF.out.on hb5); obtain ⟨x1, r1, hx1, hxj, hrj⟩ : ∃ x1 r1, L = x1 :: r1 ∧ x1.jb = x0 ∧ r1.map Hv.jb = r0 := (by cases L with | nil => cases hj5 | cons a b => exact ⟨a, b, rfl, (List.cons.inj hj5).1, (List.cons.inj hj5).2⟩); have hne : ((L.length : Int) == 0) = false := (by rw [hx1]; simp; omega); have HX1 := hid hx1; have HXJ := hid hxj; have HRJ := hid hrj; have HL5 := hid (show L.length ≤ 1000 by omega); have HJ5 := hid hj5; have HS5 := hid hs5; clear hs5 hj5 hb5 hl5 hx1 hxj hrj)
    | (go_at_call 27; refine (count_any w4.heap.size _ L _ HS5.out HL5.out).mono ?_; rintro e w6 ⟨m, rfl, hm6, hb6⟩; replace HF := hid (HF.out.on hb6); replace HS5 := hid (HS5.out.below hb6); rw [HJ5.out] at hm6; have HM := hid hm6; clear hm6 hb6)
    | (go_at_call 28; refine (greatest_any w4.heap.size _ L x1 r1 HX1.out _ m _ _ HS5.out HL5.out HM.out).mono ?_; rintro e w7 ⟨y, hy, rfl, hyj, hb7⟩; replace HF := hid (HF.out.on hb7); replace HS5 := hid (HS5.out.below hb7); replace HM := hid (HM.out.below hb7); rw [HXJ.out, HRJ.out, HYY.out] at hyj; have HYJ := hid hyj; have hyo := HS5.out.each y hy; have HYO := hid hyo; obtain ⟨yp, yn, yc, hyf⟩ : ∃ p n c, y.v = .slice p n c := (by obtain ⟨a, c, e, _⟩ := hyo.rs.buf.form; exact ⟨a, _, c, e⟩); have HYF := hid hyf; obtain ⟨ys, hys⟩ : ∃ s, y.s = s := ⟨_, rfl⟩; obtain ⟨yt, hyt⟩ : ∃ t, y.t = t := ⟨_, rfl⟩; have HYT := hid hyt; have HYS := hid hys; have hcs : y.cs = hC ys (.slice yp yn yc) yt := (by unfold Hv.cs; rw [hys, hyf, hyt]); rw [hcs]; have HTX : Hid (yt.size ≤ 100000) := hid (by rw [← hyt]; exact hyo.txt); clear hb7 hyj hyo hyf hys hyt hcs hy)
    | ((with_reducible refine wpList_allocX 70 _ zeroHd rfl rfl ?_); intro w8 g10 hz8 hb8 hg8; have HZ8 := hid hz8; have HB8 := hid hb8; have HG8 := hid hg8; clear hz8 hb8 hg8)
    | ((with_reducible refine wpList_storeX 70 3 sizeHd rfl rfl _ _ rfl g10 ?_ (D := hC ys (.slice yp yn yc) yt) ?_ ?_ ?_ ?_ HZ8.out ?_); exact rfl; exact rfl; exact rfl; exact rfl; exact hC_one _ _ _ rfl; intro w9 h9 o9; have hb9 := ownX HB8.out HG8.out o9; replace HF := hid (HF.out.on hb9); replace HM := hid (HM.out.below hb9); replace HYO := hid (HYO.out.below hb9); have HC9 := hid h9; clear h9 o9 hb9 HZ8 HB8 HG8 HS5))
  go_loopg [51] n (fun gg s51 wr => ∃ kk : Nat, kk ≤ n ∧ n - kk ≤ gg ∧ s51 = i64 kk ∧ Hid (E7 w g4 g7 wa.heap.size n A (fun i => if i < kk then hasF (cps l) (lst yt) i else false) wr) ∧ Hid (Only (fun b => b = wa.heap.size) w9 wr))
  case atStart => exact ⟨0, Nat.zero_le _, by omega, rfl, hid (HF.out.congr (fun i _ => by simp)), hid (Only.refl _ _)⟩
  case round =>
    obtain ⟨kk, hkk, hg, rfl, HW, HO⟩ := hrel
    by_cases hlt : kk < n
    · have hltz : (kk : Int) < (n : Int) := by omega
      obtain ⟨x, hx⟩ : ∃ x, l[kk]? = some x := ⟨_, List.getElem?_eq_getElem (by have := HN.out; omega)⟩
      obtain ⟨b, o, c', e, -⟩ := HL.out.where hx
      rw [HN.out] at e
      cases e
      obtain ⟨p1, m1, c1, -, hm1, hcl, hbl, hmc, hnil, hm5, h8⟩ := HL.out.load HW.out.below hx
      have HCL := hid hcl
      have HHF : Hid (hasF (cps l) (lst yt) kk = hasC (lst yt) x.cp) := hid (hasF_at (by rw [cps_get, hx]; rfl))
      have HC10 := hid (HC9.out.keep (HO.out.block g10 HC9.out.lt (fun e => CAt.apart HC9.out (HF.out.bh : CAt w9 _ _ 4) (by decide) e)))
      have HCV : Hid (∀ W, Below wr.heap.size wr W → (convert 29 9 (.slice p1 m1 c1)).run Tryd.prog W = .ok (.string (ba x.bs)) W) := hid (fun W hW => by have := (hbl.below hW).conv c1; rw [← hm1] at this; exact this)
      have hse := str_eq h8 yt
      clear hcl hx hbl hnil h8 hm1 hmc hm5
      have T1 : Hid True := hid trivial
      by_cases hE : x.err = 0
      · rw [hE] at HCL
        by_cases hB : x.bs = lst yt
        · rw [decide_eq_true hB] at hse
          have HX : Hid (hasF (cps l) (lst yt) kk = true) := hid (by rw [HHF.out]; unfold hasC; rw [decide_eq_true (show x.cp.err = 0 from hE), decide_eq_true (show x.cp.b = lst yt from hB)]; rfl)
          clear hE hB HHF
          go_wp2_with (first
            | (clear T1; (with_reducible refine wpList_load_at 36 _ rfl ?_ b (o + kk * 2) ?_ (cC 0 (.slice p1 m1 c1)) _ ?_ underCp rfl ?_ ?_); exact rfl; exact rfl; exact HCL.out; exact sizeCp)
            | ((with_reducible refine wpList_allocX 36 _ zeroCp rfl rfl ?_); intro w10 g12 hz2 hb2 hg2; have HZ2 := hid hz2; have HB2 := hid hb2; have HG2 := hid hg2; clear hz2 hb2 hg2)
            | ((with_reducible refine wpList_storeX 36 2 sizeCp rfl rfl _ _ rfl g12 ?_ (D := cC 0 (.slice p1 m1 c1)) ?_ ?_ ?_ ?_ HZ2.out ?_); exact rfl; exact rfl; exact rfl; exact rfl; exact cC_one _ _ _ _; intro w11 h11 o11; have hb11 := ownX HB2.out HG2.out o11; have k0 := h11.c0; have k1 := h11.c1; have HW11 := hid (HW.out.on hb11); have k4 : w11.cell? ⟨g7, 4, none⟩ = some (.slice (some ⟨wa.heap.size, 0, none⟩) n n) := HW11.out.c7.cell 4; have k5 := HW11.out.bh.cell hlt; have k6 := HW11.out.bh.free kk; have k2 : w11.cell? ⟨g10, 2, none⟩ = some (.string yt) := (HC10.out.below hb11).cell 2; rw [if_neg (Nat.lt_irrefl _)] at k5; have HB11 := hid hb11; have hcv := HCV.out _ hb11; clear h11 o11 HZ2 HB2 HG2 hb11))
          go_roundg (n - (kk + 1))
          case measure => omega
          case rel => exact ⟨kk + 1, by omega, by omega, by go_num, hid (HW11.out.next HX.out), hid ((HO.out.trans (Only.of_below HB11.out)).trans (Only.set (S := fun b => b = wa.heap.size) w11 ⟨wa.heap.size, kk, none⟩ _ rfl))⟩
        · rw [decide_eq_false hB] at hse
          have HX : Hid (hasF (cps l) (lst yt) kk = false) := hid (by rw [HHF.out]; unfold hasC; rw [decide_eq_false (show ¬ x.cp.b = lst yt from hB)]; simp)
          clear hE hB HHF
          go_wp2_with (first
            | (clear T1; (with_reducible refine wpList_load_at 36 _ rfl ?_ b (o + kk * 2) ?_ (cC 0 (.slice p1 m1 c1)) _ ?_ underCp rfl ?_ ?_); exact rfl; exact rfl; exact HCL.out; exact sizeCp)
            | ((with_reducible refine wpList_allocX 36 _ zeroCp rfl rfl ?_); intro w10 g12 hz2 hb2 hg2; have HZ2 := hid hz2; have HB2 := hid hb2; have HG2 := hid hg2; clear hz2 hb2 hg2)
            | ((with_reducible refine wpList_storeX 36 2 sizeCp rfl rfl _ _ rfl g12 ?_ (D := cC 0 (.slice p1 m1 c1)) ?_ ?_ ?_ ?_ HZ2.out ?_); exact rfl; exact rfl; exact rfl; exact rfl; exact cC_one _ _ _ _; intro w11 h11 o11; have hb11 := ownX HB2.out HG2.out o11; have k0 := h11.c0; have k1 := h11.c1; have HW11 := hid (HW.out.on hb11); have k4 : w11.cell? ⟨g7, 4, none⟩ = some (.slice (some ⟨wa.heap.size, 0, none⟩) n n) := HW11.out.c7.cell 4; have k5 := HW11.out.bh.cell hlt; have k6 := HW11.out.bh.free kk; have k2 : w11.cell? ⟨g10, 2, none⟩ = some (.string yt) := (HC10.out.below hb11).cell 2; rw [if_neg (Nat.lt_irrefl _)] at k5; have HB11 := hid hb11; have hcv := HCV.out _ hb11; clear h11 o11 HZ2 HB2 HG2 hb11))
          go_roundg (n - (kk + 1))
          case measure => omega
          case rel => exact ⟨kk + 1, by omega, by omega, by go_num, hid (HW11.out.next HX.out), hid ((HO.out.trans (Only.of_below HB11.out)).trans (Only.set (S := fun b => b = wa.heap.size) w11 ⟨wa.heap.size, kk, none⟩ _ rfl))⟩
      · have HX : Hid (hasF (cps l) (lst yt) kk = false) := hid (by rw [HHF.out]; unfold hasC; rw [decide_eq_false (show ¬ x.cp.err = 0 from hE)]; rfl)
        have hz : (x.err == 0) = false := by simpa using hE
        generalize x.err = E at HCL hz
        clear hE HHF hse
        go_wp2_with (first
          | (clear T1; (with_reducible refine wpList_load_at 36 _ rfl ?_ b (o + kk * 2) ?_ (cC E (.slice p1 m1 c1)) _ ?_ underCp rfl ?_ ?_); exact rfl; exact rfl; exact HCL.out; exact sizeCp)
          | ((with_reducible refine wpList_allocX 36 _ zeroCp rfl rfl ?_); intro w10 g12 hz2 hb2 hg2; have HZ2 := hid hz2; have HB2 := hid hb2; have HG2 := hid hg2; clear hz2 hb2 hg2)
          | ((with_reducible refine wpList_storeX 36 2 sizeCp rfl rfl _ _ rfl g12 ?_ (D := cC E (.slice p1 m1 c1)) ?_ ?_ ?_ ?_ HZ2.out ?_); exact rfl; exact rfl; exact rfl; exact rfl; exact cC_one _ _ _ _; intro w11 h11 o11; have hb11 := ownX HB2.out HG2.out o11; have k0 := h11.c0; have k1 := h11.c1; have HW11 := hid (HW.out.on hb11); have k4 : w11.cell? ⟨g7, 4, none⟩ = some (.slice (some ⟨wa.heap.size, 0, none⟩) n n) := HW11.out.c7.cell 4; have k5 := HW11.out.bh.cell hlt; have k6 := HW11.out.bh.free kk; have k2 : w11.cell? ⟨g10, 2, none⟩ = some (.string yt) := (HC10.out.below hb11).cell 2; rw [if_neg (Nat.lt_irrefl _)] at k5; have HB11 := hid hb11; clear h11 o11 HZ2 HB2 HG2 hb11))
        go_roundg (n - (kk + 1))
        case measure => omega
        case rel => exact ⟨kk + 1, by omega, by omega, by go_num, hid (HW11.out.next HX.out), hid ((HO.out.trans (Only.of_below HB11.out)).trans (Only.set (S := fun b => b = wa.heap.size) w11 ⟨wa.heap.size, kk, none⟩ _ rfl))⟩
    · have hltz : ¬ (kk : Int) < (n : Int) := by omega
      have HKN : Hid (kk = n) := hid (by omega)
      have HG10 : Hid (g10 ≠ wa.heap.size ∧ g10 ≠ g7 ∧ m ≠ wa.heap.size ∧ m ≠ g7) := hid ⟨fun e => CAt.apart HC9.out (HF.out.bh : CAt w9 _ _ 4) (by decide) e, CAt.apart HC9.out HF.out.c7 (by decide), HM.out.apart (HF.out.bh : CAt w9 _ _ 4), HM.out.apart HF.out.c7⟩
      obtain ⟨q, hqq⟩ : ∃ q, cntC (x0 :: r0) (lst yt) = q := ⟨_, rfl⟩
      have HQ := hid hqq
      have HSF : Hid (∀ W, Only (fun b => b = wa.heap.size ∨ b = g7) w9 W → (fun W => (Instr.loadAt 24 (.pointer (some ⟨g10, 0, none⟩))).run Tryd.prog W = .ok (.agg (jC ys (.slice yp yn yc))) W ∧ W.cell? ⟨g10, 2, none⟩ = some (.string yt) ∧ (Instr.lookup 67 (.map (some m)) (.string yt) false).run Tryd.prog W = .ok (i64 (q : Nat)) W) W) := hid (fun W hW => by
        have hc := HC9.out.keep (hW.block g10 HC9.out.lt (by have := HG10.out; omega))
        have hm := HM.out.keep (hW.block m HM.out.lt (by have := HG10.out; omega))
        refine ⟨?_, hc.cell 2, ?_⟩
        · simp only [Instr.loadAt, Instr.sureAddr, Sem.run_bind, Sem.run_pure, Result.andThen_ok, run_loadVar_at W g10 0 24 (jC ys (.slice yp yn yc)) _ (fun j u hu => by
            rw [Nat.zero_add, hc.cell]
            match j, hu with
            | 0, hu => exact hu
            | 1, hu => exact hu
            | j + 2, hu => simp [jC] at hu) underJrn rfl sizeJ]
        · have := hm.look yt HTX.out
          rw [HQ.out] at this
          exact this)
      have HOD := hid (HO.out.mono (T := fun b => b = wa.heap.size ∨ b = g7) (fun b e => Or.inl e))
      have HRW := hid HW.out.below
      have HG7 := hid HW.out.c7.lt
      clear hqq HL HAN HJN hmk
      go_wp2_with fail
      go_cut [5] from 72 (fun s5 wc => s5 = i64 0 ∧ ∃ gB CB : Nat, Hid (E9 w wr g7 gB CB (eC true ys (.slice yp yn yc) (.slice (some ⟨gB, 0, none⟩) yt.size CB) (.slice (some ⟨wa.heap.size, 0, none⟩) n n) A q) yt wc))
      case first =>
        have HO7 : Hid (Only (fun b => b = g7) wr wr.drew) := hid (Only.of_below (below_drew wr))
        have HC : Hid (CAt wr.drew g7 (eC false 0 nilS nilS (.slice (some ⟨wa.heap.size, 0, none⟩) n n) A 0) 40) := hid (HW.out.c7.below (below_drew wr))
        refine wp_region_held_drew (S := (fun W => (Instr.loadAt 24 (.pointer (some ⟨g10, 0, none⟩))).run Tryd.prog W = .ok (.agg (jC ys (.slice yp yn yc))) W ∧ W.cell? ⟨g10, 2, none⟩ = some (.string yt) ∧ (Instr.lookup 67 (.map (some m)) (.string yt) false).run Tryd.prog W = .ok (i64 (q : Nat)) W)) (by kernel_rfl) (HSF.out _ (HOD.out.trans (HO7.out.mono fun b e => Or.inr e))) (fun hHeld => ?_)
        generalize wr.drew = wd at HO7 HC hHeld ⊢
        refine wpAnyH_take (i := 0) (oi := ⟨some 72, .fieldAddr 70 (.tmp 10) 0, _, _, _, none⟩) (v := (.pointer (some ⟨g10, 0, none⟩))) rfl (by kernel_rfl) (by kernel_rfl) (by kernel_rfl) (fun _ _ _ h => h) (Or.inl ⟨by kernel_rfl, by intro W hW; obtain ⟨q0, q1, q2⟩ := hW; go_simp⟩) hHeld ?_
        refine wpAnyH_take (i := 1) (oi := ⟨some 73, .load 24 (.tmp 72), _, _, _, none⟩) (v := .agg (jC ys (.slice yp yn yc))) rfl (by kernel_rfl) (by kernel_rfl) (by kernel_rfl) (fun _ _ _ h => h) (Or.inl ⟨by kernel_rfl, fun W hW => exec_load rfl (by kernel_rfl) hW.1⟩) hHeld ?_
        refine wpAnyH_take (i := 2) (oi := ⟨some 74, .fieldAddr 70 (.tmp 10) 1, _, _, _, none⟩) (v := (.pointer (some ⟨g10, 2, none⟩))) rfl (by kernel_rfl) (by kernel_rfl) (by kernel_rfl) (fun _ _ _ h => h) (Or.inl ⟨by kernel_rfl, by intro W hW; obtain ⟨q0, q1, q2⟩ := hW; go_simp⟩) hHeld ?_
        refine wpAnyH_take (i := 3) (oi := ⟨some 75, .load 9 (.tmp 74), _, _, _, none⟩) (v := .string yt) rfl (by kernel_rfl) (by kernel_rfl) (by kernel_rfl) (fun _ _ _ h => h) (Or.inl ⟨by kernel_rfl, by intro W hW; obtain ⟨q0, q1, q2⟩ := hW; go_simp⟩) hHeld ?_
        refine wpAnyH_take (i := 5) (oi := ⟨some 77, .move (.tmp 9), _, _, _, none⟩) (v := .map (some m)) rfl (by kernel_rfl) (by kernel_rfl) (by kernel_rfl) (fun _ _ _ h => h) (Or.inl ⟨by kernel_rfl, by intro W hW; obtain ⟨q0, q1, q2⟩ := hW; go_simp⟩) hHeld ?_
        refine wpAnyH_take (i := 6) (oi := ⟨some 78, .fieldAddr 70 (.tmp 10) 1, _, _, _, none⟩) (v := (.pointer (some ⟨g10, 2, none⟩))) rfl (by kernel_rfl) (by kernel_rfl) (by kernel_rfl) (fun _ _ _ h => h) (Or.inl ⟨by kernel_rfl, by intro W hW; obtain ⟨q0, q1, q2⟩ := hW; go_simp⟩) hHeld ?_
        refine wpAnyH_take (i := 7) (oi := ⟨some 79, .load 9 (.tmp 78), _, _, _, none⟩) (v := .string yt) rfl (by kernel_rfl) (by kernel_rfl) (by kernel_rfl) (fun _ _ _ h => h) (Or.inl ⟨by kernel_rfl, by intro W hW; obtain ⟨q0, q1, q2⟩ := hW; go_simp⟩) hHeld ?_
        refine wpAnyH_take (i := 8) (oi := ⟨some 80, .lookup 67 (.tmp 77) (.tmp 79) false, _, _, _, none⟩) (v := i64 (q : Nat)) rfl (by kernel_rfl) (by kernel_rfl) (by kernel_rfl) (fun _ _ _ h => h) (Or.inl ⟨by kernel_rfl, by intro W hW; obtain ⟨q0, q1, q2⟩ := hW; go_simp⟩) hHeld ?_
        refine wpAnyH_take (i := 9) (oi := ⟨some 81, .fieldAddr 40 (.tmp 7) 0, _, _, _, none⟩) (v := (.pointer (some ⟨g7, 0, none⟩))) rfl (by kernel_rfl) (by kernel_rfl) (by kernel_rfl) (fun _ _ _ h => h) (Or.inl ⟨by kernel_rfl, by intro W hW; obtain ⟨q0, q1, q2⟩ := hW; go_simp⟩) hHeld ?_
        refine wpAnyH_ready (rs := [4, 10]) (by kernel_rfl) (by simp) ?_
        refine AllReadyH.cons (o := ⟨some 76, .convert 9 29 (.tmp 75), _, _, _, none⟩) rfl (fun K hK => ?_) (AllReadyH.cons (o := ⟨none, .store 4 (.tmp 81) (.const (.bool true)), _, _, _, none⟩) rfl (fun K hK => ?_) AllReadyH.nil)
        · with_reducible refine step_run_val ?_ (.slice (some ⟨wd.heap.size, 0, none⟩) yt.size (grownCap wd yt.size 0 5)) (Lib.bytesWorld wd 5 yt) ?_ ?_
          · exact rfl
          · exact exec_conv9 rfl (by kernel_rfl) (conv_new yt wd)
          have HSL := hid (bytesW_sl wd yt _ (cap_ge wd yt.size HTX.out).1)
          have HOV := hid (bytesW_ov w.heap.size wd yt (Nat.le_trans HRW.out.size HO7.out.size) HTX.out)
          have HGB : Hid (wr.heap.size ≤ wd.heap.size ∧ wd.heap.size < (Lib.bytesWorld wd 5 yt).heap.size) := hid ⟨HO7.out.size, by rw [Lib.bytesWorld_size]; exact Nat.lt_succ_self _⟩
          have hbw := bytesW_below wd yt
          replace HC := hid (HC.out.below hbw)
          replace HO7 := hid (HO7.out.trans (Only.of_below hbw))
          clear hbw
          generalize Lib.bytesWorld wd 5 yt = wm at HSL HOV HGB HC HO7 ⊢
          generalize grownCap wd yt.size 0 5 = CB at HSL HOV ⊢
          generalize wd.heap.size = gB at HSL HOV HGB ⊢
          refine hK.out _ _ (HSF.out _ (HOD.out.trans (HO7.out.mono fun b e => Or.inr e))) (fun hHeld => ?_)
          clear hK K
          refine wpAnyH_ready (rs := [10]) (by kernel_rfl) (by simp) ?_
          refine AllReadyH.cons (o := ⟨none, .store 4 (.tmp 81) (.const (.bool true)), _, _, _, none⟩) rfl (fun K hK => ?_) AllReadyH.nil
          with_reducible refine step_storeM 4 ?_ ?_ (.tmp 81) (.const (.bool true)) ?_ g7 0 ?_ (.bool true) ?_ [.bool true] ?_ ?_ ?_ HC.out ?_ (eC true 0 nilS nilS (.slice (some ⟨wa.heap.size, 0, none⟩) n n) A 0) ?_ ?_
          · exact rfl
          · exact rfl
          · exact rfl
          · kernel_rfl
          · kernel_rfl
          · exact rfl
          · kernel_rfl
          · simp [Value.oneCell']
          · simp [eC]
          · exact rfl
          intro wn hn9 on9
          have hsz := on9.size
          replace HC := hid hn9
          replace HSL := hid (HSL.out.keepB (on9.block gB HGB.out.2 (by have := HG7.out; have := HGB.out.1; omega)))
          replace HOV := hid (HOV.out.keepB (on9.block gB HGB.out.2 (by have := HG7.out; have := HGB.out.1; omega)) hsz)
          replace HGB : Hid (wr.heap.size ≤ gB ∧ gB < wn.heap.size) := hid ⟨HGB.out.1, Nat.lt_of_lt_of_le HGB.out.2 hsz⟩
          replace HO7 := hid (HO7.out.trans on9)
          clear hn9 on9 hsz
          refine hK.out _ _ (HSF.out _ (HOD.out.trans (HO7.out.mono fun b e => Or.inr e))) (fun hHeld => ?_)
          clear hK K
          refine wpAnyH_take (i := 11) (oi := ⟨some 82, .fieldAddr 40 (.tmp 7) 1, _, _, _, none⟩) (v := (.pointer (some ⟨g7, 1, none⟩))) rfl (by kernel_rfl) (by kernel_rfl) (by kernel_rfl) (fun _ _ _ h => h) (Or.inl ⟨by kernel_rfl, by intro W hW; obtain ⟨q0, q1, q2⟩ := hW; go_simp⟩) hHeld ?_
          refine wpAnyH_ready (rs := [12]) (by kernel_rfl) (by simp) ?_
          refine AllReadyH.cons (o := ⟨none, .store 24 (.tmp 82) (.tmp 73), _, _, _, none⟩) rfl (fun K hK => ?_) AllReadyH.nil
          with_reducible refine step_storeM 24 ?_ ?_ (.tmp 82) (.tmp 73) ?_ g7 1 ?_ (.agg (jC ys (.slice yp yn yc))) ?_ [i64 ys, (.slice yp yn yc)] ?_ ?_ ?_ HC.out ?_ (eC true ys (.slice yp yn yc) nilS (.slice (some ⟨wa.heap.size, 0, none⟩) n n) A 0) ?_ ?_
          · exact rfl
          · exact rfl
          · exact rfl
          · kernel_rfl
          · kernel_rfl
          · exact rfl
          · kernel_rfl
          · simp [Value.oneCell']
          · simp [eC]
          · exact rfl
          intro wn hn9 on9
          have hsz := on9.size
          replace HC := hid hn9
          replace HSL := hid (HSL.out.keepB (on9.block gB HGB.out.2 (by have := HG7.out; have := HGB.out.1; omega)))
          replace HOV := hid (HOV.out.keepB (on9.block gB HGB.out.2 (by have := HG7.out; have := HGB.out.1; omega)) hsz)
          replace HGB : Hid (wr.heap.size ≤ gB ∧ gB < wn.heap.size) := hid ⟨HGB.out.1, Nat.lt_of_lt_of_le HGB.out.2 hsz⟩
          replace HO7 := hid (HO7.out.trans on9)
          clear hn9 on9 hsz
          refine hK.out _ _ (HSF.out _ (HOD.out.trans (HO7.out.mono fun b e => Or.inr e))) (fun hHeld => ?_)
          clear hK K
          refine wpAnyH_take (i := 13) (oi := ⟨some 83, .fieldAddr 40 (.tmp 7) 2, _, _, _, none⟩) (v := (.pointer (some ⟨g7, 3, none⟩))) rfl (by kernel_rfl) (by kernel_rfl) (by kernel_rfl) (fun _ _ _ h => h) (Or.inl ⟨by kernel_rfl, by intro W hW; obtain ⟨q0, q1, q2⟩ := hW; go_simp⟩) hHeld ?_
          refine wpAnyH_ready (rs := [14]) (by kernel_rfl) (by simp) ?_
          refine AllReadyH.cons (o := ⟨none, .store 29 (.tmp 83) (.tmp 76), _, _, _, none⟩) rfl (fun K hK => ?_) AllReadyH.nil
          with_reducible refine step_storeM 29 ?_ ?_ (.tmp 83) (.tmp 76) ?_ g7 3 ?_ ((.slice (some ⟨gB, 0, none⟩) yt.size CB)) ?_ [(.slice (some ⟨gB, 0, none⟩) yt.size CB)] ?_ ?_ ?_ HC.out ?_ (eC true ys (.slice yp yn yc) (.slice (some ⟨gB, 0, none⟩) yt.size CB) (.slice (some ⟨wa.heap.size, 0, none⟩) n n) A 0) ?_ ?_
          · exact rfl
          · exact rfl
          · exact rfl
          · kernel_rfl
          · kernel_rfl
          · exact rfl
          · kernel_rfl
          · simp [Value.oneCell']
          · simp [eC]
          · exact rfl
          intro wn hn9 on9
          have hsz := on9.size
          replace HC := hid hn9
          replace HSL := hid (HSL.out.keepB (on9.block gB HGB.out.2 (by have := HG7.out; have := HGB.out.1; omega)))
          replace HOV := hid (HOV.out.keepB (on9.block gB HGB.out.2 (by have := HG7.out; have := HGB.out.1; omega)) hsz)
          replace HGB : Hid (wr.heap.size ≤ gB ∧ gB < wn.heap.size) := hid ⟨HGB.out.1, Nat.lt_of_lt_of_le HGB.out.2 hsz⟩
          replace HO7 := hid (HO7.out.trans on9)
          clear hn9 on9 hsz
          refine hK.out _ _ (HSF.out _ (HOD.out.trans (HO7.out.mono fun b e => Or.inr e))) (fun hHeld => ?_)
          clear hK K
          refine wpAnyH_take (i := 15) (oi := ⟨some 84, .fieldAddr 40 (.tmp 7) 5, _, _, _, none⟩) (v := (.pointer (some ⟨g7, 6, none⟩))) rfl (by kernel_rfl) (by kernel_rfl) (by kernel_rfl) (fun _ _ _ h => h) (Or.inl ⟨by kernel_rfl, by intro W hW; obtain ⟨q0, q1, q2⟩ := hW; go_simp⟩) hHeld ?_
          refine wpAnyH_ready (rs := [16]) (by kernel_rfl) (by simp) ?_
          refine AllReadyH.cons (o := ⟨none, .store 3 (.tmp 84) (.tmp 80), _, _, _, none⟩) rfl (fun K hK => ?_) AllReadyH.nil
          with_reducible refine step_storeM 3 ?_ ?_ (.tmp 84) (.tmp 80) ?_ g7 6 ?_ (i64 (q : Nat)) ?_ [i64 (q : Nat)] ?_ ?_ ?_ HC.out ?_ (eC true ys (.slice yp yn yc) (.slice (some ⟨gB, 0, none⟩) yt.size CB) (.slice (some ⟨wa.heap.size, 0, none⟩) n n) A q) ?_ ?_
          · exact rfl
          · exact rfl
          · exact rfl
          · kernel_rfl
          · kernel_rfl
          · exact rfl
          · kernel_rfl
          · simp [Value.oneCell']
          · simp [eC]
          · exact rfl
          intro wn hn9 on9
          have hsz := on9.size
          replace HC := hid hn9
          replace HSL := hid (HSL.out.keepB (on9.block gB HGB.out.2 (by have := HG7.out; have := HGB.out.1; omega)))
          replace HOV := hid (HOV.out.keepB (on9.block gB HGB.out.2 (by have := HG7.out; have := HGB.out.1; omega)) hsz)
          replace HGB : Hid (wr.heap.size ≤ gB ∧ gB < wn.heap.size) := hid ⟨HGB.out.1, Nat.lt_of_lt_of_le HGB.out.2 hsz⟩
          replace HO7 := hid (HO7.out.trans on9)
          clear hn9 on9 hsz
          refine hK.out _ _ (HSF.out _ (HOD.out.trans (HO7.out.mono fun b e => Or.inr e))) (fun hHeld => ?_)
          clear hK K
          refine wpAnyH_done (by kernel_rfl) ?_ _
          simp only [Act.put, List.setIfInBounds_toArray, List.set_cons_zero, List.set_cons_succ]
          clear hHeld
          go_wp2_with fail
          go_meet
          case rel => exact ⟨rfl, gB, CB, hid ⟨HC.out, HO7.out, HSL.out, HOV.out, HGB.out.1, HGB.out.2⟩⟩
        · with_reducible refine step_storeM 4 ?_ ?_ (.tmp 81) (.const (.bool true)) ?_ g7 0 ?_ (.bool true) ?_ [.bool true] ?_ ?_ ?_ HC.out ?_ (eC true 0 nilS nilS (.slice (some ⟨wa.heap.size, 0, none⟩) n n) A 0) ?_ ?_
          · exact rfl
          · exact rfl
          · exact rfl
          · kernel_rfl
          · kernel_rfl
          · exact rfl
          · kernel_rfl
          · simp [Value.oneCell']
          · simp [eC]
          · exact rfl
          intro wn hn9 on9
          have hsz := on9.size
          replace HC := hid hn9
          replace HO7 := hid (HO7.out.trans on9)
          clear hn9 on9 hsz
          refine hK.out _ _ (HSF.out _ (HOD.out.trans (HO7.out.mono fun b e => Or.inr e))) (fun hHeld => ?_)
          clear hK K
          refine wpAnyH_take (i := 11) (oi := ⟨some 82, .fieldAddr 40 (.tmp 7) 1, _, _, _, none⟩) (v := (.pointer (some ⟨g7, 1, none⟩))) rfl (by kernel_rfl) (by kernel_rfl) (by kernel_rfl) (fun _ _ _ h => h) (Or.inl ⟨by kernel_rfl, by intro W hW; obtain ⟨q0, q1, q2⟩ := hW; go_simp⟩) hHeld ?_
          refine wpAnyH_ready (rs := [4, 12]) (by kernel_rfl) (by simp) ?_
          refine AllReadyH.cons (o := ⟨some 76, .convert 9 29 (.tmp 75), _, _, _, none⟩) rfl (fun K hK => ?_) (AllReadyH.cons (o := ⟨none, .store 24 (.tmp 82) (.tmp 73), _, _, _, none⟩) rfl (fun K hK => ?_) AllReadyH.nil)
          · with_reducible refine step_run_val ?_ (.slice (some ⟨wn.heap.size, 0, none⟩) yt.size (grownCap wn yt.size 0 5)) (Lib.bytesWorld wn 5 yt) ?_ ?_
            · exact rfl
            · exact exec_conv9 rfl (by kernel_rfl) (conv_new yt wn)
            have HSL := hid (bytesW_sl wn yt _ (cap_ge wn yt.size HTX.out).1)
            have HOV := hid (bytesW_ov w.heap.size wn yt (Nat.le_trans HRW.out.size HO7.out.size) HTX.out)
            have HGB : Hid (wr.heap.size ≤ wn.heap.size ∧ wn.heap.size < (Lib.bytesWorld wn 5 yt).heap.size) := hid ⟨HO7.out.size, by rw [Lib.bytesWorld_size]; exact Nat.lt_succ_self _⟩
            have hbw := bytesW_below wn yt
            replace HC := hid (HC.out.below hbw)
            replace HO7 := hid (HO7.out.trans (Only.of_below hbw))
            clear hbw
            generalize Lib.bytesWorld wn 5 yt = wm at HSL HOV HGB HC HO7 ⊢
            generalize grownCap wn yt.size 0 5 = CB at HSL HOV ⊢
            generalize wn.heap.size = gB at HSL HOV HGB ⊢
            refine hK.out _ _ (HSF.out _ (HOD.out.trans (HO7.out.mono fun b e => Or.inr e))) (fun hHeld => ?_)
            clear hK K
            refine wpAnyH_ready (rs := [12]) (by kernel_rfl) (by simp) ?_
            refine AllReadyH.cons (o := ⟨none, .store 24 (.tmp 82) (.tmp 73), _, _, _, none⟩) rfl (fun K hK => ?_) AllReadyH.nil
            with_reducible refine step_storeM 24 ?_ ?_ (.tmp 82) (.tmp 73) ?_ g7 1 ?_ (.agg (jC ys (.slice yp yn yc))) ?_ [i64 ys, (.slice yp yn yc)] ?_ ?_ ?_ HC.out ?_ (eC true ys (.slice yp yn yc) nilS (.slice (some ⟨wa.heap.size, 0, none⟩) n n) A 0) ?_ ?_
            · exact rfl
            · exact rfl
            · exact rfl
            · kernel_rfl
            · kernel_rfl
            · exact rfl
            · kernel_rfl
            · simp [Value.oneCell']
            · simp [eC]
            · exact rfl
            intro wn hn9 on9
            have hsz := on9.size
            replace HC := hid hn9
            replace HSL := hid (HSL.out.keepB (on9.block gB HGB.out.2 (by have := HG7.out; have := HGB.out.1; omega)))
            replace HOV := hid (HOV.out.keepB (on9.block gB HGB.out.2 (by have := HG7.out; have := HGB.out.1; omega)) hsz)
            replace HGB : Hid (wr.heap.size ≤ gB ∧ gB < wn.heap.size) := hid ⟨HGB.out.1, Nat.lt_of_lt_of_le HGB.out.2 hsz⟩
            replace HO7 := hid (HO7.out.trans on9)
            clear hn9 on9 hsz
            refine hK.out _ _ (HSF.out _ (HOD.out.trans (HO7.out.mono fun b e => Or.inr e))) (fun hHeld => ?_)
            clear hK K
            refine wpAnyH_take (i := 13) (oi := ⟨some 83, .fieldAddr 40 (.tmp 7) 2, _, _, _, none⟩) (v := (.pointer (some ⟨g7, 3, none⟩))) rfl (by kernel_rfl) (by kernel_rfl) (by kernel_rfl) (fun _ _ _ h => h) (Or.inl ⟨by kernel_rfl, by intro W hW; obtain ⟨q0, q1, q2⟩ := hW; go_simp⟩) hHeld ?_
            refine wpAnyH_ready (rs := [14]) (by kernel_rfl) (by simp) ?_
            refine AllReadyH.cons (o := ⟨none, .store 29 (.tmp 83) (.tmp 76), _, _, _, none⟩) rfl (fun K hK => ?_) AllReadyH.nil
            with_reducible refine step_storeM 29 ?_ ?_ (.tmp 83) (.tmp 76) ?_ g7 3 ?_ ((.slice (some ⟨gB, 0, none⟩) yt.size CB)) ?_ [(.slice (some ⟨gB, 0, none⟩) yt.size CB)] ?_ ?_ ?_ HC.out ?_ (eC true ys (.slice yp yn yc) (.slice (some ⟨gB, 0, none⟩) yt.size CB) (.slice (some ⟨wa.heap.size, 0, none⟩) n n) A 0) ?_ ?_
            · exact rfl
            · exact rfl
            · exact rfl
            · kernel_rfl
            · kernel_rfl
            · exact rfl
            · kernel_rfl
            · simp [Value.oneCell']
            · simp [eC]
            · exact rfl
            intro wn hn9 on9
            have hsz := on9.size
            replace HC := hid hn9
            replace HSL := hid (HSL.out.keepB (on9.block gB HGB.out.2 (by have := HG7.out; have := HGB.out.1; omega)))
            replace HOV := hid (HOV.out.keepB (on9.block gB HGB.out.2 (by have := HG7.out; have := HGB.out.1; omega)) hsz)
            replace HGB : Hid (wr.heap.size ≤ gB ∧ gB < wn.heap.size) := hid ⟨HGB.out.1, Nat.lt_of_lt_of_le HGB.out.2 hsz⟩
            replace HO7 := hid (HO7.out.trans on9)
            clear hn9 on9 hsz
            refine hK.out _ _ (HSF.out _ (HOD.out.trans (HO7.out.mono fun b e => Or.inr e))) (fun hHeld => ?_)
            clear hK K
            refine wpAnyH_take (i := 15) (oi := ⟨some 84, .fieldAddr 40 (.tmp 7) 5, _, _, _, none⟩) (v := (.pointer (some ⟨g7, 6, none⟩))) rfl (by kernel_rfl) (by kernel_rfl) (by kernel_rfl) (fun _ _ _ h => h) (Or.inl ⟨by kernel_rfl, by intro W hW; obtain ⟨q0, q1, q2⟩ := hW; go_simp⟩) hHeld ?_
            refine wpAnyH_ready (rs := [16]) (by kernel_rfl) (by simp) ?_
            refine AllReadyH.cons (o := ⟨none, .store 3 (.tmp 84) (.tmp 80), _, _, _, none⟩) rfl (fun K hK => ?_) AllReadyH.nil
            with_reducible refine step_storeM 3 ?_ ?_ (.tmp 84) (.tmp 80) ?_ g7 6 ?_ (i64 (q : Nat)) ?_ [i64 (q : Nat)] ?_ ?_ ?_ HC.out ?_ (eC true ys (.slice yp yn yc) (.slice (some ⟨gB, 0, none⟩) yt.size CB) (.slice (some ⟨wa.heap.size, 0, none⟩) n n) A q) ?_ ?_
            · exact rfl
            · exact rfl
            · exact rfl
            · kernel_rfl
            · kernel_rfl
            · exact rfl
            · kernel_rfl
            · simp [Value.oneCell']
            · simp [eC]
            · exact rfl
            intro wn hn9 on9
            have hsz := on9.size
            replace HC := hid hn9
            replace HSL := hid (HSL.out.keepB (on9.block gB HGB.out.2 (by have := HG7.out; have := HGB.out.1; omega)))
            replace HOV := hid (HOV.out.keepB (on9.block gB HGB.out.2 (by have := HG7.out; have := HGB.out.1; omega)) hsz)
            replace HGB : Hid (wr.heap.size ≤ gB ∧ gB < wn.heap.size) := hid ⟨HGB.out.1, Nat.lt_of_lt_of_le HGB.out.2 hsz⟩
            replace HO7 := hid (HO7.out.trans on9)
            clear hn9 on9 hsz
            refine hK.out _ _ (HSF.out _ (HOD.out.trans (HO7.out.mono fun b e => Or.inr e))) (fun hHeld => ?_)
            clear hK K
            refine wpAnyH_done (by kernel_rfl) ?_ _
            simp only [Act.put, List.setIfInBounds_toArray, List.set_cons_zero, List.set_cons_succ]
            clear hHeld
            go_wp2_with fail
            go_meet
            case rel => exact ⟨rfl, gB, CB, hid ⟨HC.out, HO7.out, HSL.out, HOV.out, HGB.out.1, HGB.out.2⟩⟩
          · with_reducible refine step_storeM 24 ?_ ?_ (.tmp 82) (.tmp 73) ?_ g7 1 ?_ (.agg (jC ys (.slice yp yn yc))) ?_ [i64 ys, (.slice yp yn yc)] ?_ ?_ ?_ HC.out ?_ (eC true ys (.slice yp yn yc) nilS (.slice (some ⟨wa.heap.size, 0, none⟩) n n) A 0) ?_ ?_
            · exact rfl
            · exact rfl
            · exact rfl
            · kernel_rfl
            · kernel_rfl
            · exact rfl
            · kernel_rfl
            · simp [Value.oneCell']
            · simp [eC]
            · exact rfl
            intro wn hn9 on9
            have hsz := on9.size
            replace HC := hid hn9
            replace HO7 := hid (HO7.out.trans on9)
            clear hn9 on9 hsz
            refine hK.out _ _ (HSF.out _ (HOD.out.trans (HO7.out.mono fun b e => Or.inr e))) (fun hHeld => ?_)
            clear hK K
            refine wpAnyH_ready (rs := [4]) (by kernel_rfl) (by simp) ?_
            refine AllReadyH.cons (o := ⟨some 76, .convert 9 29 (.tmp 75), _, _, _, none⟩) rfl (fun K hK => ?_) AllReadyH.nil
            with_reducible refine step_run_val ?_ (.slice (some ⟨wn.heap.size, 0, none⟩) yt.size (grownCap wn yt.size 0 5)) (Lib.bytesWorld wn 5 yt) ?_ ?_
            · exact rfl
            · exact exec_conv9 rfl (by kernel_rfl) (conv_new yt wn)
            have HSL := hid (bytesW_sl wn yt _ (cap_ge wn yt.size HTX.out).1)
            have HOV := hid (bytesW_ov w.heap.size wn yt (Nat.le_trans HRW.out.size HO7.out.size) HTX.out)
            have HGB : Hid (wr.heap.size ≤ wn.heap.size ∧ wn.heap.size < (Lib.bytesWorld wn 5 yt).heap.size) := hid ⟨HO7.out.size, by rw [Lib.bytesWorld_size]; exact Nat.lt_succ_self _⟩
            have hbw := bytesW_below wn yt
            replace HC := hid (HC.out.below hbw)
            replace HO7 := hid (HO7.out.trans (Only.of_below hbw))
            clear hbw
            generalize Lib.bytesWorld wn 5 yt = wm at HSL HOV HGB HC HO7 ⊢
            generalize grownCap wn yt.size 0 5 = CB at HSL HOV ⊢
            generalize wn.heap.size = gB at HSL HOV HGB ⊢
            refine hK.out _ _ (HSF.out _ (HOD.out.trans (HO7.out.mono fun b e => Or.inr e))) (fun hHeld => ?_)
            clear hK K
            refine wpAnyH_take (i := 13) (oi := ⟨some 83, .fieldAddr 40 (.tmp 7) 2, _, _, _, none⟩) (v := (.pointer (some ⟨g7, 3, none⟩))) rfl (by kernel_rfl) (by kernel_rfl) (by kernel_rfl) (fun _ _ _ h => h) (Or.inl ⟨by kernel_rfl, by intro W hW; obtain ⟨q0, q1, q2⟩ := hW; go_simp⟩) hHeld ?_
            refine wpAnyH_ready (rs := [14]) (by kernel_rfl) (by simp) ?_
            refine AllReadyH.cons (o := ⟨none, .store 29 (.tmp 83) (.tmp 76), _, _, _, none⟩) rfl (fun K hK => ?_) AllReadyH.nil
            with_reducible refine step_storeM 29 ?_ ?_ (.tmp 83) (.tmp 76) ?_ g7 3 ?_ ((.slice (some ⟨gB, 0, none⟩) yt.size CB)) ?_ [(.slice (some ⟨gB, 0, none⟩) yt.size CB)] ?_ ?_ ?_ HC.out ?_ (eC true ys (.slice yp yn yc) (.slice (some ⟨gB, 0, none⟩) yt.size CB) (.slice (some ⟨wa.heap.size, 0, none⟩) n n) A 0) ?_ ?_
            · exact rfl
            · exact rfl
            · exact rfl
            · kernel_rfl
            · kernel_rfl
            · exact rfl
            · kernel_rfl
            · simp [Value.oneCell']
            · simp [eC]
            · exact rfl
            intro wn hn9 on9
            have hsz := on9.size
            replace HC := hid hn9
            replace HSL := hid (HSL.out.keepB (on9.block gB HGB.out.2 (by have := HG7.out; have := HGB.out.1; omega)))
            replace HOV := hid (HOV.out.keepB (on9.block gB HGB.out.2 (by have := HG7.out; have := HGB.out.1; omega)) hsz)
            replace HGB : Hid (wr.heap.size ≤ gB ∧ gB < wn.heap.size) := hid ⟨HGB.out.1, Nat.lt_of_lt_of_le HGB.out.2 hsz⟩
            replace HO7 := hid (HO7.out.trans on9)
            clear hn9 on9 hsz
            refine hK.out _ _ (HSF.out _ (HOD.out.trans (HO7.out.mono fun b e => Or.inr e))) (fun hHeld => ?_)
            clear hK K
            refine wpAnyH_take (i := 15) (oi := ⟨some 84, .fieldAddr 40 (.tmp 7) 5, _, _, _, none⟩) (v := (.pointer (some ⟨g7, 6, none⟩))) rfl (by kernel_rfl) (by kernel_rfl) (by kernel_rfl) (fun _ _ _ h => h) (Or.inl ⟨by kernel_rfl, by intro W hW; obtain ⟨q0, q1, q2⟩ := hW; go_simp⟩) hHeld ?_
            refine wpAnyH_ready (rs := [16]) (by kernel_rfl) (by simp) ?_
            refine AllReadyH.cons (o := ⟨none, .store 3 (.tmp 84) (.tmp 80), _, _, _, none⟩) rfl (fun K hK => ?_) AllReadyH.nil
            with_reducible refine step_storeM 3 ?_ ?_ (.tmp 84) (.tmp 80) ?_ g7 6 ?_ (i64 (q : Nat)) ?_ [i64 (q : Nat)] ?_ ?_ ?_ HC.out ?_ (eC true ys (.slice yp yn yc) (.slice (some ⟨gB, 0, none⟩) yt.size CB) (.slice (some ⟨wa.heap.size, 0, none⟩) n n) A q) ?_ ?_
            · exact rfl
            · exact rfl
            · exact rfl
            · kernel_rfl
            · kernel_rfl
            · exact rfl
            · kernel_rfl
            · simp [Value.oneCell']
            · simp [eC]
            · exact rfl
            intro wn hn9 on9
            have hsz := on9.size
            replace HC := hid hn9
            replace HSL := hid (HSL.out.keepB (on9.block gB HGB.out.2 (by have := HG7.out; have := HGB.out.1; omega)))
            replace HOV := hid (HOV.out.keepB (on9.block gB HGB.out.2 (by have := HG7.out; have := HGB.out.1; omega)) hsz)
            replace HGB : Hid (wr.heap.size ≤ gB ∧ gB < wn.heap.size) := hid ⟨HGB.out.1, Nat.lt_of_lt_of_le HGB.out.2 hsz⟩
            replace HO7 := hid (HO7.out.trans on9)
            clear hn9 on9 hsz
            refine hK.out _ _ (HSF.out _ (HOD.out.trans (HO7.out.mono fun b e => Or.inr e))) (fun hHeld => ?_)
            clear hK K
            refine wpAnyH_done (by kernel_rfl) ?_ _
            simp only [Act.put, List.setIfInBounds_toArray, List.set_cons_zero, List.set_cons_succ]
            clear hHeld
            go_wp2_with fail
            go_meet
            case rel => exact ⟨rfl, gB, CB, hid ⟨HC.out, HO7.out, HSL.out, HOV.out, HGB.out.1, HGB.out.2⟩⟩
      case rest =>
        obtain ⟨rfl, gB, CB, H9⟩ := hcut
        have HC4 := hid (HW.out.c4.keep (H9.out.o7.block g4 HW.out.c4.lt HW.out.ne))
        go_wp2_with (first
          | ((with_reducible refine wpList_load_at 40 _ rfl ?_ g7 0 ?_ (eC true ys (.slice yp yn yc) (.slice (some ⟨gB, 0, none⟩) yt.size CB) (.slice (some ⟨wa.heap.size, 0, none⟩) n n) A q) _ ?_ underCh rfl ?_ ?_); exact rfl; exact rfl; exact H9.out.c7.whole; exact sizeCh)
          | ((with_reducible refine wpList_storeX 40 7 sizeCh rfl rfl _ _ rfl g4 ?_ (D := eC true ys (.slice yp yn yc) (.slice (some ⟨gB, 0, none⟩) yt.size CB) (.slice (some ⟨wa.heap.size, 0, none⟩) n n) A q) ?_ ?_ ?_ ?_ HC4.out ?_); exact rfl; exact rfl; exact rfl; exact rfl; exact eC_one _ _ rfl rfl rfl _ _; intro w17 h17 o17; have HC17 := hid h17; have HO17 := hid o17; clear h17 o17))
        have HL4 := HGH.out
        have hg4 := HW.out.c4.lt
        have hgB := H9.out.ge
        have hkB : w17.heap[gB]? = wc.heap[gB]? := HO17.out.block _ H9.out.lt (by omega)
        have hall : Only (fun b => b = wa.heap.size ∨ b = g7 ∨ b = g4) w9 w17 := ((HOD.out.mono (fun b e => e.imp id Or.inl)).trans (H9.out.o7.mono fun b e => Or.inr (Or.inl e))).trans (HO17.out.mono fun b e => Or.inr (Or.inr e))
        have hbh := (HW.out.bh.keep (H9.out.o7.block _ HW.out.bh.lt (fun e => HW.out.n7 e.symm))).keep (HO17.out.block _ (Nat.lt_of_lt_of_le HW.out.bh.lt H9.out.o7.size) (fun e => HW.out.n4 e.symm))
        have hyj : (⟨ys, rcs y.m⟩, lst yt) = Y := by rw [← HYJ.out]; unfold Hv.jb; rw [HYS.out, HYT.out]
        have hrs := HYO.out.rs
        rw [HYF.out] at hrs
        refine ret_rowE rfl g4 rfl rfl rfl HC17.out ⟨ys, (.slice yp yn yc), (.slice (some ⟨gB, 0, none⟩) yt.size CB), (.slice (some ⟨wa.heap.size, 0, none⟩) n n), y.m, ?_, (hrs.only hall (fun i e => by omega)).base HS4.out, ?_, HYO.out.small, ?_, H9.out.ov.keepB hkB HO17.out.size, ?_, ?_⟩
        · rw [HA.out, ← hyj, HQ.out]; rfl
        · rw [← hyj]
        · rw [← hyj]; exact H9.out.sl.keepB hkB
        · rw [← hyj]
          refine hbh.bol (by rw [List.length_map, cps_len, HN.out]) (fun i x hx => ?_)
          rw [List.getElem?_map] at hx
          obtain ⟨c9, hc9, rfl⟩ := Option.map_eq_some_iff.1 hx
          have hi : i < n := by rw [← HN.out, ← cps_len]; exact (List.getElem?_eq_some_iff.1 hc9).1
          show (if i < kk then _ else _) = _
          rw [if_pos (by rw [HKN.out]; exact hi)]
          exact hasF_at hc9
        · exact below_tr (below_tr HW.out.below (H9.out.o7.below HW.out.below.size (fun i e => by have := HW.out.l7; omega))) (HO17.out.below (Nat.le_trans HW.out.below.size H9.out.o7.size) (fun i e => by have := HW.out.l4; omega))
end Go.Proofs.YtelkijiphhoacaaDoor
