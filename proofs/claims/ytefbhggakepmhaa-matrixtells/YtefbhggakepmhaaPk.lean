/- The walk of MatrixTells: of any two matrices that are not large the product, the inverse, the rank and the errors are the document's own; what is handed in stays, and the answers lie in memory of their own. No conditions. -/
import Derived.Test.YtefbhggakepmhaaPj
namespace Go.Proofs.Ytefbhggakepmhaa
open Go.RowKit

/-- append at its place, guarded or not, by what it is known to do. -/
theorem wpList_append_run {P : Program} {w w' : World} {ops : Array Oper} {rest : List Oper} {o : Oper} {a : Act} {Q : Exit → Act → World → Prop} (s x : Operand) (t : TypeId)
    (ho : o.op = .call { callee := .builtin .append, args := #[s, x], argTypes := #[t, t] }) (hw : Region.wanted o (yielded ops a.tmps) = true)
    (v xv v' : Value) (hs : a.eval s = v) (hx : a.eval x = xv) (hr : (Builtin.append_ #[t, t] o.type #[v, xv]).run P w = .ok v' w') (h : wpList P ops Q rest (a.put o.dst v') w') : wpList P ops Q (o :: rest) a w := by
  refine BigFrame.wpList_want hw fun K hK => ?_
  unfold Oper.wp execOp
  simp only [ho, resolve, invoke, builtin, Sem.run_bind, Sem.run_pure, Result.andThen_ok, List.map_toArray, List.map_cons, List.map_nil, hs, hx, hr]
  exact hK _ _ h
theorem join_run {w : World} {B B' n m : Nat} {v s : Value} {xs ys : List Value} (hv : w.ownsRow B 41 1 v n xs) (hs : w.ownsRow B' 41 1 s m ys) (h1 : ∀ u ∈ ys, u.oneCell' = true) (hb : n + m ≤ 1000) (hB : B ≤ w.heap.size) :
    ∃ v' w', (Builtin.append_ #[22, 22] 22 #[v, s]).run Try.prog w = .ok v' w' ∧ w'.ownsRow B 41 1 v' (n + m) (xs ++ ys) ∧ w.grownBy w' v.ownBlock ∧ (v'.ownBlock = v.ownBlock ∨ v'.ownBlock = some w.heap.size) := by
  obtain ⟨i0, hi0, hz0, hz1, hz2⟩ := info_parts Try.info41
  rcases hs.2 with ⟨rfl, rfl⟩ | ⟨g, cap, cur, rfl, _, _, _⟩
  · have hy : ys = [] := List.eq_nil_of_length_eq_zero (by simpa using hs.1)
    subst hy
    exact ⟨v, w, run_append_owned_none (P := Try.prog) w B 22 22 41 i0 1 Try.underlying22 hi0 v n xs hv, by simpa using hv, ⟨rfl, rfl, rfl, Nat.le_refl _, fun _ _ _ => rfl⟩, .inl rfl⟩
  · obtain ⟨v', w', hr, h2, h3, _, h5⟩ := run_append_own_at (P := Try.prog) w B 22 22 41 i0 (.slice none 0 0) 1 24 Try.underlying22 hi0 hz0 hz1 hz2 rfl (by decide) v n xs hv ⟨g, 0, none⟩ m cap ys hs.1 (hs.cells (g := g) rfl) h1 (by unfold maxLen; omega) (by omega) hB
    exact ⟨v', w', hr, h2, h3, h5⟩
theorem vals_append (n m : Nat) (V W : Nat → Value) : vals n V ++ vals m W = vals (n + m) fun i => if i < n then V i else W (i - n) := by
  apply List.ext_getElem?
  intro i
  by_cases h1 : i < n
  · rw [List.getElem?_append_left (by rw [vals_len]; exact h1), vals_get _ _ _ h1, vals_get _ _ _ (by omega), if_pos h1]
  · rw [List.getElem?_append_right (by rw [vals_len]; omega), vals_len]
    by_cases h2 : i < n + m
    · rw [vals_get _ _ _ (by omega), vals_get _ _ _ h2, if_neg h1]
    · rw [List.getElem?_eq_none (by rw [vals_len]; omega), List.getElem?_eq_none (by rw [vals_len]; omega)]
/-- One of two, by place. -/
def two {α : Type} (n : Nat) (f g : Nat → α) (i : Nat) : α := if i < n then f i else g (i - n)
theorem OwnV.spare {B : Nat} {S : Nat → Prop} {w w' : World} {v : Value} {n : Nat} {G M C N Q : Nat → Nat} {X : Nat → Nat → K} (h : OwnV B w v n G M C N Q X) (hs : SpareIn S w w') (h1 : ∀ i, i < n → ¬ S (G i)) (h2 : ∀ b, v.ownBlock = some b → ¬ S b) : OwnV B w' v n G M C N Q X where
  top := own_keepV h.top (fun b q => hs.block b (h.top.lt b q).2 (h2 b q))
  row := fun i hi => own_keep (h.row i hi) (hs.block _ (own_ge (h.row i hi)).2 (h1 i hi))
  inj := h.inj
theorem slice_one {n : Nat} {G L C : Nat → Nat} : ∀ u ∈ vals n (fun i => .slice (some ⟨G i, 0, none⟩) (L i) (C i)), u.oneCell' = true := fun u hu => by
  unfold vals at hu
  obtain ⟨i, _, rfl⟩ := List.mem_map.1 hu
  rfl
/-- Two lists of rows joined. -/
theorem join_any {B : Nat} {w : World} {v1 v2 : Value} {n1 n2 : Nat} {G1 L1 C1 G2 L2 C2 : Nat → Nat} {X1 X2 : Nat → Nat → K} (h1 : OwnV B w v1 n1 G1 L1 C1 C1 C1 X1) (h2 : OwnV B w v2 n2 G2 L2 C2 C2 C2 X2) (hB : B ≤ w.heap.size) (hn : n1 + n2 ≤ 300) (hap : ∀ i k, i < n1 → k < n2 → G1 i ≠ G2 k) :
    ∃ u1 wa u2 wb, (Builtin.append_ #[22, 22] 22 #[.slice (some ⟨w.heap.size, 0, none⟩) 0 0, v1]).run Try.prog (w.alloc (.cells #[] 41)) = .ok u1 wa ∧ (Builtin.append_ #[22, 22] 22 #[u1, v2]).run Try.prog wa = .ok u2 wb ∧
      OwnV B wb u2 (n1 + n2) (two n1 G1 G2) (two n1 L1 L2) (two n1 C1 C2) (two n1 C1 C2) (two n1 C1 C2) (two n1 X1 X2) ∧ Below w.heap.size w wb := by
  have hz : (w.alloc (.cells #[] 41)).heap.size = w.heap.size + 1 := by simp
  have hv0 := World.ownsRow_lit (base := B) (e := 41) (size := 1) w #[] 0 hB (by unfold maxLen; omega) rfl
  have hb0 : Below w.heap.size w (w.alloc (.cells #[] 41)) := (Below.refl _ _).alloc (Nat.le_refl _) _
  obtain ⟨u1, wa, r1, o1, g1, at1⟩ := join_run hv0 (h1.stay hb0).top slice_one (by omega) (by omega)
  have hu1 : ∀ b, u1.ownBlock = some b → w.heap.size ≤ b := fun b q => by
    rcases at1 with e | e
    · rw [e] at q; have q2 : w.heap.size = b := by simpa [Value.ownBlock] using q
      omega
    · rw [e, hz] at q; have q2 : w.heap.size + 1 = b := by simpa using q
      omega
  have hba : Below w.heap.size w wa := Below.grown hb0 g1 (by omega) (fun b q => Nat.le_of_eq (by simpa [Value.ownBlock] using q))
  have hsa := g1.size
  obtain ⟨u2, wb, r2, o2, g2, at2⟩ := join_run o1 (h2.stay hba).top slice_one (by omega) (by omega)
  have hbb : Below w.heap.size w wb := Below.grown hba g2 (by omega) (fun b q => hu1 b q)
  refine ⟨u1, wa, u2, wb, r1, r2, ⟨?_, ?_, ?_⟩, hbb⟩
  · have e : ((#[] : Array Value).toList ++ vals n1 fun i => Value.slice (some ⟨G1 i, 0, none⟩) (L1 i) (C1 i)) ++ (vals n2 fun i => Value.slice (some ⟨G2 i, 0, none⟩) (L2 i) (C2 i)) = vals (n1 + n2) fun i => .slice (some ⟨two n1 G1 G2 i, 0, none⟩) (two n1 L1 L2 i) (two n1 C1 C2 i) := by
      rw [List.nil_append, vals_append]
      refine vals_congr (fun i _ => ?_)
      unfold two
      by_cases q : i < n1
      · rw [if_pos q, if_pos q, if_pos q, if_pos q]
      · rw [if_neg q, if_neg q, if_neg q, if_neg q]
    rw [e] at o2
    have e2 : 0 + n1 + n2 = n1 + n2 := by omega
    rw [e2] at o2; exact o2
  · intro i hi
    unfold two
    by_cases q : i < n1
    · simp only [if_pos q]; exact (h1.stay hbb).row i q
    · simp only [if_neg q]; exact (h2.stay hbb).row (i - n1) (by omega)
  · intro i j hi hj q
    unfold two at q
    by_cases q1 : i < n1
    · by_cases q2 : j < n1
      · rw [if_pos q1, if_pos q2] at q; exact h1.inj i j q1 q2 q
      · rw [if_pos q1, if_neg q2] at q; exact absurd q (hap i (j - n1) q1 (by omega))
    · by_cases q2 : j < n1
      · rw [if_neg q1, if_pos q2] at q; exact absurd q.symm (hap j (i - n1) q2 (by omega))
      · rw [if_neg q1, if_neg q2] at q; have := h2.inj (i - n1) (j - n1) (by omega) (by omega) q; omega
theorem cnt_le (e : Int) (n : Nat) : cnt e n ≤ n := by unfold cnt; split <;> omega

set_option maxRecDepth 100000 in
set_option maxHeartbeats 8000000 in
theorem tells_any (a b : Option Addr) (n1 c1 n2 c2 : Nat) (w : World) (h1 : IsMat w a n1) (h2 : IsMat w b n2) :
    Calls Try.prog 3 #[.slice a n1 c1, .slice b n2 c2] w fun e w' => e = .returned (.bool true) ∧ Below w.heap.size w w' := by
  obtain ⟨A1, L1, C1, X1, m1⟩ := h1
  obtain ⟨A2, L2, C2, X2, m2⟩ := h2
  have M1 := hid m1
  have M2 := hid m2
  clear m1 m2
  go_enter Try.func3, Try.ntmps3
  go_wp2_with fail
  refine (large_any a n1 c1 A1 L1 C1 w M1.out.top).mono ?_
  rintro e w' ⟨rfl, hw⟩
  have hw2 := hw.symm
  subst hw2
  clear hw
  cases g1 : big n1 L1 with
  | true =>
    go_wp2
    go_ret
    exact ⟨rfl, Below.refl _ _⟩
  | false =>
    have q1 := big_not g1
    go_wp2_with fail
    refine (large_any b n2 c2 A2 L2 C2 w M2.out.top).mono ?_
    rintro e w' ⟨rfl, hw⟩
    have hw2 := hw.symm
    subst hw2
    clear hw
    cases g2 : big n2 L2 with
    | true =>
      go_wp2
      go_ret
      exact ⟨rfl, Below.refl _ _⟩
    | false =>
      have q2 := big_not g2
      have l1 := q1.1
      have l2 := q2.1
      have Q1 := hid q1.2
      have Q2 := hid q2.2
      clear q1 q2 g1 g2
      go_wp2_with fail
      refine (lentLists_any a n1 c1 A1 L1 C1 X1 w l1 Q1.out M1.out).mono ?_
      rintro e w1 ⟨vp, Gp, rfl, hp, hb1⟩
      obtain ⟨pp, cp, rfl, _⟩ := own_len hp.top
      have P1 := hid hp
      have B1 := hid hb1
      have M2a := hid (M2.out.keep (Stays.of_below hb1))
      clear hp hb1
      go_wp2_with fail
      refine (lentLists_any b n2 c2 A2 L2 C2 X2 w1 l2 Q2.out M2a.out).mono ?_
      rintro e w2 ⟨vq, Gq, rfl, hq, hb2⟩
      obtain ⟨pq, cq, rfl, _⟩ := own_len hq.top
      have R2 := hid hq
      have P2 := hid (OwnV.stay P1.out hb2)
      have B2 := hid (B1.out.then hb2)
      clear hq hb2 P1 B1 M2a
      go_wp2_with fail
      refine (mulU pp pq n1 n2 cp cq _ _ L1 L2 _ _ X1 X2 w2 l1 l2 (LentAt.toMatAt P2.out) (LentAt.toMatAt R2.out)).mono ?_
      rintro e w3 ⟨ux, cx, Gx, rfl, hx, hb3⟩
      have X3 := hid hx
      have P3 := hid (OwnV.stay P2.out hb3)
      have B3 := hid (B2.out.then hb3)
      have GX : Hid (∀ i, i < cnt (errMul n1 L1 n2 L2) n1 → w2.heap.size ≤ Gx i ∧ Gx i < w3.heap.size) := fun i hi => own_ge (hx.row i hi)
      have GP : Hid (∀ i, i < n1 → Gp i < w2.heap.size) := fun i hi => (own_ge (OwnV.row P2.out i hi)).2
      have TP : Hid (∀ z, (Value.slice pp n1 cp).ownBlock = some z → z < w2.heap.size) := fun z hz => (P2.out.top.lt z hz).2
      have hs2 := B2.out.size
      have hs3 := hb3.size
      clear hx hb3 P2 R2 B2
      go_wp2_with fail
      refine (rmulU a b n1 n2 c1 c2 A1 A2 L1 L2 C1 C2 X1 X2 w3 l1 l2 (M1.out.keep (Stays.of_below B3.out)) (M2.out.keep (Stays.of_below B3.out))).mono ?_
      rintro e w4 ⟨uy, cy, Gy, rfl, hy, hb4⟩
      have Y4 := hid hy
      have X4 := hid (OwnV.stay X3.out hb4)
      have P4 := hid (OwnV.stay P3.out hb4)
      have B4 := hid (B3.out.then hb4)
      have hs4 := hb4.size
      clear hy hb4 X3 P3 B3
      go_wp2_with fail
      refine (invU pp n1 cp _ L1 _ X1 w4 l1 (LentAt.toMatAt P4.out)).mono ?_
      rintro e w5 ⟨uu, cu, Gu, Yu, rfl, hu, hYu, hb5⟩
      have U5 := hid hu
      have HYU := hid hYu
      have X5 := hid (OwnV.stay X4.out hb5)
      have Y5 := hid (OwnV.stay Y4.out hb5)
      have P5 := hid (OwnV.stay P4.out hb5)
      have B5 := hid (B4.out.then hb5)
      have GU : Hid (∀ i, i < cnt (errI n1 L1 X1) n1 → w4.heap.size ≤ Gu i) := fun i hi => (own_ge (hu.row i hi)).1
      have TU : Hid (∀ z, (Value.slice uu (cnt (errI n1 L1 X1) n1) cu).ownBlock = some z → w4.heap.size ≤ z) := fun z hz => (hu.top.lt z hz).1
      have hs5 := hb5.size
      clear hu hYu hb5 X4 Y4 P4 B4
      go_wp2_with fail
      refine (rinvU a n1 c1 A1 L1 C1 X1 w5 l1 (M1.out.keep (Stays.of_below B5.out))).mono ?_
      rintro e w6 ⟨uv, cv, Gv, Qv, Yv, rfl, hv, hYv, hb6⟩
      have V6 := hid hv
      have HYV := hid hYv
      have X6 := hid (OwnV.stay X5.out hb6)
      have Y6 := hid (OwnV.stay Y5.out hb6)
      have P6 := hid (OwnV.stay P5.out hb6)
      have U6 := hid (OwnV.stay U5.out hb6)
      have B6 := hid (B5.out.then hb6)
      clear hv hYv hb6 X5 Y5 P5 U5 B5
      go_wp2_with fail
      refine (rankU pp n1 cp _ L1 _ X1 w6 l1 (LentAt.toMatAt P6.out)).mono ?_
      rintro e w7 ⟨rfl, hb7⟩
      have X7 := hid (OwnV.stay X6.out hb7)
      have Y7 := hid (OwnV.stay Y6.out hb7)
      have P7 := hid (OwnV.stay P6.out hb7)
      have U7 := hid (OwnV.stay U6.out hb7)
      have V7 := hid (OwnV.stay V6.out hb7)
      have B7 := hid (B6.out.then hb7)
      clear hb7 X6 Y6 P6 U6 V6 B6
      go_wp2_with fail
      refine (rrankU a n1 c1 A1 L1 C1 X1 w7 l1 (M1.out.keep (Stays.of_below B7.out))).mono ?_
      rintro e w8 ⟨rfl, hb8⟩
      have X8 := hid (OwnV.stay X7.out hb8)
      have Y8 := hid (OwnV.stay Y7.out hb8)
      have P8 := hid (OwnV.stay P7.out hb8)
      have U8 := hid (OwnV.stay U7.out hb8)
      have V8 := hid (OwnV.stay V7.out hb8)
      have B8 := hid (B7.out.then hb8)
      clear hb8 X7 Y7 P7 U7 V7 B7
      have s1 : (errMul n1 L1 n2 L2 != errMul n1 L1 n2 L2) = false := by simp
      have s2 : (errI n1 L1 X1 != errI n1 L1 X1) = false := by simp
      have s3 : (((rkU n1 L1 X1 : Nat) : Int) != ((rkU n1 L1 X1 : Nat) : Int)) = false := by simp
      have s4 : (errC n1 L1 != errC n1 L1) = false := by simp
      have k1 := cnt_le (errMul n1 L1 n2 L2) n1
      have k2 := cnt_le (errI n1 L1 X1) n1
      go_wp2_with fail
      refine (sameLists_true ux uy (cnt (errMul n1 L1 n2 L2) n1) cx cy _ _ (fun _ => L2 0) _ _ (pr (L1 0) X1 X2) (pr (L1 0) X1 X2) w8 (by omega) (X8.out.toMatAt (fun _ _ => ⟨Nat.le_refl _, Nat.le_refl _⟩) (fun _ _ _ _ => rfl)) (Y8.out.toMatAt (fun _ _ => ⟨Nat.le_refl _, Nat.le_refl _⟩) (fun _ _ _ _ => rfl)) (fun _ _ _ _ => rfl)).mono ?_
      rintro e w9 ⟨rfl, hb9⟩
      have X9 := hid (OwnV.stay X8.out hb9)
      have P9 := hid (OwnV.stay P8.out hb9)
      have U9 := hid (OwnV.stay U8.out hb9)
      have V9 := hid (OwnV.stay V8.out hb9)
      have B9 := hid (B8.out.then hb9)
      clear hb9 X8 Y8 P8 U8 V8 B8
      go_wp2_with fail
      refine (sameLists_true uu uv (cnt (errI n1 L1 X1) n1) cu cv _ _ (fun _ => n1) _ _ Yu Yv w9 (by omega) (U9.out.toMatAt (fun _ _ => ⟨Nat.le_refl _, Nat.le_refl _⟩) (fun _ _ _ _ => rfl)) (V9.out.toMatAt (fun i hi => ⟨Nat.le_refl _, own_le (V9.out.row i hi)⟩) (fun _ _ _ _ => rfl)) (fun i hi j hj => by
        obtain ⟨hz, hi'⟩ := cnt_pos hi
        exact (inv_one (HYV.out hz) (HYU.out hz) i j hi' hj).symm)).mono ?_
      rintro e wA ⟨rfl, hbA⟩
      have XA := hid (OwnV.stay X9.out hbA)
      have PA := hid (OwnV.stay P9.out hbA)
      have UA := hid (OwnV.stay U9.out hbA)
      have BA := hid (B9.out.then hbA)
      clear hbA X9 P9 U9 V9 B9
      go_wp2_with fail
      refine (check_any pp n1 cp _ L1 _ wA l1 (LentAt.toMatAt PA.out).top).mono ?_
      rintro e w' ⟨rfl, hw⟩
      have hw2 := hw.symm
      subst hw2
      clear hw
      go_wp2_with fail
      refine (rcheck_any a n1 c1 A1 L1 C1 wA l1 (M1.out.keep (Stays.of_below BA.out)).top).mono ?_
      rintro e wB ⟨rfl, zB, hwB⟩
      have hbB : Below wA.heap.size wA wB := by rw [hwB]; exact below_drewN (Below.refl _ _)
      have XB := hid (OwnV.stay XA.out hbB)
      have PB := hid (OwnV.stay PA.out hbB)
      have UB := hid (OwnV.stay UA.out hbB)
      have BB := hid (BA.out.then hbB)
      clear hbB hwB XA PA UA BA
      have ok2 : Hid (∀ i, i < cnt (errMul n1 L1 n2 L2) n1 → 1 ≤ L2 0 ∧ L2 0 ≤ 300) := fun i hi => by
        have hz := (errMul_zero (cnt_pos hi).1).2.1
        have := errC_zero hz
        omega
      go_wp2_with fail
      refine (apart_any w2.heap.size _ (cnt (errMul n1 L1 n2 L2) n1) Gx (fun _ => L2 0) (fun _ => L2 0) _ wB (by omega) ok2.out XB.out).mono ?_
      rintro e wC ⟨rfl, hsC⟩
      have hsB := BB.out.size
      have PC := hid (OwnV.spare PB.out hsC (fun i hi ⟨r, hr, q⟩ => by have := GX.out r hr; have := GP.out i hi; omega) (fun z hz ⟨r, hr, q⟩ => by have := GX.out r hr; have := TP.out z hz; omega))
      have UC := hid (OwnV.spare UB.out hsC (fun i hi ⟨r, hr, q⟩ => by have := GX.out r hr; have := GU.out i hi; omega) (fun z hz ⟨r, hr, q⟩ => by have := GX.out r hr; have := TU.out z hz; omega))
      have BC := hid (hsC.below BB.out hsB (fun z ⟨r, hr, q⟩ => by have := GX.out r hr; omega))
      have hsC2 := BC.out.size
      obtain ⟨v1, wD, v2, wE, hr1, hr2, hj, hbE⟩ := join_any (UC.out.base (B' := w.heap.size) (by omega)) PC.out hsC2 (by omega) (fun i k hi hk q => by have := GU.out i hi; have := GP.out k hk; omega)
      have HJ := hid hj
      have BE := hid (BC.out.then hbE)
      have hCC : Hid (∀ i, i < cnt (errI n1 L1 X1) n1 + n1 → 1 ≤ two (cnt (errI n1 L1 X1) n1) (fun _ => n1) (fun i => L1 i + 3) i ∧ two (cnt (errI n1 L1 X1) n1) (fun _ => n1) (fun i => L1 i + 3) i ≤ 300) := fun i hi => by
        unfold two
        by_cases q : i < cnt (errI n1 L1 X1) n1
        · simp only [if_pos q]; have := (cnt_pos q).2; omega
        · simp only [if_neg q]; have := Q1.out (i - cnt (errI n1 L1 X1) n1) (by omega); omega
      have HGE : Hid (∀ i, i < cnt (errI n1 L1 X1) n1 + n1 → w.heap.size ≤ two (cnt (errI n1 L1 X1) n1) Gu Gp i) := fun i hi => (own_ge (hj.row i hi)).1
      have HR1 := hid hr1
      have HR2 := hid hr2
      clear hsC hj hbE PC UC BC XB PB UB hr1 hr2
      go_wp2_with (first | (at_builtin; refine wpList_append_run (.tmp 101) (.tmp 102) 22 rfl (by first | rfl | simp [Region.wanted, yielded]) _ _ v1 rfl rfl HR1.out ?_) | (at_builtin; refine wpList_append_run (.tmp 103) (.tmp 104) 22 rfl (by first | rfl | simp [Region.wanted, yielded]) _ _ v2 rfl rfl HR2.out ?_))
      refine (apart_any w.heap.size v2 (cnt (errI n1 L1 X1) n1 + n1) _ _ _ _ wE (by omega) hCC.out HJ.out).mono ?_
      rintro e wF ⟨rfl, hsF⟩
      have BF := hid (hsF.below BE.out BE.out.size (fun z ⟨r, hr, q⟩ => by rw [q]; exact HGE.out r hr))
      clear hsF
      go_wp2_with fail
      refine (awake_any wF).mono ?_
      rintro e wG ⟨rfl, hbG⟩
      have BG := hid (BF.out.then hbG)
      clear hbG
      go_wp2
      go_ret
      exact ⟨rfl, BG.out⟩
end Go.Proofs.Ytefbhggakepmhaa
