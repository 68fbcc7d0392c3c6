/- Texts laid into one: the remark ahead of each part says what is proved there. -/
import Derived.Test.YtelkijiphhoacaaDoorLaa
import Derived.Test.YtelkijiphhoacaaDoorLab
import Derived.Test.YtelkijiphhoacaaDoorLac
import Derived.Test.YtelkijiphhoacaaDoorLad
import Derived.Test.YtelkijiphhoacaaDoorLae
import Derived.Test.YtelkijiphhoacaaDoorLaf
import Derived.Test.YtelkijiphhoacaaDoorLag
import Derived.Test.YtelkijiphhoacaaDoorLah
import Derived.Test.YtelkijiphhoacaaDoorLai
import Derived.Test.YtelkijiphhoacaaDoorLaj
import Derived.Test.YtelkijiphhoacaaDoorLak
import Derived.Test.YtelkijiphhoacaaDoorLal
import Derived.Test.YtelkijiphhoacaaDoorLam
import Derived.Test.YtelkijiphhoacaaDoorLan
import Derived.Test.YtelkijiphhoacaaDoorLao
import Derived.Test.YtelkijiphhoacaaDoorLap
import Derived.Test.YtelkijiphhoacaaDoorLaq
import Derived.Test.YtelkijiphhoacaaDoorLar
import Derived.Test.YtelkijiphhoacaaDoorLas
import Derived.Test.YtelkijiphhoacaaDoorLat
import Derived.Test.YtelkijiphhoacaaDoorLau
import Derived.Test.YtelkijiphhoacaaDoorLav
import Derived.Test.YtelkijiphhoacaaDoorRaa
import Derived.Test.YtelkijiphhoacaaDoorRae
import Derived.Laws.OwnMore
/- copies: copies in memory of their own. -/
namespace Go.Proofs.YtelkijiphhoacaaDoor
open Go Go.RowKit

def Cv.row (x : Cv) : List Value := [i64 x.err, x.v]
theorem crow_len (L : List Cv) : ∀ r ∈ L.map Cv.row, r.length = 2 := fun r hr => by obtain ⟨x, _, rfl⟩ := List.mem_map.1 hr; rfl
/-- Copies in a row of their own, their bytes too. -/
structure CI (B : Nat) (w : World) (v : Value) (L : List Cv) : Prop where
  buf : XB 36 2 B w v (L.map Cv.row)
  each : ∀ x ∈ L, Buf B w x.v x.bs ∧ (∀ z ∈ x.bs, z < 256) ∧ x.bs.length ≤ 100000
theorem CI.nil (B : Nat) (w : World) : CI B w nilS [] := ⟨XB.nil _ _ B w, fun x hx => by cases hx⟩
theorem CI.on {B : Nat} {w w' : World} {v : Value} {L : List Cv} (h : CI B w v L) (hb : Below w.heap.size w w') : CI B w' v L := ⟨h.buf.below hb, fun x hx => ⟨(h.each x hx).1.below hb, (h.each x hx).2⟩⟩
theorem own_blk9 {B e sz n : Nat} {w : World} {v : Value} {xs : List Value} (h : w.ownsRow B e sz v n xs) {b : Nat} (hb : v.ownBlock = some b) : ∃ cur, CAt w b cur e := by
  rcases h.2 with ⟨e2, _⟩ | ⟨g', cap, cur, e2, _, hg', _⟩
  · rw [e2] at hb; cases hb
  · rw [e2] at hb
    cases hb
    exact ⟨cur, hg'⟩
theorem own_otherO9 {B1 e1 z1 n1 B2 e2 z2 n2 : Nat} {w w' : World} {u v : Value} {xs ys : List Value} (h1 : w.ownsRow B1 e1 z1 u n1 xs) (h2 : w.ownsRow B2 e2 z2 v n2 ys) (ht : e1 ≠ e2) (hO : Only (fun b => v.ownBlock = some b) w w') : w'.ownsRow B1 e1 z1 u n1 xs :=
  ownsRow_keep h1 fun b hb => hO.block b (own_ge h1 b hb).2 (fun k => by
    obtain ⟨c1, k1⟩ := own_blk9 h1 hb
    obtain ⟨c2, k2⟩ := own_blk9 h2 k
    exact k1.apart k2 ht rfl)
theorem CI.push {B : Nat} {w : World} {v : Value} {L : List Cv} (h : CI B w v L) (x : Cv) (hx : Buf B w x.v x.bs) (h8 : ∀ z ∈ x.bs, z < 256) (hs : x.bs.length ≤ 100000) (hn : L.length ≤ 1000) (hB : B ≤ w.heap.size) (ty : TypeId) :
    ∃ v' w', (Builtin.append_ #[25, 25] ty #[v, .slice (some ⟨w.heap.size, 0, none⟩) 1 1]).run Tryd.prog (w.alloc (.cells (cC x.err x.v) 36)) = .ok v' w' ∧ CI B w' v' (L ++ [x]) ∧ Below B w w' := by
  have hal := below_al w (.cells (cC x.err x.v) 36)
  have hc : CAt (w.alloc (.cells (cC x.err x.v) 36)) w.heap.size (cC x.err x.v) 36 := CAt.made w _ _
  have h1 := h.on hal
  have hB1 : B ≤ (w.alloc (.cells (cC x.err x.v) 36)).heap.size := by rw [size_al]; omega
  obtain ⟨px, cx, hxf⟩ := hx.form
  obtain ⟨v', w', hr, h2, h3, _⟩ := h1.buf.app (ty := ty) (T := 25) Tryd.underlying25 Tryd.infoCp rfl (by decide) w.heap.size 0 1 [x.row] (fun r hr => by rcases List.mem_singleton.1 hr with rfl; rfl) (fun r hr => by
    rcases List.mem_singleton.1 hr with rfl
    intro u hu
    simp only [Cv.row, List.mem_cons, List.not_mem_nil, or_false] at hu
    rcases hu with rfl | rfl
    · rfl
    · rw [hxf]; rfl) (fun i r hr j u hu => by
    rcases i with _ | i
    · simp at hr
      subst hr
      rw [Nat.zero_mul, Nat.zero_add, hc.cell]
      simpa [cC, Cv.row] using hu
    · simp at hr) (by rw [List.length_map]; simp; omega) (by decide) hB1
  have hO : Only (fun b => v.ownBlock = some b) (w.alloc (.cells (cC x.err x.v) 36)) w' := Only.of_grown h3 fun b e _ => e
  refine ⟨v', w', hr, ⟨by rw [List.map_append]; exact h2, fun y hy => ?_⟩, below_tr (below_less hal hB) (XB.mono hB1 h3 h1.buf)⟩
  rcases List.mem_append.1 hy with hy | hy
  · exact ⟨own_otherO9 (h1.each y hy).1 h1.buf (by decide) hO, (h1.each y hy).2⟩
  · rcases List.mem_singleton.1 hy with rfl
    exact ⟨own_otherO9 (hx.below hal) h1.buf (by decide) hO, h8, hs⟩
theorem CI.cl {B : Nat} {w : World} {v : Value} {L : List Cv} (h : CI B w v L) (hn : L.length ≤ 1000) : CL w v L := by
  obtain ⟨po, c, e, h1, h2⟩ := h.buf.form
  rw [List.length_map] at e h1
  refine ⟨po, c, e, h1, hn, h2, ?_, fun x hx => ?_⟩
  · by_cases h0 : 0 < L.length
    · obtain ⟨g, c2, e2, _, _, _, h3⟩ := h.buf.cells (crow_len L) (by rw [List.length_map]; exact h0)
      rw [List.length_map] at e2
      rw [e] at e2
      cases e2
      refine Or.inr ⟨g, 0, rfl, fun i x hx => ?_⟩
      have h4 := h3 i x.row (by rw [List.getElem?_map, hx]; rfl)
      exact ⟨by have := h4 0 (i64 x.err) rfl; simpa using this, h4 1 x.v rfl⟩
    · exact Or.inl (List.eq_nil_of_length_eq_zero (by omega))
  · obtain ⟨h3, h4, h5⟩ := h.each x hx
    obtain ⟨p, c3, e3⟩ := h3.form
    have h6 := h3
    rw [e3] at h6
    have := h6.cv rfl h5 h4 x.err
    rw [← e3] at this
    exact this
theorem exec_app9 {a : Act} {o : Oper} {s x : Operand} {t t2 : TypeId} {v xv v' : Value} {W W' : World} (ho : o.op = .call { callee := .builtin .append, args := #[s, x], argTypes := #[t, t2] }) (hs : a.eval s = v) (hx : a.eval x = xv) (hr : (Builtin.append_ #[t, t2] o.type #[v, xv]).run Tryd.prog W = .ok v' W') : (execOp a.eval o).run Tryd.prog W = .ok (.value v') W' := by
  unfold execOp
  simp only [ho, resolve, invoke, builtin, Sem.run_bind, Sem.run_pure, Result.andThen_ok, List.map_toArray, List.map_cons, List.map_nil, hs, hx, hr]
theorem exec_bsC {a : Act} {o : Oper} {x : Operand} {e : Int} {v : Value} {W : World} (ho : o.op = .buildSlice 25 1 #[(0, x)]) (hx : a.eval x = .agg (cC e v)) : (execOp a.eval o).run Tryd.prog W = .ok (.value (.slice (some ⟨W.heap.size, 0, none⟩) 1 1)) (W.alloc (.cells (cC e v) 36)) := by
  have h := run_buildX (T := 25) Tryd.underlying25 Tryd.infoCp (by decide) (by decide) W (cC e v) rfl
  unfold execOp
  simp only [ho, List.map_toArray, List.map_cons, List.map_nil, hx, Sem.run_bind, h, Result.andThen_ok, Sem.run_pure]
/-- What copies tells. -/
def CpS (w : World) (l : List Cp) (e : Ending) (w' : World) : Prop := ∃ v' L, e = .returned v' ∧ CI w.heap.size w' v' L ∧ cps L = l ∧ Below w.heap.size w w'
set_option maxRecDepth 100000 in
set_option maxHeartbeats 4000000 in
theorem copies9_any (v : Value) (l : List Cv) (w : World) (hl : CL w v l) : Calls Tryd.prog 9 #[v] w (CpS w (cps l)) := by
  have HL := hid hl
  obtain ⟨po, c, rfl, hc1, hn, -⟩ := hl
  obtain ⟨n, hN⟩ : ∃ n, l.length = n := ⟨_, rfl⟩
  have HN := hid hN
  rw [hN] at hn HL ⊢
  clear hN hc1
  go_enter Tryd.func9, Tryd.ntmps9
  go_wp2
  go_loopg [3, 4] n (fun gg s3 s4 wr => ∃ (kk : Nat) (L : List Cv), kk ≤ n ∧ n - kk ≤ gg ∧ s4 = i64 kk ∧ Hid (CI w.heap.size wr s3 L) ∧ Hid (cps L = cps (l.take kk)) ∧ Hid (L.length ≤ kk) ∧ Hid (Below w.heap.size w wr))
  case atStart => exact ⟨0, [], Nat.zero_le _, by omega, rfl, hid (CI.nil _ _), hid rfl, hid (Nat.le_refl _), hid (Below.refl _ _)⟩
  case round =>
    obtain ⟨kk, L, hkk, hg, rfl, HI, HCE, HLN, BW⟩ := hrel
    obtain ⟨ph, ch, hfh, -⟩ := HI.out.buf.form
    obtain ⟨nh, hnh⟩ : ∃ nh, (L.map Cv.row).length = nh := ⟨_, rfl⟩
    rw [hnh] at hfh
    subst hfh
    by_cases hlt : kk < n
    · have hltz : (kk : Int) < (n : Int) := by omega
      obtain ⟨x, hx⟩ : ∃ x, l[kk]? = some x := ⟨_, List.getElem?_eq_getElem (by have := HN.out; omega)⟩
      obtain ⟨b, o, c', e, -⟩ := HL.out.where hx
      rw [HN.out] at e
      cases e
      obtain ⟨-, -, hok0⟩ := HL.out.at BW.out hx
      obtain ⟨p1, c1, hxv, -, -, hnil⟩ := hok0.sl
      obtain ⟨m1, hm1⟩ : ∃ m, x.bs.length = m := ⟨_, rfl⟩
      rw [hm1] at hxv
      have H8 := hid hok0.byte
      have HSM := hid hok0.small
      have HX := hid hx
      have HSF : Hid (∀ W, Below w.heap.size w W → (fun W => W.cell? ⟨b, o + kk * 2, none⟩ = some (i64 x.err) ∧ W.cell? ⟨b, o + kk * 2 + 1, none⟩ = some (.slice p1 m1 c1)) W) := hid (fun W hW => by
        obtain ⟨h1, h2, -⟩ := HL.out.at hW hx
        rw [hxv] at h2
        exact ⟨h1, h2⟩)
      have HCP : Hid (∀ W, Below w.heap.size w W → Calls Tryd.prog 24 #[.slice p1 m1 c1] W (BufS W.heap.size W x.bs)) := hid (fun W hW => by
        have h3 := (HL.out.at hW hx).2.2.slv
        rw [hxv] at h3
        exact copyB_any h3 (by have := HSM.out; omega) (fun n9 c9 e9 => by cases e9; exact hnil rfl))
      unfold BufS at HCP
      obtain ⟨E, hEE⟩ : ∃ E, x.err = E := ⟨_, rfl⟩
      have HEE := hid hEE
      rw [hEE] at HSF
      clear hok0 hxv hm1 hx hnil hnh hEE
      go_wp2_with fail
      have HD := hid (below_drew wr)
      refine wp_region_held_drew (S := (fun W => W.cell? ⟨b, o + kk * 2, none⟩ = some (i64 E) ∧ W.cell? ⟨b, o + kk * 2 + 1, none⟩ = some (.slice p1 m1 c1))) (by kernel_rfl) (HSF.out _ (below_on BW.out HD.out)) (fun hHeld => ?_)
      replace HI := hid (HI.out.on HD.out)
      replace BW := hid (below_on BW.out HD.out)
      generalize wr.drew = wd at HI BW hHeld ⊢
      refine wpAnyH_take (i := 0) (oi := ⟨some 11, .move (.tmp 3), _, _, _, none⟩) (v := .slice ph nh ch) rfl (by kernel_rfl) (by kernel_rfl) (by kernel_rfl) (fun _ _ _ h => h) (Or.inl ⟨by kernel_rfl, by intro W hW; obtain ⟨q0, q1⟩ := hW; go_simp⟩) hHeld ?_
      refine wpAnyH_take (i := 1) (oi := ⟨some 12, .move (.tmp 0), _, _, _, none⟩) (v := .slice (some ⟨b, o, none⟩) n c) rfl (by kernel_rfl) (by kernel_rfl) (by kernel_rfl) (fun _ _ _ h => h) (Or.inl ⟨by kernel_rfl, by intro W hW; obtain ⟨q0, q1⟩ := hW; go_simp⟩) hHeld ?_
      refine wpAnyH_take (i := 2) (oi := ⟨some 13, .move (.tmp 4), _, _, _, none⟩) (v := i64 kk) rfl (by kernel_rfl) (by kernel_rfl) (by kernel_rfl) (fun _ _ _ h => h) (Or.inl ⟨by kernel_rfl, by intro W hW; obtain ⟨q0, q1⟩ := hW; go_simp⟩) hHeld ?_
      refine wpAnyH_take (i := 3) (oi := ⟨some 14, .indexAddr 25 (.tmp 12) (.tmp 13), _, _, _, none⟩) (v := .pointer (some ⟨b, o + kk * 2, none⟩)) rfl (by kernel_rfl) (by kernel_rfl) (by kernel_rfl) (fun _ _ _ h => h) (Or.inl ⟨by kernel_rfl, by intro W hW; obtain ⟨q0, q1⟩ := hW; go_simp⟩) hHeld ?_
      refine wpAnyH_take (i := 4) (oi := ⟨some 15, .fieldAddr 36 (.tmp 14) 0, _, _, _, none⟩) (v := .pointer (some ⟨b, o + kk * 2, none⟩)) rfl (by kernel_rfl) (by kernel_rfl) (by kernel_rfl) (fun _ _ _ h => h) (Or.inl ⟨by kernel_rfl, by intro W hW; obtain ⟨q0, q1⟩ := hW; go_simp⟩) hHeld ?_
      refine wpAnyH_take (i := 5) (oi := ⟨some 16, .load 30 (.tmp 15), _, _, _, none⟩) (v := i64 E) rfl (by kernel_rfl) (by kernel_rfl) (by kernel_rfl) (fun _ _ _ h => h) (Or.inl ⟨by kernel_rfl, by intro W hW; obtain ⟨q0, q1⟩ := hW; go_simp⟩) hHeld ?_
      refine wpAnyH_take (i := 6) (oi := ⟨some 17, .move (.tmp 0), _, _, _, none⟩) (v := .slice (some ⟨b, o, none⟩) n c) rfl (by kernel_rfl) (by kernel_rfl) (by kernel_rfl) (fun _ _ _ h => h) (Or.inl ⟨by kernel_rfl, by intro W hW; obtain ⟨q0, q1⟩ := hW; go_simp⟩) hHeld ?_
      refine wpAnyH_take (i := 7) (oi := ⟨some 18, .move (.tmp 4), _, _, _, none⟩) (v := i64 kk) rfl (by kernel_rfl) (by kernel_rfl) (by kernel_rfl) (fun _ _ _ h => h) (Or.inl ⟨by kernel_rfl, by intro W hW; obtain ⟨q0, q1⟩ := hW; go_simp⟩) hHeld ?_
      refine wpAnyH_take (i := 8) (oi := ⟨some 19, .indexAddr 25 (.tmp 17) (.tmp 18), _, _, _, none⟩) (v := .pointer (some ⟨b, o + kk * 2, none⟩)) rfl (by kernel_rfl) (by kernel_rfl) (by kernel_rfl) (fun _ _ _ h => h) (Or.inl ⟨by kernel_rfl, by intro W hW; obtain ⟨q0, q1⟩ := hW; go_simp⟩) hHeld ?_
      refine wpAnyH_take (i := 9) (oi := ⟨some 20, .fieldAddr 36 (.tmp 19) 1, _, _, _, none⟩) (v := .pointer (some ⟨b, o + kk * 2 + 1, none⟩)) rfl (by kernel_rfl) (by kernel_rfl) (by kernel_rfl) (fun _ _ _ h => h) (Or.inl ⟨by kernel_rfl, by intro W hW; obtain ⟨q0, q1⟩ := hW; go_simp⟩) hHeld ?_
      refine wpAnyH_take (i := 10) (oi := ⟨some 21, .load 29 (.tmp 20), _, _, _, none⟩) (v := .slice p1 m1 c1) rfl (by kernel_rfl) (by kernel_rfl) (by kernel_rfl) (fun _ _ _ h => h) (Or.inl ⟨by kernel_rfl, by intro W hW; obtain ⟨q0, q1⟩ := hW; go_simp⟩) hHeld ?_
      refine wpAnyH_ready (rs := [11]) (by kernel_rfl) (by simp) ?_
      refine AllReadyH.cons rfl (fun K hK => ?_) AllReadyH.nil
      go_simp
      refine (HCP.out _ BW.out).mono ?_
      rintro e w4 ⟨v4, rfl, hb4, hw4⟩
      obtain ⟨p4, n4, c4, hf4⟩ := hb4.form3
      subst hf4
      have hszd := BW.out.size
      replace HI := hid (HI.out.on hw4)
      replace BW := hid (below_on BW.out hw4)
      have hbf : Buf w.heap.size w4 (.slice p4 n4 c4) x.bs := own_base hb4 hszd
      have HB4 := hid hbf
      clear hb4 hw4 hszd hbf
      go_wp2_with fail
      refine hK.out _ _ (HSF.out _ BW.out) (fun hHeld => ?_)
      clear hK K
      refine wpAnyH_take (i := 12) (oi := ⟨some 23, .build 36 #[(0, .tmp 16), (1, .tmp 22)], _, _, _, none⟩) (v := .agg (cC E (.slice p4 n4 c4))) rfl (by kernel_rfl) (by kernel_rfl) (by kernel_rfl) (fun _ _ _ h => h) (Or.inl ⟨by kernel_rfl, by intro W hW; go_simp; rfl⟩) hHeld ?_
      obtain ⟨v6, w6, hr6, hi6, hb6⟩ := HI.out.push ⟨E, .slice p4 n4 c4, x.bs⟩ HB4.out H8.out HSM.out (by have := HLN.out; omega) BW.out.size 25
      have HRUN := hid hr6
      have HI6 := hid hi6
      have HB6 := hid (below_tr BW.out hb6)
      have HBA := hid (below_on BW.out (below_al w4 (.cells (cC E (.slice p4 n4 c4)) 36)))
      clear hr6 hi6 hb6
      refine wpAnyH_ready (rs := [13]) (by kernel_rfl) (by simp) ?_
      refine AllReadyH.cons (o := ⟨some 24, .buildSlice 25 1 #[(0, .tmp 23)], _, _, _, none⟩) rfl (fun K hK => ?_) AllReadyH.nil
      with_reducible refine step_run_val ?_ (.slice (some ⟨w4.heap.size, 0, none⟩) 1 1) (w4.alloc (.cells (cC E (.slice p4 n4 c4)) 36)) ?_ ?_
      · exact rfl
      · exact exec_bsC rfl (by kernel_rfl)
      refine hK.out _ _ (HSF.out _ HBA.out) (fun hHeld => ?_)
      clear hK K
      refine wpAnyH_ready (rs := [14]) (by kernel_rfl) (by simp) ?_
      refine AllReadyH.cons (o := ⟨some 25, .call { callee := .builtin .append, args := #[.tmp 11, .tmp 24], argTypes := #[25, 25] }, 25, _, _, none⟩) rfl (fun K hK => ?_) AllReadyH.nil
      with_reducible refine step_run_val ?_ v6 w6 ?_ ?_
      · exact rfl
      · exact exec_app9 rfl (by kernel_rfl) (by kernel_rfl) HRUN.out
      refine hK.out _ _ (HSF.out _ HB6.out) (fun hHeld => ?_)
      clear hK K
      refine wpAnyH_take (i := 15) (oi := ⟨some 3, .assign (.tmp 25), _, _, _, none⟩) (v := v6) rfl (by kernel_rfl) (by kernel_rfl) (by kernel_rfl) (fun _ _ _ h => h) (Or.inl ⟨by kernel_rfl, by intro W hW; go_simp⟩) hHeld ?_
      refine wpAnyH_done (by kernel_rfl) ?_ _
      (try simp only [Act.put, List.setIfInBounds_toArray, List.set_cons_zero, List.set_cons_succ])
      clear hHeld
      go_wp2
      go_roundg (n - (kk + 1))
      case measure => omega
      case rel => exact ⟨kk + 1, L ++ [⟨E, .slice p4 n4 c4, x.bs⟩], by omega, by omega, by go_num, HI6, hid (by rw [cps_next HX.out, ← HCE.out, ← HEE.out]; simp [cps, Cv.cp]), hid (by have := HLN.out; simp; omega), HB6⟩
    · have hltz : ¬ (kk : Int) < (n : Int) := by omega
      go_wp2
      go_ret
      exact ⟨_, L, rfl, HI.out, by rw [HCE.out, List.take_of_length_le (by have := HN.out; omega)], BW.out⟩
end Go.Proofs.YtelkijiphhoacaaDoor

/- Journals of any size that came in: reading them with their sizes, Check, Bytes. -/
namespace Go.Proofs.YtelkijiphhoacaaDoor
open Go Go.RowKit

/-- Nothing in a record is longer than an int tells. -/
structure SzP (x : Rp) : Prop where
  i : x.r.id.size ≤ 9223372036854775807
  e : x.r.etag.size ≤ 9223372036854775807
  d : x.r.data.size ≤ 9223372036854775807
  u : x.r.up.size ≤ 9223372036854775807
  p : x.ps.length ≤ 9223372036854775807
def IsJ9 (w : World) (v : Value) (l : List Rp) : Prop := IsJ w v l ∧ ∀ x ∈ l, SzP x
theorem IsJ9.below {w w' : World} {v : Value} {l : List Rp} (h : IsJ9 w v l) (hb : Below w.heap.size w w') : IsJ9 w' v l := ⟨h.1.below hb, h.2⟩
theorem maxLen9 : maxLen = 9223372036854775807 := by decide
section
variable {H : Type} {enc : TypeId × Value → H} {w : World} {held : Bool} {fuel : Nat}
set_option maxRecDepth 100000 in
theorem rec_size9 {y : Rp} (hy : IsP w y) {x : DataW H × List MemPlace} (h : DataW.trod enc Tryd.prog w 0 (fun _ => true) held fuel 60 y.r.cs.toList = some x) : SzP y := by
  obtain ⟨xs, n, _, _, hcl, hxl, hf⟩ := DataW.trod_struct Tryd.underlying60 h
  have hx : xs.length = 11 := by rw [hxl]; rfl
  have k9 : Tryd.prog.cellsOf 9 = 1 := by kernel_rfl
  have kP : Tryd.prog.cellsOf 58 = 1 := by kernel_rfl
  have g : ∀ (j : Nat) (v v' : Value), y.r.cs[j]? = some v → (y.r.cs.toList.drop j).take 1 = [v'] → v = v' := fun j v v' h1 h2 => by
    have e2 := congrArg (·[0]?) h2
    simp only [List.getElem?_take, List.getElem?_drop] at e2
    rw [Nat.add_zero, Array.getElem?_toList, h1] at e2
    simpa using e2
  match xs, hx with
  | [y0, y1, y2, y3, y4, y5, y6, y7, y8, y9, y10], _ =>
    have f0 : DataW.trod enc Tryd.prog w 0 (fun _ => true) held n 9 ((y.r.cs.toList.drop 0).take (Tryd.prog.cellsOf 9)) = some y0 := hf 0 _ rfl
    have f4 : DataW.trod enc Tryd.prog w 0 (fun _ => true) held n 9 ((y.r.cs.toList.drop 4).take (Tryd.prog.cellsOf 9)) = some y4 := hf 4 _ rfl
    have f7 : DataW.trod enc Tryd.prog w 0 (fun _ => true) held n 9 ((y.r.cs.toList.drop 7).take (Tryd.prog.cellsOf 9)) = some y7 := hf 7 _ rfl
    have f9 : DataW.trod enc Tryd.prog w 0 (fun _ => true) held n 58 ((y.r.cs.toList.drop 40).take (Tryd.prog.cellsOf 58)) = some y9 := hf 9 _ rfl
    have f10 : DataW.trod enc Tryd.prog w 0 (fun _ => true) held n 9 ((y.r.cs.toList.drop 41).take (Tryd.prog.cellsOf 9)) = some y10 := hf 10 _ rfl
    rw [k9] at f0 f4 f7 f10
    rw [kP] at f9
    obtain ⟨s0, e0, _, b0⟩ := DataW.trod_string Tryd.underlying9 f0
    obtain ⟨s4, e4, _, b4⟩ := DataW.trod_string Tryd.underlying9 f4
    obtain ⟨s7, e7, _, b7⟩ := DataW.trod_string Tryd.underlying9 f7
    obtain ⟨s10, e10, _, b10⟩ := DataW.trod_string Tryd.underlying9 f10
    rw [maxLen9] at b0 b4 b7 b10
    have t0 := g 0 (.string y.r.id) _ (by rw [y.r.get8 0 (by omega)]; rfl) e0
    have t4 := g 4 (.string y.r.etag) _ (by rw [y.r.get8 4 (by omega)]; rfl) e4
    have t7 := g 7 (.string y.r.data) _ (by rw [y.r.get8 7 (by omega)]; rfl) e7
    have t10 := g 41 (.string y.r.up) _ (by unfold Rv.cs; rw [Array.getElem?_append_right (by simp), Array.getElem?_append_right (by simp [sumC_size, hy.sl])]; simp [sumC_size, hy.sl]) e10
    cases t0; cases t4; cases t7; cases t10
    refine ⟨b0, b4, b7, b10, ?_⟩
    obtain ⟨po, c, h1, h2, _⟩ := hy.parts
    rcases DataW.trod_slice Tryd.underlying58 f9 with ⟨hcs, _⟩ | ⟨ad, l, c', elems, rest, n', _, hcs, _, _, hl, hc, _⟩
    · have := g 40 _ _ (pv_at8 hy.sl) hcs
      rw [h1] at this
      simp only [Value.slice.injEq] at this
      omega
    · have := g 40 _ _ (pv_at8 hy.sl) hcs
      rw [h1] at this
      simp only [Value.slice.injEq] at this
      rw [maxLen9] at hc
      omega
theorem rec_read9 {cs : List Value} {x : DataW H × List MemPlace} (h : DataW.trod enc Tryd.prog w 0 (fun _ => true) held fuel 60 cs = some x) : ∃ y : Rp, (IsP w y ∧ SzP y) ∧ cs = y.r.cs.toList := by
  obtain ⟨y, hy, rfl⟩ := rec_read8 h
  exact ⟨y, ⟨hy, rec_size9 hy h⟩, rfl⟩
set_option maxRecDepth 100000 in
theorem recs_read9 {cs : List Value} {x : DataW H × List MemPlace} (h : DataW.trod enc Tryd.prog w 0 (fun _ => true) held fuel 22 cs = some x) : ∃ v l, cs = [v] ∧ IsJ9 w v l := by
  have k42 : Tryd.prog.cellsOf 60 = 42 := by kernel_rfl
  rcases DataW.trod_slice Tryd.underlying22 h with ⟨hcs, _⟩ | ⟨ad, l, c, elems, rest, n, _, hcs, _, _, hl, hc, hlen, hel, _, _⟩
  · exact ⟨_, [], hcs, ⟨none, 0, rfl, Nat.le_refl _, Nat.zero_le _, fun _ => rfl, Or.inl rfl, fun x hx => by cases hx⟩, fun x hx => by cases hx⟩
  · rw [k42] at hel
    have each : ∀ i, i < l → ∃ y : Rp, (IsP w y ∧ SzP y) ∧ ∀ j v, y.r.cs[j]? = some v → w.cell? ((ad.add (i * 42)).add j) = some v := fun i hi => by
      have h1 := hel i hi
      rw [List.getElem?_eq_getElem (by omega)] at h1
      obtain ⟨ds, hc1, hc2⟩ := Option.bind_eq_some_iff.1 h1
      obtain ⟨y, hy, rfl⟩ := rec_read9 hc2
      obtain ⟨_, _, hcell⟩ := World.cells?_some hc1
      refine ⟨y, hy, fun j v hv => ?_⟩
      have hj : j < 42 := by
        rcases Nat.lt_or_ge j 42 with q | q
        · exact q
        · rw [Array.getElem?_eq_none (by rw [cs_size8 hy.1.sl]; exact q)] at hv; cases hv
      rw [hcell j hj, Array.getElem?_toList, hv]
    by_cases h0 : l = 0
    · subst h0
      exact ⟨_, [], hcs, ⟨some ad, c, rfl, hl, hc, (fun h => by cases h), Or.inl rfl, fun x hx => by cases hx⟩, fun x hx => by cases hx⟩
    obtain ⟨y0, hy0, h00⟩ := each 0 (by omega)
    obtain ⟨b, o, rfl⟩ : ∃ b o, ad = ⟨b, o, none⟩ := by
      have h02 := h00 0 (.string y0.r.id) (by rw [y0.r.get8 0 (by omega)]; rfl)
      rw [Nat.zero_mul, add_zero', add_zero'] at h02
      exact plain_at ad w (by rw [h02]; simp)
    have hall : ∀ x ∈ (List.range l).map (fun i => if h : i < l then (each i h).choose else y0), IsP w x ∧ SzP x := fun x hx => by
      obtain ⟨i, hi, rfl⟩ := List.mem_map.1 hx
      have hi' : i < l := by simpa using hi
      simp only [hi', dite_true]
      exact (each i hi').choose_spec.1
    refine ⟨_, (List.range l).map fun i => if h : i < l then (each i h).choose else y0, hcs, ⟨some ⟨b, o, none⟩, c, by simp, by simpa using hl, hc, (fun h => by cases h), Or.inr ⟨b, o, rfl, fun i x hx j v hv => ?_⟩, fun x hx => (hall x hx).1⟩, fun x hx => (hall x hx).2⟩
    have hi : i < l := by
      rcases Nat.lt_or_ge i l with q | q
      · exact q
      · rw [List.getElem?_eq_none (by simpa using q)] at hx; cases hx
    simp [hi] at hx
    subst hx
    have := (each i hi).choose_spec.2 j v hv
    rw [add_none, add_none] at this
    exact this
set_option maxRecDepth 100000 in
theorem jrn_read9 {cs : List Value} {x : DataW H × List MemPlace} (h : DataW.trod enc Tryd.prog w 0 (fun _ => true) held fuel 24 cs = some x) : ∃ s v l, IsJ9 w v l ∧ cs = (jC s v).toList := by
  obtain ⟨xs, n, _, _, hcl, hxl, hf⟩ := DataW.trod_struct Tryd.underlying24 h
  have h2 : cs.length = 2 := by rw [hcl]; kernel_rfl
  have hx2 : xs.length = 2 := by rw [hxl]; rfl
  have k3 : Tryd.prog.cellsOf 3 = 1 := by kernel_rfl
  have kR : Tryd.prog.cellsOf 22 = 1 := by kernel_rfl
  match cs, h2, xs, hx2 with
  | [c0, c1], _, [y0, y1], _ =>
    have f0 : DataW.trod enc Tryd.prog w 0 (fun _ => true) held n 3 (([c0, c1].drop 0).take (Tryd.prog.cellsOf 3)) = some y0 := hf 0 _ rfl
    rw [k3] at f0
    have f1 : DataW.trod enc Tryd.prog w 0 (fun _ => true) held n 22 (([c0, c1].drop 1).take (Tryd.prog.cellsOf 22)) = some y1 := hf 1 _ rfl
    rw [kR] at f1
    obtain ⟨z0, e0, _, _⟩ := DataW.trod_int Tryd.underlying3 f0
    obtain ⟨v, l, e1, hl⟩ := recs_read9 f1
    simp at e0 e1
    subst e0
    subst e1
    exact ⟨z0, _, l, hl, rfl⟩
end
/-- The same record, for the checks of any size. -/
def toG (r : Rv) : G.Rv := ⟨r.id, r.time, r.mark, r.size, r.etag, r.k, r.m, r.data, r.sum, r.pv, r.up⟩
def toGp (x : Rp) : G.Rp := ⟨toG x.r, x.ps⟩
theorem toG_rcs (l : List Rp) : G.rcs (l.map toGp) = rcs l := by
  unfold G.rcs rcs
  rw [List.map_map]
  rfl
theorem IsP.g {w : World} {x : Rp} (h : IsP w x) (hs : SzP x) : G.RpOk w (toGp x) := by
  obtain ⟨po, c, h1, h2, h3, h4⟩ := h.parts
  exact ⟨⟨h.sl, h.s8, hs.i, hs.e, hs.d, hs.u⟩, ⟨po, c, h1, h2, hs.p, h4⟩, fun n k e => by change x.r.pv = _ at e; rw [h1] at e; cases e; exact h3 rfl⟩
theorem IsJ9.g {w : World} {v : Value} {l : List Rp} (h : IsJ9 w v l) : G.RL w v (l.map toGp) := by
  obtain ⟨⟨po, c, h1, h2, h3, h4, h5, h6⟩, hs⟩ := h
  rw [maxLen9] at h3
  refine ⟨po, c, by rw [List.length_map]; exact h1, by rw [List.length_map]; exact h2, by rw [List.length_map]; omega, h4, ?_, fun x hx => ?_⟩
  · rcases h5 with rfl | ⟨b, o, e, h5⟩
    · exact Or.inl rfl
    · refine Or.inr ⟨b, o, e, fun i x hx j v hv => ?_⟩
      rw [List.getElem?_map] at hx
      obtain ⟨y, hy, rfl⟩ := Option.map_eq_some_iff.1 hx
      exact h5 i y hy j v hv
  · obtain ⟨y, hy, rfl⟩ := List.mem_map.1 hx
    exact (h6 y hy).g (hs y hy)
theorem jcheck9 (s : Int) (v : Value) (l : List Rp) (w : World) (hl : IsJ9 w v l) : Calls Tryd.prog 20 #[.agg (jC s v)] w fun e w' => e = .returned (i64 (if okJ ⟨s, rcs l⟩ = true then 0 else 2)) ∧ Below w.heap.size w w' := by
  have := G.jcheck_any s v _ w hl.g
  rw [toG_rcs] at this
  exact this
/-- A record that may be is not large. -/
theorem okRc_small {w : World} {x : Rp} (h : IsP w x) (hk : okRc x.rc = true) : RpOk w x := by
  obtain ⟨po, c, h1, h2, h3, h4⟩ := h.parts
  have hid := (okRc_id (r := x.r) (ps := x.ps) hk).1
  have hall : x.r.etag.size ≤ 100000 ∧ x.r.data.size ≤ 100000 ∧ x.r.up.size ≤ 100000 ∧ x.ps.length ≤ 100000 := by
    have hk' : okRc (x.r.rc x.ps) = true := hk
    unfold okRc Rv.rc at hk'
    simp only [Bool.and_eq_true] at hk'
    obtain ⟨_, hk'⟩ := hk'
    by_cases hm : x.r.mark = true
    · rw [if_pos hm] at hk'
      simp only [Bool.and_eq_true, List.isEmpty_iff] at hk'
      obtain ⟨⟨⟨⟨⟨⟨⟨_, a1⟩, _⟩, _⟩, a2⟩, _⟩, a3⟩, a4⟩ := hk'
      have e1 := congrArg List.length a1
      have e2 := congrArg List.length a2
      have e3 := congrArg List.length a3
      have e4 := congrArg List.length a4
      rw [lst_len, List.length_nil] at e1 e2 e4
      rw [List.length_nil] at e3
      omega
    · rw [if_neg hm] at hk'
      simp only [Bool.and_eq_true, Bool.or_eq_true, List.isEmpty_iff] at hk'
      obtain ⟨⟨⟨⟨⟨⟨⟨⟨_, a1⟩, _⟩, _⟩, _⟩, a2⟩, a3⟩, a4⟩, _⟩ := hk'
      have e1 := (okOf_len a1).2
      have e2 := (okOf_len a2).2
      have e3 : x.ps.length ≤ 32 := by unfold okParts at a3; simp only [Bool.and_eq_true, decide_eq_true_eq] at a3; exact a3.1.1
      have e4 : (lst x.r.up).length ≤ 32 := by
        rcases a4 with h | h
        · rw [h]; simp
        · exact (okOf_len h).2
      rw [lst_len] at e1 e2 e4
      omega
  exact ⟨⟨h.sl, h.s8, by omega, hall.1, hall.2.1, hall.2.2.1⟩, ⟨po, c, h1, h2, hall.2.2.2, h4⟩, fun n k e => by rw [h1] at e; cases e; exact h3 rfl⟩
theorem IsJ9.rl {w : World} {v : Value} {s : Int} {l : List Rp} (h : IsJ9 w v l) (hk : okJ ⟨s, rcs l⟩ = true) : RL w v l := by
  obtain ⟨⟨po, c, h1, h2, h3, h4, h5, h6⟩, hs⟩ := h
  obtain ⟨_, _, k3, k4, _⟩ := okJ_parts hk
  have k3' : l.length ≤ 64 := by rw [← rcs_len]; exact k3
  refine ⟨po, c, h1, h2, by omega, h4, h5, fun x hx => okRc_small (h6 x hx) (List.all_eq_true.1 k4 x.rc (List.mem_map.2 ⟨x, hx, rfl⟩))⟩
set_option maxRecDepth 100000 in
set_option maxHeartbeats 1000000 in
theorem jbytes9_bad (s : Int) (v : Value) (l : List Rp) (w : World) (hl : IsJ9 w v l) (h : okJ ⟨s, rcs l⟩ = false) : Calls Tryd.prog 8 #[.agg (jC s v)] w fun e w' => e = .returned (.tuple #[.slice none 0 0, i64 2]) ∧ Below w.heap.size w w' := by
  have HL := hid hl
  obtain ⟨⟨po, c, rfl, _⟩, _⟩ := hl
  have HCK : Hid (∀ W, Below w.heap.size w W → Calls Tryd.prog 20 #[.agg (jC s (.slice po l.length c))] W fun e w' => e = .returned (i64 2) ∧ Below W.heap.size W w') := hid fun W hW => by have h9 := jcheck9 s _ l W (HL.out.below hW); rw [h] at h9; exact h9
  clear h
  go_enter Tryd.func8, Tryd.ntmps8
  go_wp2_with (first
    | ((with_reducible refine wpList_boxT 24 rfl _ rfl (jC s (.slice po l.length c)) ?_ ?_); exact rfl; intro w1 g1 hc1 hb1 hg1; have HC1 := hid hc1; have HB1 := hid hb1; clear hb1 hc1)
    | ((with_reducible refine wpList_load_at 24 _ rfl ?_ g1 0 ?_ (jC s (.slice po l.length c)) (.struct (Tryd.prog.fieldsOf 24)) ?_ underJrn rfl ?_ ?_); exact rfl; exact rfl; exact HC1.out.wholeJ; exact sizeJ)
    | (go_at_call 20; refine (HCK.out _ HB1.out).mono ?_; rintro e w3 ⟨rfl, hb3⟩; have HB3 := hid (below_on HB1.out hb3); clear hb3))
  go_ret2
  exact ⟨rfl, HB3.out⟩
/-- A journal's bytes are not many. -/
theorem jB_len9 {w : World} {v : Value} {s : Int} {l : List Rp} (h : IsJ9 w v l) (hk : okJ ⟨s, rcs l⟩ = true) : (jB dig ⟨s, rcs l⟩).length ≤ 100000 := by
  have hr := h.rl hk
  obtain ⟨k1, k2, k3, k4, _⟩ := okJ_parts hk
  have h1 := rsB_len hr.ok k4 l.length (Nat.le_refl _)
  have k3' : l.length ≤ 64 := by rw [← rcs_len]; exact k3
  have h2 := hdJ_len (s := s) k2 k3'
  have h3 := dig_len (jBody ⟨s, rcs l⟩)
  rw [List.take_of_length_le (by rw [rcs_len]; omega)] at h1
  have e : (jB dig ⟨s, rcs l⟩).length = (jBody ⟨s, rcs l⟩).length + (dig (jBody ⟨s, rcs l⟩)).length := by unfold jB; simp
  rw [e, h3, jBody_hd, List.length_append]
  omega
end Go.Proofs.YtelkijiphhoacaaDoor

/- leads: has no drive a journal of a greater Seq, or another one of this Seq that as many have? -/
namespace Go.Proofs.YtelkijiphhoacaaDoor
open Go Go.RowKit

def leadAt (l : List Cp) (bs : List Nat) (sq : Int) (c : Cp) : Prop := c.b ≠ bs → ∀ j, hasJ dig c = some j → j.seq < sq ∨ j.seq = sq ∧ votC l c.b < votC l bs
open Classical in
/-- Does it lead? -/
noncomputable def leadB (l : List Cp) (bs : List Nat) (sq : Int) : Bool := decide (∀ c ∈ l, leadAt l bs sq c)
theorem leadB_true {l : List Cp} {bs : List Nat} {sq : Int} (h : ∀ c ∈ l, leadAt l bs sq c) : leadB l bs sq = true := by unfold leadB; simp only [decide_eq_true_eq]; exact h
theorem leadB_of {l : List Cp} {bs : List Nat} {sq : Int} (h : leadB l bs sq = true) : ∀ c ∈ l, leadAt l bs sq c := by unfold leadB at h; simp only [decide_eq_true_eq] at h; exact h
theorem leadB_false {l : List Cp} {bs : List Nat} {sq : Int} {c : Cp} (hc : c ∈ l) (h : ¬ leadAt l bs sq c) : leadB l bs sq = false := by
  cases e : leadB l bs sq with
  | false => rfl
  | true => exact absurd (leadB_of e c hc) h
theorem lead_next {l : List Cv} {bs : List Nat} {sq : Int} {k : Nat} {x : Cv} (hx : l[k]? = some x) (h : ∀ c ∈ cps (l.take k), leadAt (cps l) bs sq c) (h1 : leadAt (cps l) bs sq x.cp) : ∀ c ∈ cps (l.take (k + 1)), leadAt (cps l) bs sq c := fun c hc => by
  rw [cps_next hx] at hc
  rcases List.mem_append.1 hc with hc | hc
  · exact h c hc
  · rcases List.mem_singleton.1 hc with rfl
    exact h1
set_option maxRecDepth 100000 in
set_option maxHeartbeats 8000000 in
theorem leads9_any (a0 a1 : Addr) (v u : Value) (l : List Cv) (bs : List Nat) (sq : Int) (w : World) (he : Ers w a0 a1) (hl : CL w v l) (hu : SL w u bs) (h8 : ∀ z ∈ bs, z < 256) : Calls Tryd.prog 11 #[v, u, i64 sq] w fun e w' => e = .returned (.bool (leadB (cps l) bs sq)) ∧ Below w.heap.size w w' := by
  obtain ⟨RR, hRR⟩ : ∃ R : Bool, leadB (cps l) bs sq = R := ⟨_, rfl⟩
  rw [hRR]
  have HRR := hid hRR
  clear hRR
  have HL := hid hl
  have HU := hid hu
  have H8 := hid h8
  have HER := hid (fun W (hW : Below w.heap.size w W) => he.below hW)
  have HCT := hid (cnt9_any v u l bs w hl hu h8)
  obtain ⟨po, c, rfl, hc1, hn, -⟩ := hl
  obtain ⟨n, hN⟩ : ∃ n, l.length = n := ⟨_, rfl⟩
  have HN := hid hN
  rw [hN] at hn HL HCT ⊢
  obtain ⟨pu, cu, hfu, -⟩ := hu
  obtain ⟨nu, hnu⟩ : ∃ n, bs.length = n := ⟨_, rfl⟩
  rw [hnu] at hfu
  rw [hfu] at HU HCT ⊢
  obtain ⟨OW, hOW⟩ : ∃ q : Nat, votC (cps l) bs = q := ⟨_, rfl⟩
  rw [hOW] at HCT
  have HOW := hid hOW
  clear hN hc1 h8 hfu hnu he hOW
  go_enter Tryd.func11, Tryd.ntmps11
  go_wp2_with (go_at_call 16; refine HCT.out.mono ?_; rintro e w1 ⟨rfl, hb1⟩; have HB1 := hid hb1; clear hb1)
  go_loopg [8] n (fun gg s8 wr => ∃ kk : Nat, kk ≤ n ∧ n - kk ≤ gg ∧ s8 = i64 kk ∧ Hid (∀ c ∈ cps (l.take kk), leadAt (cps l) bs sq c) ∧ Hid (Below w.heap.size w wr))
  case atStart => exact ⟨0, Nat.zero_le _, by omega, rfl, hid (fun c hc => by cases hc), HB1⟩
  case round =>
    obtain ⟨kk, hkk, hg, rfl, HQ, BW⟩ := hrel
    by_cases hlt : kk < n
    · have hltz : (kk : Int) < (n : Int) := by omega
      obtain ⟨x, hx⟩ : ∃ x, l[kk]? = some x := ⟨_, List.getElem?_eq_getElem (by have := HN.out; omega)⟩
      obtain ⟨b, o, c', e, -⟩ := HL.out.where hx
      rw [HN.out] at e
      cases e
      have HNX := hid (fun h1 => lead_next hx HQ.out h1)
      have HX := hid hx
      obtain ⟨k0, k1, hok⟩ := HL.out.at BW.out hx
      have HOK := hid hok
      obtain ⟨⟨p1, c1, hxv, hbl, hmc, hnil⟩, hsm, hx8⟩ := hok
      rw [hxv] at k1
      have HRD := hid (jread_any p1 c1 x.bs wr a0 a1 hbl hmc hsm hx8 (HER.out _ BW.out))
      have HSX := hid HOK.out.slv
      rw [hxv] at HSX
      obtain ⟨m1, hm1⟩ : ∃ m, x.bs.length = m := ⟨_, rfl⟩
      rw [hm1] at k1 HSX HRD hxv
      have HXV := hid hxv
      have HSB := hid (sameB_any HSX.out (HU.out.below BW.out) hx8 H8.out)
      have HX8 := hid hx8
      clear hxv hm1 hx hbl hmc hnil hsm hx8
      by_cases hE : x.err = 0
      · rw [hE] at k0
        have HHJ : Hid (hasJ dig x.cp = (rdJ dig x.bs).2) := hid (by unfold hasJ; rw [if_pos (show x.cp.err = 0 from hE)]; rfl)
        clear hE
        cases hd : decide (x.bs = bs) with
        | true =>
          rw [hd] at HSB
          have HL1 : Hid (leadAt (cps l) bs sq x.cp) := hid fun h => absurd (of_decide_eq_true hd) h
          clear HRD hd
          go_wp2_with (go_at_call 14; refine HSB.out.mono ?_; rintro e w4 ⟨rfl, hw4⟩; have hw5 := hw4.symm; subst hw5)
          go_roundg (n - (kk + 1))
          case measure => omega
          case rel => exact ⟨kk + 1, by omega, by omega, by go_num, hid (HNX.out HL1.out), BW⟩
        | false =>
          rw [hd] at HSB
          cases hj : (rdJ dig x.bs).2 with
          | none =>
            have HL1 : Hid (leadAt (cps l) bs sq x.cp) := hid fun _ j h => by rw [HHJ.out, hj] at h; cases h
            obtain ⟨er, her⟩ : ∃ er, (rdJ dig x.bs).1 = er := ⟨_, rfl⟩
            have her2 := rdJ_err hj
            rw [her] at her2
            unfold AddS at HRD
            rw [hj, her] at HRD
            have hz : ((er : Int) == 0) = false := by rcases her2 with rfl | rfl <;> rfl
            clear her her2 hj hd
            go_wp2_with (first
              | (go_at_call 14; refine HSB.out.mono ?_; rintro e w4 ⟨rfl, hw4⟩; have hw5 := hw4.symm; subst hw5)
              | (go_at_call 17; refine HRD.out.mono ?_; rintro e w4 ⟨rfl, hb4⟩; have HB4 := hid (below_on BW.out hb4); clear hb4 k0 k1)
              | ((with_reducible refine wpList_allocJ rfl rfl ?_); intro w5 g5 hz5 hb5 hg5; have HZ5 := hid hz5; have HB5 := hid hb5; have HG5 := hid hg5; clear hz5 hb5 hg5)
              | ((with_reducible refine wpList_storeJ rfl rfl _ _ rfl g5 ?_ (s := 0) (v := .slice none 0 0) ?_ rfl HZ5.out ?_); exact rfl; exact rfl; intro w8 h8 o8; have HB8 := hid (below_on HB4.out (ownX HB5.out HG5.out o8)); clear h8 o8 HZ5 HB5 HG5))
            go_roundg (n - (kk + 1))
            case measure => omega
            case rel => exact ⟨kk + 1, by omega, by omega, by go_num, hid (HNX.out HL1.out), HB8⟩
          | some j =>
            unfold AddS at HRD
            rw [hj] at HRD
            have HJX : Hid (hasJ dig x.cp = some j) := hid (by rw [HHJ.out, hj])
            have HNE : Hid (x.cp.b ≠ bs) := hid (of_decide_eq_false hd)
            have HXM : Hid (x.cp ∈ cps l) := hid (List.mem_map.2 ⟨x, List.mem_of_getElem? HX.out, rfl⟩)
            clear hj hd
            by_cases hgt : sq < j.seq
            · go_wp2_with (first
                | (go_at_call 14; refine HSB.out.mono ?_; rintro e w4 ⟨rfl, hw4⟩; have hw5 := hw4.symm; subst hw5)
                | (go_at_call 17; refine HRD.out.mono ?_; rintro e w4 ⟨v4, m4, rfl, hr4, he4, hb4⟩; have HB4 := hid (below_on BW.out hb4); have hv4 := hr4.one; clear hb4 k0 k1 hr4 he4)
                | ((with_reducible refine wpList_allocJ rfl rfl ?_); intro w5 g5 hz5 hb5 hg5; have HZ5 := hid hz5; have HB5 := hid hb5; have HG5 := hid hg5; clear hz5 hb5 hg5)
                | ((with_reducible refine wpList_storeJ rfl rfl _ _ rfl g5 ?_ (s := j.seq) (v := v4) ?_ hv4 HZ5.out ?_); exact rfl; exact rfl; intro w8 h8 o8; have HB8 := hid (below_on HB4.out (ownX HB5.out HG5.out o8)); have kj : w8.cell? ⟨g5, 0, none⟩ = some (i64 j.seq) := h8.j0; clear h8 o8 HZ5 HB5 HG5))
              go_ret
              rw [show RR = false from HRR.out.symm.trans (leadB_false HXM.out fun h => by rcases h HNE.out j HJX.out with h | h <;> omega)]
              exact ⟨rfl, HB8.out⟩
            · by_cases heq : j.seq = sq
              · have hqq : (j.seq == sq) = true := by simpa using heq
                have HCX := hid (fun W (hW : Below w.heap.size w W) => cnt9_any (.slice (some ⟨b, o, none⟩) n c) (.slice p1 m1 c1) l x.bs W (HL.out.below hW))
                obtain ⟨q, hq⟩ : ∃ q : Nat, votC (cps l) x.bs = q := ⟨_, rfl⟩
                rw [hq] at HCX
                have HQ2 := hid hq
                have HEQ := hid heq
                clear hq heq
                by_cases hge : (OW : Int) ≤ (q : Int)
                · go_wp2_with (first
                    | (go_at_call 14; refine HSB.out.mono ?_; rintro e w4 ⟨rfl, hw4⟩; have hw5 := hw4.symm; subst hw5)
                    | (go_at_call 17; refine HRD.out.mono ?_; rintro e w4 ⟨v4, m4, rfl, hr4, he4, hb4⟩; have HB4 := hid (below_on BW.out hb4); have hv4 := hr4.one; replace HSX := hid (HSX.out.below hb4); clear hb4 k0 k1 hr4 he4)
                    | ((with_reducible refine wpList_allocJ rfl rfl ?_); intro w5 g5 hz5 hb5 hg5; have HZ5 := hid hz5; have HB5 := hid hb5; have HG5 := hid hg5; clear hz5 hb5 hg5)
                    | ((with_reducible refine wpList_storeJ rfl rfl _ _ rfl g5 ?_ (s := j.seq) (v := v4) ?_ hv4 HZ5.out ?_); exact rfl; exact rfl; intro w8 h8 o8; have hb8 := ownX HB5.out HG5.out o8; have HB8 := hid (below_on HB4.out hb8); replace HSX := hid (HSX.out.below hb8); have kj : w8.cell? ⟨g5, 0, none⟩ = some (i64 j.seq) := h8.j0; have k1 := (HL.out.at HB8.out HX.out).2.1; rw [HXV.out] at k1; clear h8 o8 HZ5 HB5 HG5 hb8)
                    | (go_at_call 16; refine (HCX.out _ HB8.out HSX.out HX8.out).mono ?_; rintro e w9 ⟨rfl, hb9⟩; have HB9 := hid (below_on HB8.out hb9); clear hb9 k1))
                  go_ret
                  rw [show RR = false from HRR.out.symm.trans (leadB_false HXM.out fun h => by
                    have h9 := HQ2.out
                    rcases h HNE.out j HJX.out with h | h
                    · have := HEQ.out; omega
                    · have h10 := h.2
                      rw [HOW.out, show x.cp.b = x.bs from rfl, h9] at h10
                      omega)]
                  exact ⟨rfl, HB9.out⟩
                · have HL1 : Hid (leadAt (cps l) bs sq x.cp) := hid fun _ j' h => by
                    rw [HJX.out] at h
                    cases h
                    refine Or.inr ⟨HEQ.out, ?_⟩
                    rw [HOW.out, show x.cp.b = x.bs from rfl, HQ2.out]
                    omega
                  go_wp2_with (first
                    | (go_at_call 14; refine HSB.out.mono ?_; rintro e w4 ⟨rfl, hw4⟩; have hw5 := hw4.symm; subst hw5)
                    | (go_at_call 17; refine HRD.out.mono ?_; rintro e w4 ⟨v4, m4, rfl, hr4, he4, hb4⟩; have HB4 := hid (below_on BW.out hb4); have hv4 := hr4.one; replace HSX := hid (HSX.out.below hb4); clear hb4 k0 k1 hr4 he4)
                    | ((with_reducible refine wpList_allocJ rfl rfl ?_); intro w5 g5 hz5 hb5 hg5; have HZ5 := hid hz5; have HB5 := hid hb5; have HG5 := hid hg5; clear hz5 hb5 hg5)
                    | ((with_reducible refine wpList_storeJ rfl rfl _ _ rfl g5 ?_ (s := j.seq) (v := v4) ?_ hv4 HZ5.out ?_); exact rfl; exact rfl; intro w8 h8 o8; have hb8 := ownX HB5.out HG5.out o8; have HB8 := hid (below_on HB4.out hb8); replace HSX := hid (HSX.out.below hb8); have kj : w8.cell? ⟨g5, 0, none⟩ = some (i64 j.seq) := h8.j0; have k1 := (HL.out.at HB8.out HX.out).2.1; rw [HXV.out] at k1; clear h8 o8 HZ5 HB5 HG5 hb8)
                    | (go_at_call 16; refine (HCX.out _ HB8.out HSX.out HX8.out).mono ?_; rintro e w9 ⟨rfl, hb9⟩; have HB9 := hid (below_on HB8.out hb9); clear hb9 k1))
                  go_roundg (n - (kk + 1))
                  case measure => omega
                  case rel => exact ⟨kk + 1, by omega, by omega, by go_num, hid (HNX.out HL1.out), HB9⟩
              · have hqq : (j.seq == sq) = false := by simpa using heq
                have HL1 : Hid (leadAt (cps l) bs sq x.cp) := hid fun _ j' h => by
                  rw [HJX.out] at h
                  cases h
                  exact Or.inl (by omega)
                clear heq
                go_wp2_with (first
                  | (go_at_call 14; refine HSB.out.mono ?_; rintro e w4 ⟨rfl, hw4⟩; have hw5 := hw4.symm; subst hw5)
                  | (go_at_call 17; refine HRD.out.mono ?_; rintro e w4 ⟨v4, m4, rfl, hr4, he4, hb4⟩; have HB4 := hid (below_on BW.out hb4); have hv4 := hr4.one; clear hb4 k0 k1 hr4 he4)
                  | ((with_reducible refine wpList_allocJ rfl rfl ?_); intro w5 g5 hz5 hb5 hg5; have HZ5 := hid hz5; have HB5 := hid hb5; have HG5 := hid hg5; clear hz5 hb5 hg5)
                  | ((with_reducible refine wpList_storeJ rfl rfl _ _ rfl g5 ?_ (s := j.seq) (v := v4) ?_ hv4 HZ5.out ?_); exact rfl; exact rfl; intro w8 h8 o8; have HB8 := hid (below_on HB4.out (ownX HB5.out HG5.out o8)); have kj : w8.cell? ⟨g5, 0, none⟩ = some (i64 j.seq) := h8.j0; clear h8 o8 HZ5 HB5 HG5))
                go_roundg (n - (kk + 1))
                case measure => omega
                case rel => exact ⟨kk + 1, by omega, by omega, by go_num, hid (HNX.out HL1.out), HB8⟩
      · have hz : (x.err != 0) = true := by simpa using hE
        have HL1 : Hid (leadAt (cps l) bs sq x.cp) := hid fun _ j h => by unfold hasJ at h; rw [if_neg (show ¬ x.cp.err = 0 from hE)] at h; cases h
        generalize x.err = E at k0 hz
        clear hE HRD HSB
        go_wp2
        go_roundg (n - (kk + 1))
        case measure => omega
        case rel => exact ⟨kk + 1, by omega, by omega, by go_num, hid (HNX.out HL1.out), BW⟩
    · have hltz : ¬ (kk : Int) < (n : Int) := by omega
      have HAL : Hid (∀ c ∈ cps l, leadAt (cps l) bs sq c) := hid (by have := HQ.out; rwa [List.take_of_length_le (by have := HN.out; omega)] at this)
      go_wp2
      go_ret
      rw [show RR = true from HRR.out.symm.trans (leadB_true HAL.out)]
      exact ⟨rfl, BW.out⟩
end Go.Proofs.YtelkijiphhoacaaDoor

/- Copies put in among copies: slices of them, what is appended; Pick; numbers that came in. -/
namespace Go.Proofs.YtelkijiphhoacaaDoor
open Go Go.RowKit

/-- A number below n. -/
def pk9 (x : Int) (n : Nat) : Nat := if x.tmod n < 0 then (x.tmod n + n).toNat else (x.tmod n).toNat
theorem tmod_lo9 (x : Int) (n : Nat) (h : 1 ≤ n) : -(n : Int) < x.tmod n := by
  have := Int.tmod_lt_of_pos (-x) (b := (n : Int)) (by omega)
  rw [Int.neg_tmod] at this; omega
theorem pk9_lt (x : Int) (n : Nat) (h : 1 ≤ n) : pk9 x n < n := by
  have b1 := Int.tmod_lt_of_pos x (b := (n : Int)) (by omega)
  have b2 := tmod_lo9 x n h
  unfold pk9; split <;> omega
theorem pick9_any (x : Int) (n : Nat) (w : World) (h1 : 1 ≤ n) (hn : n ≤ 1000000) :
    Calls Tryd.prog 10 #[.int .i64 x, .int .i64 (n : Int)] w fun e w' => e = .returned (.int .i64 (pk9 x n : Int)) ∧ w' = w := by
  have b1 := Int.tmod_lt_of_pos x (b := (n : Int)) (by omega)
  have b2 := tmod_lo9 x n h1
  have hn1 : ¬ (n : Int) < 1 := by omega
  have hn0 : ¬ (n : Int) = 0 := by omega
  by_cases hneg : x.tmod n < 0
  · have e : ((pk9 x n : Nat) : Int) = x.tmod n + n := by unfold pk9; rw [if_pos hneg]; omega
    have HE := hid e
    clear e
    go_enter Tryd.func10, Tryd.ntmps10
    go_wp2
    go_ret
    exact ⟨by rw [HE.out]; rfl, rfl⟩
  · have e : ((pk9 x n : Nat) : Int) = x.tmod n := by unfold pk9; rw [if_neg hneg]; omega
    have HE := hid e
    clear e
    go_enter Tryd.func10, Tryd.ntmps10
    go_wp2
    go_ret
    exact ⟨by rw [HE.out]; rfl, rfl⟩
/-- Numbers that came in. -/
def IsIs (w : World) (v : Value) (xs : List Int) : Prop := ∃ po c, v = .slice po xs.length c ∧ xs.length ≤ c ∧ c ≤ maxLen ∧ (xs = [] ∨ ∃ b o, po = some ⟨b, o, none⟩ ∧ ∀ i x, xs[i]? = some x → w.cell? ⟨b, o + i, none⟩ = some (i64 x))
theorem IsIs.below {w w' : World} {v : Value} {xs : List Int} (h : IsIs w v xs) (hb : Below w.heap.size w w') : IsIs w' v xs := by
  obtain ⟨po, c, h1, h2, h3, h4⟩ := h
  refine ⟨po, c, h1, h2, h3, ?_⟩
  rcases h4 with h4 | ⟨b, o, e, h4⟩
  · exact Or.inl h4
  · exact Or.inr ⟨b, o, e, fun i x hx => by have := h4 i x hx; rw [World.cell?_of_block (a := ⟨b, o + i, none⟩) (hb.block b (cell_lt' (a := ⟨b, o + i, none⟩) (by rw [this]; simp)))]; exact this⟩
section
variable {H : Type} {enc : TypeId × Value → H} {w : World} {held : Bool} {fuel : Nat}
set_option maxRecDepth 100000 in
theorem ints_read9 {cs : List Value} {x : DataW H × List MemPlace} (h : DataW.trod enc Tryd.prog w 0 (fun _ => true) held fuel 26 cs = some x) : ∃ v xs, cs = [v] ∧ IsIs w v xs := by
  have k1 : Tryd.prog.cellsOf 3 = 1 := by kernel_rfl
  rcases DataW.trod_slice Tryd.underlying26 h with ⟨hcs, _⟩ | ⟨ad, l, c, elems, rest, n, _, hcs, _, _, hl, hc, hlen, hel, _, _⟩
  · exact ⟨_, [], hcs, none, 0, rfl, Nat.le_refl _, Nat.zero_le _, Or.inl rfl⟩
  · rw [k1] at hel
    have each : ∀ i, i < l → ∃ y : Int, w.cell? ((ad.add (i * 1)).add 0) = some (i64 y) := fun i hi => by
      have h1 := hel i hi
      rw [List.getElem?_eq_getElem (by omega)] at h1
      obtain ⟨ds, hc1, hc2⟩ := Option.bind_eq_some_iff.1 h1
      obtain ⟨y, rfl, _, _⟩ := DataW.trod_int Tryd.underlying3 hc2
      obtain ⟨_, _, hcell⟩ := World.cells?_some hc1
      exact ⟨y, by rw [hcell 0 (by omega)]; rfl⟩
    by_cases h0 : l = 0
    · subst h0
      exact ⟨_, [], hcs, some ad, c, rfl, hl, hc, Or.inl rfl⟩
    obtain ⟨y0, h00⟩ := each 0 (by omega)
    obtain ⟨b, o, rfl⟩ : ∃ b o, ad = ⟨b, o, none⟩ := by
      rw [Nat.zero_mul, add_zero', add_zero'] at h00
      exact plain_at ad w (by rw [h00]; simp)
    have each2 : ∀ i, i < l → ∃ y : Int, w.cell? ⟨b, o + i, none⟩ = some (i64 y) := fun i hi => by
      obtain ⟨y, h1⟩ := each i hi
      rw [add_none, add_none, Nat.add_zero, Nat.mul_one] at h1
      exact ⟨y, h1⟩
    refine ⟨_, (List.range l).map fun i => if h : i < l then (each2 i h).choose else y0, hcs, some ⟨b, o, none⟩, c, by simp, by simpa using hl, hc, Or.inr ⟨b, o, rfl, fun i x hx => ?_⟩⟩
    have hi : i < l := by
      rcases Nat.lt_or_ge i l with q | q
      · exact q
      · rw [List.getElem?_eq_none (by simpa using q)] at hx; cases hx
    simp [hi] at hx
    subst hx
    exact (each2 i hi).choose_spec
end
/-- The slice leads to these copies, or to none. -/
def RwC (w : World) (vs : Value) (S : List Cv) : Prop := (vs = .slice none 0 0 ∧ S = []) ∨ ∃ (a : Addr) (c : Nat), vs = .slice (some a) S.length c ∧ (S = [] ∨ ∃ b o, a = ⟨b, o, none⟩ ∧ CCells w b o S)
theorem RwC.below {w w' : World} {vs : Value} {S : List Cv} (h : RwC w vs S) (hb : Below w.heap.size w w') : RwC w' vs S := by
  rcases h with h | ⟨a, c, h1, h2⟩
  · exact Or.inl h
  · refine Or.inr ⟨a, c, h1, ?_⟩
    rcases h2 with h2 | ⟨b, o, e, h2⟩
    · exact Or.inl h2
    · exact Or.inr ⟨b, o, e, h2.keep fun a ha => World.cell?_of_block (hb.block a.block (cell_lt' ha))⟩
theorem underC9 : Tryd.prog.underlying 25 = some (.slice (Tryd.prog.elem 25)) := by kernel_rfl
theorem elemC9 (w : World) : (sizeOf (Tryd.prog.elem 25)).run Tryd.prog w = .ok 2 w := by
  have h : (Tryd.prog.info? (Tryd.prog.elem 25)).map (·.size) = some 2 := by kernel_rfl
  obtain ⟨i, hi, e⟩ := Option.map_eq_some_iff.1 h
  simp [sizeOf, typeInfo, hi, e]
theorem CL.head9 {w : World} {po : Option Addr} {n c : Nat} {l : List Cv} (h : CL w (.slice po n c) l) (k : Nat) (hk : k ≤ l.length) : (∀ W, (Instr.slice 25 (.slice po n c) none (some (.int .i64 (k : Int))) none).run Tryd.prog W = .ok (.slice po k c) W) ∧ RwC w (.slice po k c) (l.take k) := by
  obtain ⟨po', c', e, h2, h3, h4, h5, h6⟩ := h
  cases e
  refine ⟨fun W => ?_, ?_⟩
  · rw [run_slice_h (P := Tryd.prog) W 25 po l.length c underC9 .i64 (k : Int) (by omega) (by omega), elemC9]
    cases po with
    | none => simp [Result.andThen, sliced]
    | some a =>
      by_cases h0 : c = 0
      · simp [Result.andThen, sliced, h0]
      · simp [Result.andThen, sliced, h0, add_zero']
  · have hl : (l.take k).length = k := by rw [List.length_take]; omega
    cases po with
    | none =>
      have := h4 rfl
      subst this
      have h0 : k = 0 := by omega
      subst h0
      exact Or.inl ⟨rfl, rfl⟩
    | some a =>
      refine Or.inr ⟨a, c, by rw [hl], ?_⟩
      rcases h5 with rfl | ⟨b, o, e, h5⟩
      · exact Or.inl (by simp)
      · cases e
        refine Or.inr ⟨b, o, rfl, fun i x hx => h5 i x ?_⟩
        rw [List.getElem?_take] at hx
        split at hx
        · exact hx
        · cases hx
theorem CL.from9 {w : World} {po : Option Addr} {n c : Nat} {l : List Cv} (h : CL w (.slice po n c) l) (k : Nat) (hk : k ≤ l.length) : ∃ p2, (∀ W, (Instr.slice 25 (.slice po n c) (some (.int .i64 (k : Int))) none none).run Tryd.prog W = .ok (.slice p2 (n - k) (c - k)) W) ∧ RwC w (.slice p2 (n - k) (c - k)) (l.drop k) := by
  obtain ⟨po', c', e, h2, h3, h4, h5, h6⟩ := h
  cases e
  have hr : ∀ W, (Instr.slice 25 (.slice po l.length c) (some (.int .i64 (k : Int))) none none).run Tryd.prog W = .ok (sliced po k l.length c 2) W := fun W => by
    rw [run_slice_l (P := Tryd.prog) W 25 po l.length c underC9 .i64 (k : Int) (by omega) (by omega), elemC9]
    simp [Result.andThen]
  have hl : (l.drop k).length = l.length - k := by rw [List.length_drop]
  cases po with
  | none =>
    have := h4 rfl
    subst this
    have h0 : k = 0 := by omega
    have h1 : l.length = 0 := by omega
    subst h0
    exact ⟨none, fun W => by rw [hr]; simp [sliced], Or.inl ⟨by rw [h1], by rw [List.drop_zero]; exact List.eq_nil_of_length_eq_zero h1⟩⟩
  | some a =>
    by_cases e : c = k
    · refine ⟨some a, fun W => by rw [hr]; simp [sliced, e], Or.inr ⟨a, c - k, by rw [hl], Or.inl (List.drop_of_length_le (by omega))⟩⟩
    · refine ⟨some (a.add (k * 2)), fun W => by rw [hr]; simp [sliced, e], Or.inr ⟨_, c - k, by rw [hl], ?_⟩⟩
      rcases h5 with rfl | ⟨b, o, e2, h5⟩
      · exact Or.inl (by simp)
      · cases e2
        refine Or.inr ⟨b, o + k * 2, by rw [add_none], fun i x hx => ?_⟩
        rw [List.getElem?_drop] at hx
        have := h5 (k + i) x hx
        rw [show o + k * 2 + i * 2 = o + (k + i) * 2 by omega]
        exact this
/-- What is appended: copies of a slice. -/
theorem XB.appC9 {B : Nat} {w : World} {v vs : Value} {R S : List Cv} (hv : XB 36 2 B w v (R.map Cv.row)) (hs : RwC w vs S) (h1 : ∀ x ∈ S, x.v.oneCell' = true) (hn : R.length + S.length ≤ 1000) (hB : B ≤ w.heap.size) (ty : TypeId) :
    ∃ v' w', (Builtin.append_ #[25, 25] ty #[v, vs]).run Tryd.prog w = .ok v' w' ∧ XB 36 2 B w' v' ((R ++ S).map Cv.row) ∧ Below B w w' := by
  rcases hs with ⟨rfl, rfl⟩ | ⟨a, c, rfl, h2⟩
  · obtain ⟨i0, hi0, -⟩ := info_parts Tryd.infoCp
    refine ⟨v, w, run_append_owned_none (P := Tryd.prog) (w := w) B 25 ty 36 i0 2 Tryd.underlying25 hi0 v _ _ hv, by rw [List.append_nil]; exact hv, Below.refl _ _⟩
  · rcases h2 with rfl | ⟨b, o, rfl, h2⟩
    · obtain ⟨i0, hi0, hz0, hz1, hz2⟩ := info_parts Tryd.infoCp
      obtain ⟨v', w', hr, h3, h4, _⟩ := run_append_own_at (P := Tryd.prog) w B 25 ty 36 i0 _ 2 _ Tryd.underlying25 hi0 hz0 hz1 hz2 rfl (by decide) v _ _ hv a 0 c [] rfl (fun j u hj => by simp at hj) (fun u hu => by cases hu) (by rw [List.length_map]; unfold maxLen; omega) (by rw [List.length_map]; refine Nat.le_trans (Nat.mul_le_mul (show R.length + 0 ≤ 1000 by simp at hn; omega) (Nat.le_refl _)) (by decide)) hB
      refine ⟨v', w', hr, ?_, XB.mono hB h4 hv⟩
      rw [List.append_nil]
      rw [List.append_nil] at h3
      exact h3
    · obtain ⟨v', w', hr, h3, h4, _⟩ := hv.app (ty := ty) (T := 25) Tryd.underlying25 Tryd.infoCp rfl (by decide) b o c (S.map Cv.row) (crow_len S) (fun r hr => by
        obtain ⟨x, hx, rfl⟩ := List.mem_map.1 hr
        intro u hu
        simp only [Cv.row, List.mem_cons, List.not_mem_nil, or_false] at hu
        rcases hu with rfl | rfl
        · rfl
        · exact h1 x hx) (fun i r hr j u hu => by
        rw [List.getElem?_map] at hr
        obtain ⟨x, hx, rfl⟩ := Option.map_eq_some_iff.1 hr
        have := h2 i x hx
        match j, hu with
        | 0, hu => simp [Cv.row] at hu; subst hu; exact this.1
        | 1, hu => simp [Cv.row] at hu; subst hu; exact this.2
        | j + 2, hu => simp [Cv.row] at hu) (by rw [List.length_map, List.length_map]; omega) (by decide) hB
      rw [List.length_map] at hr
      exact ⟨v', w', hr, by rw [List.map_append]; exact h3, XB.mono hB h4 hv⟩
theorem run_build0C (w : World) : (Instr.buildSlice 25 0 #[]).run Tryd.prog w = .ok (.slice (some ⟨w.heap.size, 0, none⟩) 0 0) (w.alloc (.cells #[] 36)) := by
  obtain ⟨i0, hi0, hz0, hz1, hz2⟩ := info_parts Tryd.infoCp
  simp [Instr.buildSlice, run_underlying Tryd.underlying25, sizeOf, typeInfo, hi0, Instr.fill, newRow]
  have h0 : Array.map (fun _ => (default : Value)) (Array.range 0) = #[] := Array.eq_empty_of_size_eq_zero (by simp)
  rw [h0]
theorem XB.new0 (w : World) : XB 36 2 w.heap.size (w.alloc (.cells #[] 36)) (.slice (some ⟨w.heap.size, 0, none⟩) 0 0) (([] : List Cv).map Cv.row) :=
  ⟨rfl, Or.inr ⟨w.heap.size, 0, #[], rfl, Nat.le_refl _, (CAt.made w _ _), Nat.le_refl _, Nat.zero_le _, rfl, rfl⟩⟩
theorem wpList_build0C {ops : Array Oper} {rest : List Oper} {o : Oper} {a : Act} {w : World} {Q : Exit → Act → World → Prop} (hg : o.guard = none) (ho : o.op = .buildSlice 25 0 #[])
    (h : ∀ w1 g, XB 36 2 w.heap.size w1 (.slice (some ⟨g, 0, none⟩) 0 0) (([] : List Cv).map Cv.row) → Below w.heap.size w w1 → wpList Tryd.prog ops Q rest (a.put o.dst (.slice (some ⟨g, 0, none⟩) 0 0)) w1) : wpList Tryd.prog ops Q (o :: rest) a w := by
  refine wpList_plain hg fun _ hK => ?_
  unfold Oper.wp execOp
  simp only [ho, List.map_toArray, List.map_nil, Sem.run_bind, run_build0C w, Result.andThen_ok, Sem.run_pure]
  exact hK _ _ (h _ _ (XB.new0 w) (below_al _ _))
theorem XB.cl9 {B : Nat} {w : World} {v : Value} {L : List Cv} (h : XB 36 2 B w v (L.map Cv.row)) (he : ∀ x ∈ L, CvOk w x) (hn : L.length ≤ 1000) : CL w v L := by
  obtain ⟨po, c, e, h1, h2⟩ := h.form
  rw [List.length_map] at e h1
  refine ⟨po, c, e, h1, hn, h2, ?_, he⟩
  by_cases h0 : 0 < L.length
  · obtain ⟨g, c2, e2, _, _, _, h3⟩ := h.cells (crow_len L) (by rw [List.length_map]; exact h0)
    rw [List.length_map] at e2
    rw [e] at e2
    cases e2
    refine Or.inr ⟨g, 0, rfl, fun i x hx => ?_⟩
    have h4 := h3 i x.row (by rw [List.getElem?_map, hx]; rfl)
    exact ⟨by have := h4 0 (i64 x.err) rfl; simpa using this, h4 1 x.v rfl⟩
  · exact Or.inl (List.eq_nil_of_length_eq_zero (by omega))
theorem CvOk.one9 {w : World} {x : Cv} (h : CvOk w x) : x.v.oneCell' = true := by
  obtain ⟨po, c, e, _⟩ := h.sl
  rw [e]; rfl
end Go.Proofs.YtelkijiphhoacaaDoor

/- TallyCounts: the mathematics. -/
namespace Go.Proofs.YtelkijiphhoacaaDoor
open Go Go.RowKit

theorem vot_ins (l m : List Cp) (c : Cp) (b : List Nat) (h : hasC b c = true) : votC (l ++ [c] ++ m) b = votC (l ++ m) b + 1 := by
  have h' : (decide (c.err = 0) && decide (c.b = b)) = true := h
  unfold votC
  rw [List.filter_append, List.filter_append, List.filter_append, List.filter_cons, if_pos h']
  simp only [List.length_append, List.length_cons, List.filter_nil, List.length_nil]
  omega
theorem vot_ans (l : List Cp) (b : List Nat) : votC l b ≤ ansN l := by
  unfold votC ansN
  rw [← List.countP_eq_length_filter, ← List.countP_eq_length_filter]
  refine List.countP_mono_left fun c _ hc => ?_
  simp only [Bool.and_eq_true] at hc
  unfold ansC
  rw [hc.1]; rfl
theorem vot_some {l : List Cp} {b : List Nat} (h : 1 ≤ votC l b) : ∃ c ∈ l, c.err = 0 ∧ c.b = b := by
  unfold votC at h
  obtain ⟨c, hc⟩ := List.exists_mem_of_length_pos (l := l.filter fun c : Cp => decide (c.err = 0) && decide (c.b = b)) (by omega)
  obtain ⟨h1, h2⟩ := List.mem_filter.1 hc
  simp only [Bool.and_eq_true, decide_eq_true_eq] at h2
  exact ⟨c, h1, h2⟩
theorem rw_one9 {w : World} {g : Nat} {po : Option Addr} {n c : Nat} {bs : List Nat} (h : CAt w g (cC 0 (.slice po n c)) 36) : RwC w (.slice (some ⟨g, 0, none⟩) 1 1) [(⟨0, .slice po n c, bs⟩ : Cv)] :=
  Or.inr ⟨⟨g, 0, none⟩, 1, rfl, Or.inr ⟨g, 0, rfl, fun i x hx => by
    rcases i with _ | i
    · simp at hx
      subst hx
      exact ⟨by rw [h.cell]; rfl, by rw [h.cell]; rfl⟩
    · simp at hx⟩⟩
theorem SL.formS {w : World} {v : Value} {bs : List Nat} (h : SL w v bs) : ∃ po c, v = .slice po bs.length c ∧ True := by obtain ⟨po, c, h1, _⟩ := h; exact ⟨po, c, h1, trivial⟩
theorem BoL.formL {w : World} {v : Value} {hs : List Bool} (h : BoL w v hs) : ∃ po c, v = .slice po hs.length c ∧ True := by obtain ⟨po, c, h1, _⟩ := h; exact ⟨po, c, h1, trivial⟩
theorem CAt.wholeE9 {w : World} {g : Nat} {cs : Array Value} {t : TypeId} (h : CAt w g cs t) : ∀ j u, cs[j]? = some u → w.cell? ⟨g, 0 + j, none⟩ = some u := fun j u hu => by rw [Nat.zero_add, h.cell, hu]
theorem CAt.e129 {w : World} {g : Nat} {f : Bool} {s : Int} {v b h : Value} {a n : Int} {t : TypeId} (hc : CAt w g (eC f s v b h a n) t) : ∀ j u, (jC s v)[j]? = some u → w.cell? ⟨g, 1 + j, none⟩ = some u := fun j u hu => by
  rw [hc.cell]
  match j, hu with
  | 0, hu => simpa [jC, eC] using hu
  | 1, hu => simpa [jC, eC] using hu
  | j + 2, hu => simp [jC] at hu
/-- What is put in. -/
def insC (L : List Cv) (k : Nat) (x : Cv) : List Cv := L.take k ++ [x] ++ L.drop k
theorem ins_len {L : List Cv} {k : Nat} {x : Cv} (h : k ≤ L.length) : (insC L k x).length = L.length + 1 := by
  unfold insC; simp only [List.length_append, List.length_take, List.length_drop, List.length_cons, List.length_nil]; omega
theorem ins_vot {L : List Cv} {k : Nat} {x : Cv} {b : List Nat} (h : hasC b x.cp = true) : votC (cps (insC L k x)) b = votC (cps L) b + 1 := by
  have : cps (insC L k x) = cps (L.take k) ++ [x.cp] ++ cps (L.drop k) := by unfold insC cps; simp
  rw [this, vot_ins _ _ _ _ h]
  congr 2
  unfold cps
  rw [← List.map_append, List.take_append_drop]
theorem ins_mem {L : List Cv} {k : Nat} {x y : Cv} (h : y ∈ insC L k x) : y = x ∨ y ∈ L := by
  unfold insC at h
  simp only [List.mem_append, List.mem_singleton] at h
  rcases h with (h | h) | h
  · exact Or.inr (List.mem_of_mem_take h)
  · exact Or.inl h
  · exact Or.inr (List.mem_of_mem_drop h)
theorem jB_byte9 {w : World} {v : Value} {s : Int} {l : List Rp} (h : RL w v l) : ∀ z ∈ jB dig ⟨s, rcs l⟩, z < 256 := fun z hz => by
  unfold jB at hz
  rw [jBody_hd] at hz
  rcases List.mem_append.1 hz with hz | hz
  · rcases List.mem_append.1 hz with hz | hz
    · exact hdJ_byte _ _ z hz
    · exact rsB_byte h.ok z hz
  · exact dig_lt _ z hz
/-- The journal counts. -/
theorem counts_ch {l : List Cp} {J : Jr} (hk : okJ J = true) (hv : 1 ≤ votC l (jB dig J)) (hl : ∀ c ∈ l, leadAt l (jB dig J) J.seq c) : chC dig l = ⟨true, J, jB dig J, l.map (hasC (jB dig J)), ansN l, votC l (jB dig J)⟩ := by
  obtain ⟨c0, h0, he, hb⟩ := vot_some hv
  have hj : hasJ dig c0 = some J := by unfold hasJ; rw [if_pos he, hb, rdJ_jB dig_len hk]
  have := el_leads h0 hj (fun c hc hne j h => by rw [hb]; rw [hb] at hne; exact hl c hc hne j h)
  rw [hb] at this
  exact chC_some this
theorem beh_get {l : List Cp} (hs : List Bool) {i : Nat} {c : Cp} {x : Bool} (hc : l[i]? = some c) (hx : hs[i]? = some x) (hlen : ¬ (16 < l.length ∨ hs.length ≠ l.length)) : (behE l true hs).1 = 0 ∧ (behE l true hs).2.length = l.length ∧ (behE l true hs).2[i]? = some (ansC c && !x) := by
  unfold behE
  rw [if_neg hlen]
  have hi : i < l.length := (List.getElem?_eq_some_iff.1 hc).1
  refine ⟨rfl, by simp, ?_⟩
  simp only [List.getElem?_map, List.getElem?_range hi, Option.map_some, hc, Bool.true_and, List.getD, hx, Option.getD_some]
end Go.Proofs.YtelkijiphhoacaaDoor
