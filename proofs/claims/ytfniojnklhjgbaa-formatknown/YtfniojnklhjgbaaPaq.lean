/- Texts laid into one, cut to what is needed: the remark ahead of each part says what is proved there. -/
import Derived.Test.YtfniojnklhjgbaaPan
import Derived.Test.YtfniojnklhjgbaaPao
import Derived.Test.YtfniojnklhjgbaaPap
import Derived.Test.YtfniojnklhjgbaaPam
import Derived.ChangeArms
import Derived.ChangeSlices
import Derived.OpenShut
/- Package format's Judge. (Written by tools/gen_Gg15.py.) -/
namespace Go.Proofs.Ytfniojnklhjgbaa
open Go Go.RowKit

def rdg (L : List Nat) (f : FmV) : Nat := if rdFe L ≠ 0 then 1 else if rdFv L = f then 2 else 3
set_option linter.unusedVariables false in
set_option maxRecDepth 100000 in
set_option maxHeartbeats 4000000 in
theorem freadState_any (po : Option Addr) (c : Nat) (L : List Nat) (f : FmV) (w : World) (h : BL w po L) (hc : L.length ≤ c) (hn : L.length ≤ 100000) (hp : po = none → c = 0) (h8 : ∀ z ∈ L, z < 256) : Calls Try.prog 46 #[.slice po L.length c, .agg f.cs] w fun e w' => e = .returned (.int .i64 (rdg L f : Int)) ∧ Below w.heap.size w w' := by
  have HRD : Hid (∀ W, Below w.heap.size w W → Calls Try.prog 11 #[.slice po L.length c] W (RdFm W L)) := hid (fun W hW => fread14_any po c L W (h.below hW) hc hn hp h8)
  clear h hc hn hp h8
  by_cases hr0 : rdFe L = 0
  · by_cases hf : rdFv L = f
    · have hz : rdg L f = 2 := by unfold rdg; rw [if_neg (by rw [hr0]; decide), if_pos hf]
      have HJR : Hid (∀ W, Below w.heap.size w W → Calls Try.prog 11 #[.slice po L.length c] W fun e w' => e = .returned (.tuple #[.agg f.cs, .int .i64 0]) ∧ Below W.heap.size W w') := hid (fun W hW => (HRD.out W hW).mono fun e w' h => ⟨by rw [h.1, hr0, hf]; rfl, h.2⟩)
      rw [hz]
      have HNE := hid (fun W => neqF f f W)
      rw [show decide (f = f) = true by simp] at HNE
      clear HRD hz hf hr0
      have T1 : Hid True := hid trivial
      go_enter Try.func46, Try.ntmps46
      go_wp2_with (first
        | ((with_reducible refine wpList_boxT 23 rfl _ rfl f.cs ?_ ?_); exact rfl; intro w1 g3 hc1 hb1 hg1; have HX3 := hid (show FmAt w1 g3 0 f from fun j u hu => by rw [Nat.zero_add, hc1.cell]; exact hu); have HB := hid hb1; clear hc1 hb1 hg1)
        | (go_at_call 11; refine (HJR.out _ HB.out).mono ?_; rintro e w2 ⟨rfl, hb2⟩; replace HX3 := hid (HX3.out.below hb2); replace HB := hid (below_on HB.out hb2); clear hb2)
        | ((with_reducible refine wpList_allocF rfl rfl ?_); intro w5 g5 hz5 hb5 hg5; have HZ5 := hid hz5; have HG4 := hid HX3.out.lt; replace HX3 := hid (HX3.out.below hb5); have HB5 := hid (below_on HB.out hb5); have HG5 := hid hg5; clear hz5 hb5 hg5)
        | ((with_reducible refine wpList_storeF rfl rfl _ _ rfl g5 ?_ (f := f) ?_ HZ5.out ?_); exact rfl; exact rfl; intro w6 h6 o6; have HC6 := hid (show FmAt w6 g5 0 f from fun j u hu => by rw [Nat.zero_add, h6.cell]; exact hu); have HX6 := hid (HX3.out.only o6 (by have := HG4.out; have := HG5.out; omega)); have HB6 := hid (below_tr HB5.out (o6.below HB5.out.size (fun i e => by have := HB.out.size; have := HG5.out; omega))); clear h6 o6)
        | (clear T1; (with_reducible refine wpList_loadW 23 _ rfl ?_ (.pointer (some ⟨g5, 0, none⟩)) (.agg f.cs) ?_ HC6.out.load ?_); kernel_rfl; exact rfl)
        | ((with_reducible refine wpList_loadW 23 _ rfl ?_ (.pointer (some ⟨g3, 0, none⟩)) (.agg f.cs) ?_ HX6.out.load ?_); kernel_rfl; exact rfl)
        | ((with_reducible refine wpList_binW .neq 23 _ _ _ (.agg f.cs) (.agg f.cs) (.bool false) rfl ?_ ?_ ?_ ?_ (HNE.out _) ?_); kernel_rfl; exact rfl; exact rfl; simp [eqGuard]))
      go_ret
      exact ⟨rfl, HB6.out⟩
    · have hz : rdg L f = 3 := by unfold rdg; rw [if_neg (by rw [hr0]; decide), if_neg hf]
      have HNE := hid (fun W => neqF (rdFv L) f W)
      rw [show decide (rdFv L = f) = false from decide_eq_false hf] at HNE
      have HJR : Hid (∀ W, Below w.heap.size w W → Calls Try.prog 11 #[.slice po L.length c] W fun e w' => e = .returned (.tuple #[.agg (rdFv L).cs, .int .i64 0]) ∧ Below W.heap.size W w') := hid (fun W hW => (HRD.out W hW).mono fun e w' h => ⟨by rw [h.1, hr0]; rfl, h.2⟩)
      rw [hz]
      generalize rdFv L = fv at *
      clear HRD hz hf hr0
      have T1 : Hid True := hid trivial
      go_enter Try.func46, Try.ntmps46
      go_wp2_with (first
        | ((with_reducible refine wpList_boxT 23 rfl _ rfl f.cs ?_ ?_); exact rfl; intro w1 g3 hc1 hb1 hg1; have HX3 := hid (show FmAt w1 g3 0 f from fun j u hu => by rw [Nat.zero_add, hc1.cell]; exact hu); have HB := hid hb1; clear hc1 hb1 hg1)
        | (go_at_call 11; refine (HJR.out _ HB.out).mono ?_; rintro e w2 ⟨rfl, hb2⟩; replace HX3 := hid (HX3.out.below hb2); replace HB := hid (below_on HB.out hb2); clear hb2)
        | ((with_reducible refine wpList_allocF rfl rfl ?_); intro w5 g5 hz5 hb5 hg5; have HZ5 := hid hz5; have HG4 := hid HX3.out.lt; replace HX3 := hid (HX3.out.below hb5); have HB5 := hid (below_on HB.out hb5); have HG5 := hid hg5; clear hz5 hb5 hg5)
        | ((with_reducible refine wpList_storeF rfl rfl _ _ rfl g5 ?_ (f := fv) ?_ HZ5.out ?_); exact rfl; exact rfl; intro w6 h6 o6; have HC6 := hid (show FmAt w6 g5 0 fv from fun j u hu => by rw [Nat.zero_add, h6.cell]; exact hu); have HX6 := hid (HX3.out.only o6 (by have := HG4.out; have := HG5.out; omega)); have HB6 := hid (below_tr HB5.out (o6.below HB5.out.size (fun i e => by have := HB.out.size; have := HG5.out; omega))); clear h6 o6)
        | (clear T1; (with_reducible refine wpList_loadW 23 _ rfl ?_ (.pointer (some ⟨g5, 0, none⟩)) (.agg fv.cs) ?_ HC6.out.load ?_); kernel_rfl; exact rfl)
        | ((with_reducible refine wpList_loadW 23 _ rfl ?_ (.pointer (some ⟨g3, 0, none⟩)) (.agg f.cs) ?_ HX6.out.load ?_); kernel_rfl; exact rfl)
        | ((with_reducible refine wpList_binW .neq 23 _ _ _ (.agg fv.cs) (.agg f.cs) (.bool true) rfl ?_ ?_ ?_ ?_ (HNE.out _) ?_); kernel_rfl; exact rfl; exact rfl; simp [eqGuard]))
      go_ret
      exact ⟨rfl, HB6.out⟩
  · have hz : rdg L f = 1 := by unfold rdg; rw [if_pos hr0]
    have her : ((rdFe L : Int) != 0) = true := by rw [bne_iff_ne]; omega
    have HJR : Hid (∀ W, Below w.heap.size w W → Calls Try.prog 11 #[.slice po L.length c] W fun e w' => e = .returned (.tuple #[.agg (rdFv L).cs, .int .i64 (rdFe L : Int)]) ∧ Below W.heap.size W w') := hid (fun W hW => (HRD.out W hW).mono fun e w' h => ⟨by rw [h.1], h.2⟩)
    rw [hz]
    generalize rdFv L = fv at *
    generalize rdFe L = er at *
    clear HRD hz hr0
    go_enter Try.func46, Try.ntmps46
    go_wp2_with (first
      | ((with_reducible refine wpList_boxT 23 rfl _ rfl f.cs ?_ ?_); exact rfl; intro w1 g3 hc1 hb1 hg1; have HB := hid hb1; clear hc1 hb1 hg1)
      | (go_at_call 11; refine (HJR.out _ HB.out).mono ?_; rintro e w2 ⟨rfl, hb2⟩; replace HB := hid (below_on HB.out hb2); clear hb2)
      | ((with_reducible refine wpList_allocF rfl rfl ?_); intro w5 g5 hz5 hb5 hg5; have HZ5 := hid hz5; have HB5 := hid (below_on HB.out hb5); have HG5 := hid hg5; clear hz5 hb5 hg5)
      | ((with_reducible refine wpList_storeF rfl rfl _ _ rfl g5 ?_ (f := fv) ?_ HZ5.out ?_); exact rfl; exact rfl; intro w6 h6 o6; have HB6 := hid (below_tr HB5.out (o6.below HB5.out.size (fun i e => by have := HB.out.size; have := HG5.out; omega))); clear h6 o6))
    go_ret
    exact ⟨rfl, HB6.out⟩
theorem jdg_read {x : Cv} {f : FmV} (h : x.err = 0) : jdg x f = rdg x.bs f := by unfold jdg rdg; rw [if_neg (by rw [h]; decide), if_pos h]
theorem jdg_none {x : Cv} {f : FmV} (h : x.err = 6) : jdg x f = 1 := by unfold jdg; rw [if_pos h]
theorem jdg_off {x : Cv} {f : FmV} (h : x.err ≠ 0) (h6 : x.err ≠ 6) : jdg x f = 4 := by unfold jdg; rw [if_neg h6, if_neg h]
set_option linter.unusedVariables false in
set_option maxRecDepth 100000 in
set_option maxHeartbeats 4000000 in
theorem fstate_any (x : Cv) (f : FmV) (w : World) (hx : CvOk w x) : Calls Try.prog 36 #[.agg (cC x.err x.v), .agg f.cs] w fun e w' => e = .returned (.int .i64 (jdg x f : Int)) ∧ Below w.heap.size w w' := by
  obtain ⟨p1, c1, hxv, hbl, hcap, hnil⟩ := hx.sl
  have HRS : Hid (∀ W, Below w.heap.size w W → Calls Try.prog 46 #[.slice p1 x.bs.length c1, .agg f.cs] W fun e w' => e = .returned (.int .i64 (rdg x.bs f : Int)) ∧ Below W.heap.size W w') := hid (fun W hW => freadState_any p1 c1 x.bs f W (hbl.below hW) hcap hx.small hnil hx.byte)
  rw [hxv]
  by_cases h0 : x.err = 0
  · rw [jdg_read h0, h0]
    generalize rdg x.bs f = z at *
    generalize x.bs.length = m1 at *
    clear hx hxv hbl hcap hnil h0
    go_enter Try.func36, Try.ntmps36
    go_wp2_with (first
      | ((with_reducible refine wpList_boxT 39 rfl _ rfl (cC 0 (.slice p1 m1 c1)) ?_ ?_); exact rfl; intro w1 g2 hc1 hb1 hg1; have HC2 := hid hc1; have HB := hid hb1; clear hc1 hb1 hg1)
      | ((with_reducible refine wpList_boxT 23 rfl _ rfl f.cs ?_ ?_); exact rfl; intro w2 g3 hc2 hb2 hg2; have HX3 := hid (show FmAt w2 g3 0 f from fun j u hu => by rw [Nat.zero_add, hc2.cell]; exact hu); have c0 := (HC2.out.below hb2).c0; have c1' : w2.cell? ⟨g2, 1, none⟩ = some (.slice p1 m1 c1) := (by rw [(HC2.out.below hb2).cell]; rfl); replace HB := hid (below_on HB.out hb2); clear hc2 hb2 hg2)
      | ((with_reducible refine wpList_loadW 23 _ rfl ?_ (.pointer (some ⟨g3, 0, none⟩)) (.agg f.cs) ?_ HX3.out.load ?_); kernel_rfl; exact rfl)
      | (go_at_call 46; refine (HRS.out _ HB.out).mono ?_; rintro e w4 ⟨rfl, hb4⟩; replace HB := hid (below_on HB.out hb4); clear hb4))
    go_ret
    exact ⟨rfl, HB.out⟩
  · by_cases h6 : x.err = 6
    · rw [jdg_none h6, h6]
      generalize x.bs.length = m1 at *
      clear hx hxv hbl hcap hnil h0 HRS h6
      go_enter Try.func36, Try.ntmps36
      go_wp2_with (first
        | ((with_reducible refine wpList_boxT 39 rfl _ rfl (cC 6 (.slice p1 m1 c1)) ?_ ?_); exact rfl; intro w1 g2 hc1 hb1 hg1; have HC2 := hid hc1; have HB := hid hb1; clear hc1 hb1 hg1)
        | ((with_reducible refine wpList_boxT 23 rfl _ rfl f.cs ?_ ?_); exact rfl; intro w2 g3 hc2 hb2 hg2; have c0 := (HC2.out.below hb2).c0; replace HB := hid (below_on HB.out hb2); clear hc2 hb2 hg2))
      go_ret
      exact ⟨rfl, HB.out⟩
    · rw [jdg_off h0 h6]
      have e0 : (x.err == 0) = false := beq_eq_false_iff_ne.2 h0
      have e6 : (x.err == 6) = false := beq_eq_false_iff_ne.2 h6
      generalize x.bs.length = m1 at *
      clear hx hxv hbl hcap hnil HRS h0 h6
      generalize x.err = E at *
      go_enter Try.func36, Try.ntmps36
      go_wp2_with (first
        | ((with_reducible refine wpList_boxT 39 rfl _ rfl (cC E (.slice p1 m1 c1)) ?_ ?_); exact rfl; intro w1 g2 hc1 hb1 hg1; have HC2 := hid hc1; have HB := hid hb1; clear hc1 hb1 hg1)
        | ((with_reducible refine wpList_boxT 23 rfl _ rfl f.cs ?_ ?_); exact rfl; intro w2 g3 hc2 hb2 hg2; have c0 := (HC2.out.below hb2).c0; replace HB := hid (below_on HB.out hb2); clear hc2 hb2 hg2))
      go_ret
      exact ⟨rfl, HB.out⟩
theorem load_atC {W : World} {g off : Nat} {e : Int} {v : Value} (hc : ∀ j u, (cC e v)[j]? = some u → W.cell? ⟨g, off + j, none⟩ = some u) : (Instr.loadAt 39 (.pointer (some ⟨g, off, none⟩))).run Try.prog W = .ok (.agg (cC e v)) W := by
  simp only [Instr.loadAt, Instr.sureAddr, Sem.run_bind, Sem.run_pure, Result.andThen_ok, run_loadVar_at W g off 39 (cC e v) _ hc underCp rfl sizeCp]
theorem exec_bsI14 {a : Act} {o : Oper} {x : Operand} {z : Nat} {W : World} (ho : o.op = .buildSlice 43 1 #[(0, x)]) (hx : a.eval x = .int .i64 (z : Int)) : (execOp a.eval o).run Try.prog W = .ok (.value (.slice (some ⟨W.heap.size, 0, none⟩) 1 1)) (W.alloc (.cells #[.int .i64 (z : Int)] 3)) := by
  have h : (Instr.buildSlice 43 1 #[(0, .int .i64 (z : Int))]).run Try.prog W = .ok (.slice (some ⟨W.heap.size, 0, none⟩) 1 1) (W.alloc (.cells #[.int .i64 (z : Int)] 3)) := by kernel_rfl
  unfold execOp
  simp only [ho, List.map_toArray, List.map_cons, List.map_nil, hx, Sem.run_bind, h, Result.andThen_ok, Sem.run_pure]
theorem info3 : (Try.prog.info? 3).map (fun i => (i.zero, i.size, i.bytes)) = some (some (.int .i64 0), 1, 8) := by kernel_rfl
theorem run_makeS (n : Nat) (hn : n ≤ 1000) (w : World) : (Instr.makeSlice 43 (.int .i64 0) (.int .i64 (n : Int))).run Try.prog w = .ok (.slice (some ⟨w.heap.size, 0, none⟩) 0 n) (w.alloc (.cells (madeCells #[.int .i64 0] n) 3)) := by
  obtain ⟨i0, hi, hz0, hz1, hz2⟩ := info_parts info3
  have h := run_make (P := Try.prog) w 43 3 i0 (.int .i64 0) Try.underlying43 hi hz0 .i64 .i64 0 n (by omega) (by omega) (by rw [hz2]; omega) (by omega)
  rw [hz1, show (Value.int .i64 0).cells = #[.int .i64 0] from rfl] at h
  simpa using h
theorem IBuf.made14 {B n : Nat} (hn : n ≤ 1000) (w : World) (hB : B ≤ w.heap.size) : IBuf B (w.alloc (.cells (madeCells #[.int .i64 0] n) 3)) (.slice (some ⟨w.heap.size, 0, none⟩) 0 n) [] :=
  ⟨rfl, .inr ⟨w.heap.size, n, madeCells #[.int .i64 0] n, rfl, hB, heap_alloc_new _ _, Nat.zero_le _, by unfold maxLen; omega, (by rw [Nat.mul_one]; exact size_madeCells _ _), by simp⟩⟩
set_option linter.unusedVariables false in
set_option maxRecDepth 100000 in
set_option maxHeartbeats 8000000 in
theorem fjudge14_any (v : Value) (l : List Cv) (k m s : Int) (w : World) (hl : CL w v l) (him : inI m) : Calls Try.prog 21 #[v, .int .i64 k, .int .i64 m, .int .i64 s] w (JdR w l k m s) := by
  have HAL := hid (fall14_any k m s w him)
  have HL := hid hl
  obtain ⟨po, c, rfl, hlc, hl1, _⟩ := hl
  clear him
  by_cases hne : okAl k m s = false ∨ l.length ≠ alN k m s
  · have hj : jdE l k m s ≠ 0 := by unfold jdE; rw [if_neg (fun h => hne.elim (fun e => by rw [h.1] at e; cases e) (fun e => e h.2))]; decide
    have HE : Hid (∀ W, Below w.heap.size w W → JdR w l k m s (.returned (.tuple #[.slice none 0 0, .int .i64 2])) W) := hid (fun W hb => .inr ⟨hj, rfl, hb⟩)
    generalize JdR w l k m s = PP at *
    have HNE := hid hne
    clear HL hj hne
    cases hok : okAl k m s with
    | false =>
      have HA : Hid (Calls Try.prog 19 #[.int .i64 k, .int .i64 m, .int .i64 s] w fun e w' => e = .returned (.tuple #[.slice none 0 0, .int .i64 2]) ∧ Below w.heap.size w w') := hid (HAL.out.mono fun e w' h => by
        rcases h with ⟨h, _⟩ | ⟨_, h⟩
        · rw [hok] at h; cases h
        · exact h)
      clear HAL HNE
      go_enter Try.func21, Try.ntmps21
      go_wp2_with (go_at_call 19; refine HA.out.mono ?_; rintro e w2 ⟨rfl, hb2⟩; have HB := hid hb2; clear hb2)
      exact HE.out _ HB.out
    | true =>
      have hln : l.length ≠ alN k m s := HNE.out.elim (fun e => by rw [hok] at e; cases e) id
      have HA : Hid (Calls Try.prog 19 #[.int .i64 k, .int .i64 m, .int .i64 s] w fun e w' => (∃ pa ca, e = .returned (.tuple #[.slice pa (alN k m s) ca, .int .i64 0])) ∧ Below w.heap.size w w') := hid (HAL.out.mono fun e w' h => by
        rcases h with ⟨_, pa, ca, h1, _, h2⟩ | ⟨h, _⟩
        · exact ⟨⟨pa, ca, h1⟩, h2⟩
        · rw [hok] at h; cases h)
      clear HAL HNE hok
      generalize alN k m s = n at *
      have hln' : ((l.length : Int) != (n : Int)) = true := by rw [bne_iff_ne]; omega
      have hln2 : ¬ l.length = n := hln
      clear hln
      go_enter Try.func21, Try.ntmps21
      go_wp2_with (go_at_call 19; refine HA.out.mono ?_; rintro e w2 ⟨⟨pa, ca, rfl⟩, hb2⟩; have HB := hid hb2; clear hb2)
      exact HE.out _ HB.out
  · have hok : okAl k m s = true := by cases h : okAl k m s with | true => rfl | false => exact absurd (.inl h) hne
    have hln : l.length = alN k m s := Classical.not_not.1 fun h => hne (.inr h)
    have hj : jdE l k m s = 0 := by unfold jdE; rw [if_pos ⟨hok, hln⟩]
    have hjl : jdL l k m s = jdN l k m s l.length := by unfold jdL jdN; rw [if_pos hj]
    have HE : Hid (∀ w2 v W, Below w.heap.size w w2 → JdI w2 l k m s l.length v W → ∃ po c, v = .slice po l.length c ∧ JdR w l k m s (.returned (.tuple #[v, .int .i64 0])) W) := hid (fun w2 v W hb hI => by
      obtain ⟨po, c, e⟩ := own_form hI.il
      rw [jdN_len] at e
      subst e
      exact ⟨po, c, rfl, .inl ⟨hj, po, c, rfl, by rw [hjl]; exact own_base hI.il hb.size, below_on hb hI.be⟩⟩)
    have HA : Hid (Calls Try.prog 19 #[.int .i64 k, .int .i64 m, .int .i64 s] w fun e w' => ∃ ga ca, e = .returned (.tuple #[.slice (some ⟨ga, 0, none⟩) l.length ca, .int .i64 0]) ∧ l.length ≤ ca ∧ FmL w.heap.size w' (.slice (some ⟨ga, 0, none⟩) l.length ca) (alL k m s) ∧ Below w.heap.size w w') := hid (HAL.out.mono fun e w' h => by
      rcases h with ⟨_, pa, ca, h1, h2, h3⟩ | ⟨h, _⟩
      · rw [← hln] at h1 h2
        obtain ⟨ga, cb, e2, _⟩ := h2.at (i := 0) (by rw [alL_len]; have := (alN_le hok).1; omega)
        rw [alL_len, ← hln] at e2
        obtain ⟨_, _, e3, hcc, _⟩ := h2.form
        rw [alL_len, ← hln] at e3 hcc
        cases e2; cases e3
        exact ⟨ga, ca, h1, hcc, h2, h3⟩
      · rw [hok] at h; cases h)
    have hl64 : l.length ≤ 64 := by have := (alN_le hok).2; omega
    have HAT : Hid (∀ i, i < l.length → ∀ W ga ca, FmL w.heap.size W (.slice (some ⟨ga, 0, none⟩) l.length ca) (alL k m s) → ∀ j u, (alG k m s i).cs[j]? = some u → W.cell? ⟨ga, i * 5 + j, none⟩ = some u) := hid (fun i hi W ga ca h j u hu => by
      obtain ⟨g, c, e, hc⟩ := h.at (i := i) (by rw [alL_len]; omega)
      rw [alL_len, ← hln] at e
      cases e
      rw [alL_at (by omega)] at hc
      exact hc j u hu)
    have hmk := run_makeS l.length (by omega)
    generalize JdR w l k m s = PP at *
    clear hne hj hjl hln HAL hok
    go_enter Try.func21, Try.ntmps21
    go_wp2_with (go_at_call 19; refine HA.out.mono ?_; rintro e w2 ⟨ga, ca, rfl, hca, hfl, hb2⟩; have HB := hid hb2; have HFL := hid hfl; have I2 : Hid (JdI w2 l k m s 0 (.slice (some ⟨w2.heap.size, 0, none⟩) 0 l.length) (w2.alloc (.cells (madeCells #[.int .i64 0] l.length) 3))) := hid ⟨below_al _ _, IBuf.made14 (by omega) w2 (Nat.le_refl _)⟩; clear hb2 hfl)
    go_loopg [12, 13, 36] l.length (fun gg u _ x wr => ∃ i : Nat, i ≤ l.length ∧ l.length - i ≤ gg ∧ x = .int .i64 (i : Int) ∧ JdI w2 l k m s i u wr)
    case atStart => exact ⟨0, by omega, by omega, rfl, I2.out⟩
    case round =>
      clear I2 HA hmk
      obtain ⟨i, hi, hg, rfl, hI⟩ := hrel
      by_cases hlt : i < l.length
      · have hlt' : (i : Int) < (l.length : Int) := by omega
        have hi2 : (i : Int) < 100 := by omega
        have hic : (i : Int) < (ca : Int) := by omega
        obtain ⟨x, hx⟩ : ∃ x, l[i]? = some x := ⟨_, List.getElem?_eq_getElem hlt⟩
        have hxd : l.getD i ⟨0, .slice none 0 0, []⟩ = x := by simp [List.getD, hx]
        obtain ⟨b, o, c', hv, _, _, _⟩ := HL.out.where hx
        cases hv
        obtain ⟨p1, m1, c1, hxv, hm1, hcl, -⟩ := HL.out.load (below_on HB.out hI.be) hx
        have HCL := hid hcl
        have HST : Hid (∀ W, Below wr.heap.size wr W → Calls Try.prog 36 #[.agg (cC x.err (.slice p1 m1 c1)), .agg (alG k m s i).cs] W fun e w' => e = .returned (.int .i64 (jdg x (alG k m s i) : Int)) ∧ Below W.heap.size W w') := hid (fun W hW => by
          have := fstate_any x (alG k m s i) W (HL.out.at (below_on HB.out (below_on hI.be hW)) hx).2.2
          rw [hxv] at this
          exact this)
        obtain ⟨pv, cv, hvf⟩ := own_form hI.il
        rw [jdN_len] at hvf
        subst hvf
        obtain ⟨z, hz⟩ : ∃ z, jdg x (alG k m s i) = z := ⟨_, rfl⟩
        have HPU : Hid (∀ W, Below wr.heap.size wr W → ∃ p2 c2 w6, (Builtin.append_ #[43, 43] 43 #[.slice pv i cv, .slice (some ⟨W.heap.size, 0, none⟩) 1 1]).run Try.prog (W.alloc (.cells #[.int .i64 (z : Int)] 3)) = .ok (.slice p2 (i + 1) c2) w6 ∧ JdI w2 l k m s (i + 1) (.slice p2 (i + 1) c2) w6 ∧ ∀ g, wr.heap.size ≤ g → g < W.heap.size → w6.heap[g]? = W.heap[g]?) := hid (fun W hb => by
          obtain ⟨v', w6, hr, hib, hgr⟩ := (hI.il.below hb).push z (by rw [jdN_len]; omega) (Nat.le_trans hI.be.size hb.size)
          have hst : jdN l k m s (i + 1) = jdN l k m s i ++ [z] := by rw [jdN_step, hxd, hz]
          rw [← hst] at hib
          obtain ⟨p2, c2, e⟩ := own_form hib
          rw [jdN_len] at e
          subst e
          exact ⟨p2, c2, w6, hr, ⟨below_grown (below_tr (below_on hI.be hb) (below_less (below_al W _) (Nat.le_trans hI.be.size hb.size))) hgr (Nat.le_refl _) (fun q e => (own_ge hI.il q e).1), hib⟩, fun g h1 h2 => (hgr.block g (by rw [size_al]; omega) (fun e => by have := (own_ge hI.il g e.symm).2; omega)).trans (heap_alloc_old _ _ h2)⟩)
        have HAI : Hid (∀ W, Below w2.heap.size w2 W → ∀ j u, (alG k m s i).cs[j]? = some u → W.cell? ⟨ga, i * 5 + j, none⟩ = some u) := hid (fun W hW => HAT.out i hlt W ga ca (HFL.out.below hW))
        have HBW := hid hI.be
        rw [hz] at HST
        clear HAT hI HE hx hxd hlc hl1 hl64 hcl HL hz hm1 hxv
        generalize hfi : alG k m s i = fi at *
        clear hfi
        generalize x.err = E at *
        have T1 : Hid True := hid trivial
        go_wp2_with (first
          | (clear T1; (with_reducible refine wpList_load_at 39 _ rfl ?_ b (o + i * 2) ?_ (cC E (.slice p1 m1 c1)) _ ?_ underCp rfl ?_ ?_); exact rfl; exact rfl; exact HCL.out; exact sizeCp)
          | ((with_reducible refine wpList_allocX 39 _ zeroCp rfl rfl ?_); intro w3 g2 hz2 hb2 hg2; have HZ2 := hid hz2; have HB2 := hid hb2; have HG2 := hid hg2; clear hz2 hb2 hg2)
          | ((with_reducible refine wpList_storeX 39 2 sizeCp rfl rfl _ _ rfl g2 ?_ (D := cC E (.slice p1 m1 c1)) ?_ ?_ ?_ ?_ HZ2.out ?_); exact rfl; exact rfl; exact rfl; exact rfl; exact cC_one _ _ _ _; intro w4 h3 o3; have HC3 := hid h3; have HB3 := hid (ownX HB2.out HG2.out o3); clear h3 o3 HZ2 HB2))
        have HSF : Hid (∀ W, Below w2.heap.size w2 W → W.heap[g2]? = w4.heap[g2]? → (fun W => (Instr.loadAt 39 (ptr g2)).run Try.prog W = .ok (.agg (cC E (.slice p1 m1 c1))) W ∧ (Instr.loadAt 23 (.pointer (some ⟨ga, i * 5, none⟩))).run Try.prog W = .ok (.agg fi.cs) W) W) := hid (fun W hW hg => ⟨load_atC (fun j u hu => by rw [Nat.zero_add, World.cell?_of_block (a := ⟨g2, j, none⟩) hg, HC3.out.cell]; exact hu), load_atF (fun j u hu => HAI.out W hW j u hu)⟩)
        have HGL : Hid (wr.heap.size ≤ g2 ∧ g2 < w4.heap.size) := hid ⟨by have := HG2.out; omega, HC3.out.lt⟩
        clear HC3 HG2 HAI HCL
        have HSB : Hid (∀ W, Below w4.heap.size w4 W → _) := hid (fun W hW => HSF.out W (below_on (below_on HBW.out HB3.out) hW) (hW.block g2 HGL.out.2))
        have HDW := hid (below_drew w4)
        refine wp_region_held_drew (S := (fun W => (Instr.loadAt 39 (ptr g2)).run Try.prog W = .ok (.agg (cC E (.slice p1 m1 c1))) W ∧ (Instr.loadAt 23 (.pointer (some ⟨ga, i * 5, none⟩))).run Try.prog W = .ok (.agg fi.cs) W)) (by kernel_rfl) (HSB.out _ HDW.out) (fun hHeld => ?_)
        generalize w4.drew = wd at *
        refine wpAnyH_take (i := 0) (oi := ⟨some 41, .move (.tmp 12), _, _, _, none⟩) (v := .slice pv i cv) rfl (by kernel_rfl) (by kernel_rfl) (by kernel_rfl) (fun _ _ _ h => h) (Or.inl ⟨by kernel_rfl, by intro W hW; go_simp⟩) hHeld ?_
        refine wpAnyH_take (i := 1) (oi := ⟨some 42, .load 39 (.tmp 14), _, _, _, none⟩) (v := .agg (cC E (.slice p1 m1 c1))) rfl (by kernel_rfl) (by kernel_rfl) (by kernel_rfl) (fun _ _ _ h => h) (Or.inl ⟨by kernel_rfl, fun W hW => exec_load rfl rfl hW.1⟩) hHeld ?_
        refine wpAnyH_take (i := 2) (oi := ⟨some 43, .move (.tmp 10), _, _, _, none⟩) (v := .slice (some ⟨ga, 0, none⟩) l.length ca) rfl (by kernel_rfl) (by kernel_rfl) (by kernel_rfl) (fun _ _ _ h => h) (Or.inl ⟨by kernel_rfl, by intro W hW; go_simp⟩) hHeld ?_
        refine wpAnyH_take (i := 3) (oi := ⟨some 44, .move (.tmp 13), _, _, _, none⟩) (v := .int .i64 (i : Int)) rfl (by kernel_rfl) (by kernel_rfl) (by kernel_rfl) (fun _ _ _ h => h) (Or.inl ⟨by kernel_rfl, by intro W hW; go_simp⟩) hHeld ?_
        refine wpAnyH_take (i := 4) (oi := ⟨some 45, .indexAddr 40 (.tmp 43) (.tmp 44), _, _, _, none⟩) (v := .pointer (some ⟨ga, i * 5, none⟩)) rfl (by kernel_rfl) (by kernel_rfl) (by kernel_rfl) (fun _ _ _ h => h) (Or.inl ⟨by kernel_rfl, by intro W hW; go_simp⟩) hHeld ?_
        refine wpAnyH_take (i := 5) (oi := ⟨some 46, .load 23 (.tmp 45), _, _, _, none⟩) (v := .agg fi.cs) rfl (by kernel_rfl) (by kernel_rfl) (by kernel_rfl) (fun _ _ _ h => h) (Or.inl ⟨by kernel_rfl, fun W hW => exec_load rfl rfl hW.2⟩) hHeld ?_
        refine wpAnyH_ready (rs := [6]) (by kernel_rfl) (by simp) ?_
        refine AllReadyH.cons rfl (fun K hK => ?_) AllReadyH.nil
        go_simp
        refine (HST.out _ (below_on HB3.out HDW.out)).mono ?_
        rintro e w5 ⟨rfl, hb5⟩
        have HB5 := hid (below_on HDW.out hb5)
        clear hb5 HDW HST
        go_wp2_with fail
        refine hK.out _ _ (HSB.out _ HB5.out) (fun hHeld => ?_)
        clear hK K
        obtain ⟨p2, c2, w6, hrun, hJI, hst⟩ := HPU.out w5 (below_on HB3.out HB5.out)
        have HRUN := hid hrun
        have HJI := hid hJI
        have HS6 := hid (HSF.out w6 (below_on (Below.refl _ _) hJI.be) ((hst g2 HGL.out.1 (Nat.lt_of_lt_of_le HGL.out.2 HB5.out.size)).trans (HB5.out.block g2 HGL.out.2)))
        clear hrun hJI hst
        refine wpAnyH_ready (rs := [7]) (by kernel_rfl) (by simp) ?_
        refine AllReadyH.cons (o := ⟨some 48, .buildSlice 43 1 #[(0, .tmp 47)], 43, _, _, none⟩) rfl (fun K hK => ?_) AllReadyH.nil
        with_reducible refine step_run_val ?_ (.slice (some ⟨w5.heap.size, 0, none⟩) 1 1) (w5.alloc (.cells #[.int .i64 (z : Int)] 3)) ?_ ?_
        · exact rfl
        · exact exec_bsI14 rfl (by kernel_rfl)
        refine hK.out _ _ (HSB.out _ (below_on HB5.out (below_al _ _))) (fun hHeld => ?_)
        clear hK K
        refine wpAnyH_ready (rs := [8]) (by kernel_rfl) (by simp) ?_
        refine AllReadyH.cons (o := ⟨some 49, .call { callee := .builtin .append, args := #[.tmp 41, .tmp 48], argTypes := #[43, 43] }, 43, _, _, none⟩) rfl (fun K hK => ?_) AllReadyH.nil
        with_reducible refine step_run_val ?_ (.slice p2 (i + 1) c2) w6 ?_ ?_
        · exact rfl
        · exact exec_app9 rfl (by kernel_rfl) (by kernel_rfl) HRUN.out
        refine hK.out _ _ HS6.out (fun hHeld => ?_)
        clear hK K
        refine wpAnyH_take (i := 9) (oi := ⟨some 12, .assign (.tmp 49), _, _, _, none⟩) (v := .slice p2 (i + 1) c2) rfl (by kernel_rfl) (by kernel_rfl) (by kernel_rfl) (fun _ _ _ h => h) (Or.inl ⟨by kernel_rfl, by intro W hW; go_simp⟩) hHeld ?_
        refine wpAnyH_done (by kernel_rfl) ?_ _
        (try simp only [Act.put, List.setIfInBounds_toArray, List.set_cons_zero, List.set_cons_succ])
        clear hHeld HS6 HSB HSF HRUN HPU
        go_wp2
        go_roundg (l.length - (i + 1))
        case measure => omega
        case rel => exact ⟨i + 1, by omega, Nat.le_refl _, by go_num, HJI.out⟩
      · have hlt' : ¬ (i : Int) < (l.length : Int) := by omega
        have e : i = l.length := by omega
        subst e
        obtain ⟨p2, c2, hv, hpp⟩ := HE.out _ _ _ HB.out hI
        subst hv
        have HP := hid hpp
        clear hI hpp HE
        go_wp2
        exact HP.out
theorem fmc : FmC := ⟨fcheck14_any, fbytes14_any, fread14_any, fun k m s w _ hm _ => fall14_any k m s w hm, fun v l k m s w hl _ hm _ => fjudge14_any v l k m s w hl hm⟩
end Go.Proofs.Ytfniojnklhjgbaa

/- Formats, bytes and bools that came in. -/
namespace Go.Proofs.Ytfniojnklhjgbaa
open Go Go.RowKit

section
variable {H : Type} {enc : TypeId × Value → H} {w : World} {held : Bool} {fuel : Nat}
theorem inI_of {k : Int} (h : (Lit.int .i64 k).wf = true) : inI k := wf64 h
set_option maxRecDepth 100000 in
theorem fm_read14 {cs : List Value} {x : DataW H × List MemPlace} (h : DataW.trod enc Try.prog w 0 (fun _ => true) held fuel 23 cs = some x) : ∃ f : FmV, f.wf ∧ cs = f.cs.toList := by
  obtain ⟨xs, n, _, _, hcl, hxl, hf⟩ := DataW.trod_struct Try.underlying23 h
  have h5 : cs.length = 5 := by rw [hcl]; kernel_rfl
  have hx5 : xs.length = 5 := by rw [hxl]; rfl
  have k3 : Try.prog.cellsOf 3 = 1 := by kernel_rfl
  match cs, h5, xs, hx5 with
  | [c0, c1, c2, c3, c4], _, [y0, y1, y2, y3, y4], _ =>
    have f0 : DataW.trod enc Try.prog w 0 (fun _ => true) held n 3 (([c0, c1, c2, c3, c4].drop 0).take (Try.prog.cellsOf 3)) = some y0 := hf 0 _ rfl
    have f1 : DataW.trod enc Try.prog w 0 (fun _ => true) held n 3 (([c0, c1, c2, c3, c4].drop 1).take (Try.prog.cellsOf 3)) = some y1 := hf 1 _ rfl
    have f2 : DataW.trod enc Try.prog w 0 (fun _ => true) held n 3 (([c0, c1, c2, c3, c4].drop 2).take (Try.prog.cellsOf 3)) = some y2 := hf 2 _ rfl
    have f3 : DataW.trod enc Try.prog w 0 (fun _ => true) held n 3 (([c0, c1, c2, c3, c4].drop 3).take (Try.prog.cellsOf 3)) = some y3 := hf 3 _ rfl
    have f4 : DataW.trod enc Try.prog w 0 (fun _ => true) held n 3 (([c0, c1, c2, c3, c4].drop 4).take (Try.prog.cellsOf 3)) = some y4 := hf 4 _ rfl
    rw [k3] at f0 f1 f2 f3 f4
    obtain ⟨z0, e0, _, w0⟩ := DataW.trod_int Try.underlying3 f0
    obtain ⟨z1, e1, _, w1⟩ := DataW.trod_int Try.underlying3 f1
    obtain ⟨z2, e2, _, w2⟩ := DataW.trod_int Try.underlying3 f2
    obtain ⟨z3, e3, _, w3⟩ := DataW.trod_int Try.underlying3 f3
    obtain ⟨z4, e4, _, w4⟩ := DataW.trod_int Try.underlying3 f4
    simp at e0 e1 e2 e3 e4
    subst e0 e1 e2 e3 e4
    exact ⟨⟨z0, z1, z2, z3, z4⟩, ⟨inI_of w0, inI_of w1, inI_of w2, inI_of w3, inI_of w4⟩, rfl⟩
/-- What is told of bytes that came in. -/
def IsB14 (w : World) (a : Option Addr) (len cap : Nat) : Prop := ∃ bs : List Nat, bs.length = len ∧ len ≤ cap ∧ BL w a bs ∧ (∀ x ∈ bs, x < 256) ∧ (a = none → cap = 0) ∧ len ≤ maxLen
theorem bytes_open14 {a : Option Addr} {len cap : Nat} {x : DataW H × List MemPlace}
    (h : DataW.trod enc Try.prog w 0 (fun _ => true) held fuel 24 (Value.slice a len cap).cells.toList = some x) : IsB14 w a len cap := by
  obtain ⟨bs, h1, h2, h3, h4, h5⟩ := bytes_open h
  refine ⟨bs, h1, h2, h3, h4, h5, ?_⟩
  rcases Go.ChangeShapes.open_ints Try.underlying24 Try.underlying5 (by kernel_rfl) h with ⟨hcs, _⟩ | ⟨ad, l, c, zs, hcs, _, hl, hm, hz, _, hcell, hwz⟩
  · simp [Value.cells] at hcs
    obtain ⟨rfl, rfl, rfl⟩ := hcs
    exact Nat.zero_le _
  · simp [Value.cells] at hcs
    obtain ⟨rfl, rfl, rfl⟩ := hcs
    omega
end
end Go.Proofs.Ytfniojnklhjgbaa
