/- Texts laid into one: the remark ahead of each part says what is proved there. -/
import Derived.Test.YtfniojnklhjgbaaPaa
import Derived.Test.YtfniojnklhjgbaaPab
import Derived.Test.YtfniojnklhjgbaaPac
import Derived.Test.YtfniojnklhjgbaaPad
import Derived.Test.YtfniojnklhjgbaaPae
import Derived.Test.YtfniojnklhjgbaaPaf
import Derived.Test.YtfniojnklhjgbaaPag
import Derived.Test.YtfniojnklhjgbaaPah
import Derived.Test.YtfniojnklhjgbaaPai
import Derived.Test.YtfniojnklhjgbaaPaj
import Derived.Test.YtfniojnklhjgbaaPak
import Derived.Test.YtfniojnklhjgbaaPal
import Derived.Test.YtfniojnklhjgbaaPam
import Derived.Test.YtfniojnklhjgbaaPan
import Derived.Test.YtfniojnklhjgbaaPao
import Derived.Test.YtfniojnklhjgbaaPap
import Derived.Test.YtfniojnklhjgbaaPaq
import Derived.Test.YtfniojnklhjgbaaPar
import Derived.Deep.Cut
import Derived.Lib.SlBytesConst
/- Copies (what drives answer) and lists of them in memory; bools in memory. -/
namespace Go.Proofs.Ytfniojnklhjgbaa
open Go Go.RowKit

def cps (l : List Cv) : List Cp := l.map Cv.cp
theorem cps_len (l : List Cv) : (cps l).length = l.length := by simp [cps]
theorem cps_get (l : List Cv) (i : Nat) : (cps l)[i]? = l[i]?.map Cv.cp := by simp [cps]
theorem take_next {α : Type} {l : List α} {k : Nat} {x : α} (h : l[k]? = some x) : l.take (k + 1) = l.take k ++ [x] := by
  obtain ⟨hk, rfl⟩ := List.getElem?_eq_some_iff.1 h
  rw [List.take_add_one, h]; rfl
theorem cps_next {l : List Cv} {k : Nat} {x : Cv} (h : l[k]? = some x) : cps (l.take (k + 1)) = cps (l.take k) ++ [x.cp] := by rw [take_next h]; simp [cps]
end Go.Proofs.Ytfniojnklhjgbaa

/- The document's data: what is read, step by step; bytes beside a record's block. -/
namespace Go.Proofs.Ytfniojnklhjgbaa
open Go Go.RowKit

section
variable {po : Option Addr} {w w' : World} {v : Value} {d : List Nat} (h : SLn po w v d) (hl : d.length ≤ 100000) (h8 : ∀ x ∈ d, x < 256)
include h
include hl h8
end
section


end
/-- The cells of a row of ints. -/
theorem IBuf.open_ {B : Nat} {w : World} {v : Value} {xs : List Nat} (h : IBuf B w v xs) (hne : xs ≠ []) : ∃ gi c, v = .slice (some ⟨gi, 0, none⟩) xs.length c ∧ xs.length ≤ c ∧ B ≤ gi ∧ gi < w.heap.size ∧ ∀ i, i < xs.length → w.cell? ⟨gi, i, none⟩ = some (i64 ((xs.getD i 0 : Nat) : Int)) := by
  rcases h.2 with ⟨_, h0⟩ | ⟨g, cap, cur, rfl, hB, hg, h1, _, h3, h4⟩
  · exact absurd (List.eq_nil_of_length_eq_zero h0) hne
  · have hc : CAt w g cur 3 := hg
    refine ⟨g, cap, rfl, h1, hB, hc.lt, fun i hi => ?_⟩
    have := congrArg (fun l => l[i]?) h4
    simp [hi] at this
    rw [hc.cell, this]
    simp [List.getD, hi]
end Go.Proofs.Ytfniojnklhjgbaa

/- The document's All: lists of formats in memory. -/
namespace Go.Proofs.Ytfniojnklhjgbaa
open Go Go.RowKit

theorem FmL.push {B : Nat} {w w1 : World} {v : Value} {L : List FmV} (h : FmL B w v L) (f : FmV) (hl : L.length ≤ 1000) (hB : B ≤ w.heap.size) {g : Nat} (hc : CAt w1 g f.cs 23) (hb : Below w.heap.size w w1) :
    ∃ po c w2, (Builtin.append_ #[40, 40] 40 #[v, .slice (some ⟨g, 0, none⟩) 1 1]).run Try.prog w1 = .ok (.slice po (L.length + 1) c) w2 ∧ FmL B w2 (.slice po (L.length + 1) c) (L ++ [f]) ∧ Below B w w2 := by
  obtain ⟨v', w2, hr, hx, hg, _⟩ := XB.app (h.below hb) (T := 40) (ty := 40) Try.underlying40 infoFm rfl (by omega) g 0 1 [f.cs.toList] (by intro r hr; simp at hr; subst hr; rfl) (by intro r hr u hu; simp at hr; subst hr; simp [FmV.cs] at hu; rcases hu with rfl | rfl | rfl | rfl | rfl <;> rfl)
    (by intro i r hi j u hj
        have : i = 0 := by rcases i with _ | i <;> simp at hi ⊢
        subst this
        simp at hi; subst hi
        rw [show 0 + 0 * 5 + j = j by omega, hc.cell]
        simpa using hj) (by rw [flR_len]; simp; omega) (by omega) (Nat.le_trans hB hb.size)
  have hx2 : FmL B w2 v' (L ++ [f]) := by unfold FmL flR; rw [List.map_append]; exact hx
  obtain ⟨po, c, e, _, _⟩ := hx2.form
  rw [List.length_append, List.length_singleton] at e
  subst e
  refine ⟨po, c, w2, hr, hx2, below_tr (below_less hb hB) (XB.mono (Nat.le_trans hB hb.size) hg (h.below hb))⟩
theorem builtF3 (k m s : Int) : Try.prog.built 23 [(0, .int .i64 k), (1, .int .i64 m), (2, .int .i64 s)] = some (FmV.cs ⟨k, m, s, 0, 0⟩) := by kernel_rfl
structure AlI (w : World) (k m s : Int) (p : Nat) (v : Value) (W : World) : Prop where
  be : Below w.heap.size w W
  fl : FmL w.heap.size W v (alP k m s p)
set_option linter.unusedVariables false in
set_option maxRecDepth 100000 in
set_option maxHeartbeats 4000000 in
theorem rall14_any (k m s : Int) (w : World) : Calls Try.prog 20 #[.int .i64 k, .int .i64 m, .int .i64 s] w (AlR w k m s) := by
  have HCK := hid (fun W => rcheck14_any ⟨k, m, s, 0, 0⟩ W)
  unfold erFm at HCK
  cases hok : okAl k m s with
  | false =>
    unfold okAl at hok
    rw [hok, if_neg (by decide)] at HCK
    have HE : Hid (∀ W, Below w.heap.size w W → AlR w k m s (.returned (.tuple #[.slice none 0 0, .int .i64 2])) W) := hid (fun W hb => .inr ⟨hok, rfl, hb⟩)
    generalize AlR w k m s = PP at *
    clear hok
    go_enter Try.func20, Try.ntmps20
    go_wp2_with (first
      | ((with_reducible refine wpList_build_want 23 _ rfl ?_ (FmV.cs ⟨k, m, s, 0, 0⟩) ?_ ?_); exact rfl; exact builtF3 k m s)
      | (go_at_call 13; refine (HCK.out _).mono ?_; rintro e w2 ⟨rfl, hb2⟩; have HB := hid hb2; clear hb2))
    exact HE.out _ HB.out
  | true =>
    have ho := okFm_of (f := ⟨k, m, s, 0, 0⟩) hok
    simp only at ho
    unfold okAl at hok
    rw [hok, if_pos rfl] at HCK
    obtain ⟨n, hn⟩ : ∃ n, (k + m).toNat = n := ⟨_, rfl⟩
    obtain ⟨r, hr⟩ : ∃ r, s.toNat = r := ⟨_, rfl⟩
    have hkm : k + m = (n : Int) := by omega
    have hsr : s = (r : Int) := by omega
    have HALN : Hid (alN k m s = r * n) := hid (by unfold alN; rw [hn, hr, Nat.mul_comm])
    have HE : Hid (∀ v W, AlI w k m s (r * n) v W → ∃ po c, v = .slice po (r * n) c ∧ AlR w k m s (.returned (.tuple #[v, .int .i64 0])) W) := hid (fun v W hI => by
      obtain ⟨po, c, e, _, _⟩ := hI.fl.form
      rw [alP_len] at e
      subst e
      have hx := hI.fl
      refine ⟨po, c, rfl, .inl ⟨hok, po, c, by rw [HALN.out], ?_, hI.be⟩⟩
      rw [HALN.out]
      unfold alL
      rw [HALN.out]
      exact hx)
    have HG := hid (fun i j (hj : j < n) => alG_at (s := s) (i := i) hn hj)
    have I0 : Hid (AlI w k m s 0 (.slice none 0 0) w) := hid ⟨Below.refl _ _, FmL.nil _ _⟩
    have HNX : Hid (∀ i, (i + 1) * n = i * n + n) := hid (fun i => by rw [Nat.add_mul, Nat.one_mul])
    have hn16 : (n : Int) ≤ 16 := by omega
    have hr4 : (r : Int) ≤ 4 := by omega
    have HPB : Hid (∀ i j, i < r → j < n → i * n + j ≤ 64) := hid (fun i j hi hj => by
      have h1 : i * n ≤ 3 * 16 := Nat.mul_le_mul (by omega) (by omega)
      omega)
    generalize AlR w k m s = PP at *
    subst hsr
    clear hok hr ho hn
    go_enter Try.func20, Try.ntmps20
    go_wp2_with (first
      | ((with_reducible refine wpList_build_want 23 _ rfl ?_ (FmV.cs ⟨k, m, (r : Int), 0, 0⟩) ?_ ?_); exact rfl; exact builtF3 k m r)
      | (go_at_call 13; refine (HCK.out _).mono ?_; rintro e w2 ⟨rfl, hb2⟩; have HB := hid hb2; clear hb2))
    have I2 : Hid (AlI w k m r 0 (.slice none 0 0) w2) := hid ⟨HB.out, FmL.nil _ _⟩
    clear I0 HCK
    go_loopg [8, 9, 10] r (fun gg v x _ wr => ∃ (i : Nat), i ≤ r ∧ r - i ≤ gg ∧ x = .int .i64 (i : Int) ∧ AlI w k m r (i * n) v wr)
    case atStart => exact ⟨0, by omega, by omega, rfl, by rw [Nat.zero_mul]; exact I2.out⟩
    case round =>
      clear I2
      obtain ⟨i, hi, hg, rfl, hI⟩ := hrel
      by_cases hir : i < r
      · have hir' : (i : Int) < (r : Int) := by omega
        have HI := hid hI
        clear hI
        go_wp2
        go_loopg [8, 10] n (fun gg v x wq => ∃ (j : Nat), j ≤ n ∧ n - j ≤ gg ∧ x = .int .i64 (j : Int) ∧ AlI w k m r (i * n + j) v wq)
        case atStart => exact ⟨0, by omega, by omega, rfl, HI.out⟩
        case round =>
          clear HI
          obtain ⟨j, hj, hgj, rfl, hI⟩ := hrel
          by_cases hjn : j < n
          · have hjn' : (j : Int) < (n : Int) := by omega
            obtain ⟨po, c, hv, _, _⟩ := hI.fl.form
            rw [alP_len] at hv
            subst hv
            have HPU : Hid (∀ w1 g, CAt w1 g (FmV.cs ⟨k, m, (r : Int), (i : Int), (j : Int)⟩) 23 → Below wr.heap.size wr w1 → ∃ p2 c2 w2, (Builtin.append_ #[40, 40] 40 #[.slice po (i * n + j) c, .slice (some ⟨g, 0, none⟩) 1 1]).run Try.prog w1 = .ok (.slice p2 (i * n + j + 1) c2) w2 ∧ AlI w k m r (i * n + (j + 1)) (.slice p2 (i * n + j + 1) c2) w2) := hid (fun w1 g hc hb => by
              obtain ⟨p2, c2, w2, h1, h2, h3⟩ := hI.fl.push (alG k m r (i * n + j)) (by rw [alP_len]; have := HPB.out i j hir hjn; omega) hI.be.size (by rw [HG.out i j hjn]; exact hc) hb
              rw [alP_len] at h1 h2
              rw [← alP_step] at h2
              exact ⟨p2, c2, w2, h1, below_tr hI.be h3, by rw [show i * n + (j + 1) = i * n + j + 1 by omega]; exact h2⟩)
            clear hI HG HE HNX
            generalize hq : i * n + j = q at *
            generalize hq1 : q + 1 = q1 at *
            go_wp2_with (first
              | ((with_reducible refine wpList_build_want 23 _ rfl ?_ (FmV.cs ⟨k, m, (r : Int), (i : Int), (j : Int)⟩) ?_ ?_); exact rfl; exact builtF5 k m r i j)
              | ((with_reducible refine wpList_buildX (k := 5) Try.underlying40 infoFm (by omega) (by omega) rfl _ rfl (FmV.cs ⟨k, m, (r : Int), (i : Int), (j : Int)⟩) rfl ?_ ?_); exact rfl; intro w5 g5 hc5 hb5 he5; obtain ⟨p2, c2, w6, hrun, hI6⟩ := HPU.out w5 g5 hc5 hb5; have HRUN := hid hrun; have HI6 := hid hI6; clear hrun hI6 hc5 hb5 he5)
              | (at_builtin; refine wpList_append_run _ _ 40 40 rfl rfl _ _ _ rfl rfl HRUN.out ?_))
            go_roundg (n - (j + 1))
            case measure => omega
            case rel => exact ⟨j + 1, by omega, by omega, by go_num, HI6.out⟩
          · have hjn' : ¬ (j : Int) < (n : Int) := by omega
            have e : j = n := by omega
            subst e
            have HI := hid hI
            clear hI
            go_wp2
            go_roundg (r - (i + 1))
            case measure => omega
            case rel => exact ⟨i + 1, by omega, by omega, by go_num, by rw [HNX.out]; exact HI.out⟩
      · have hir' : ¬ (i : Int) < (r : Int) := by omega
        have e : i = r := by omega
        subst e
        obtain ⟨po, c, hv, hpp⟩ := HE.out _ _ hI
        subst hv
        have HP := hid hpp
        clear hI hpp HE
        go_wp2
        exact HP.out
end Go.Proofs.Ytfniojnklhjgbaa

/- The document's Judge. (Written by tools/gen_Fi14.py.) -/
namespace Go.Proofs.Ytfniojnklhjgbaa
open Go Go.RowKit

set_option linter.unusedVariables false in
set_option maxRecDepth 100000 in
set_option maxHeartbeats 8000000 in
theorem rjudge14_any (v : Value) (l : List Cv) (k m s : Int) (w : World) (hl : CL w v l) : Calls Try.prog 22 #[v, .int .i64 k, .int .i64 m, .int .i64 s] w (JdR w l k m s) := by
  have HAL := hid (rall14_any k m s w)
  have HL := hid hl
  obtain ⟨po, c, rfl, hlc, hl1, _⟩ := hl
  by_cases hne : okAl k m s = false ∨ l.length ≠ alN k m s
  · have hj : jdE l k m s ≠ 0 := by unfold jdE; rw [if_neg (fun h => hne.elim (fun e => by rw [h.1] at e; cases e) (fun e => e h.2))]; decide
    have HE : Hid (∀ W, Below w.heap.size w W → JdR w l k m s (.returned (.tuple #[.slice none 0 0, .int .i64 2])) W) := hid (fun W hb => .inr ⟨hj, rfl, hb⟩)
    generalize JdR w l k m s = PP at *
    have HNE := hid hne
    clear HL hj hne
    cases hok : okAl k m s with
    | false =>
      have HA : Hid (Calls Try.prog 20 #[.int .i64 k, .int .i64 m, .int .i64 s] w fun e w' => e = .returned (.tuple #[.slice none 0 0, .int .i64 2]) ∧ Below w.heap.size w w') := hid (HAL.out.mono fun e w' h => by
        rcases h with ⟨h, _⟩ | ⟨_, h⟩
        · rw [hok] at h; cases h
        · exact h)
      clear HAL HNE
      go_enter Try.func22, Try.ntmps22
      go_wp2_with (go_at_call 20; refine HA.out.mono ?_; rintro e w2 ⟨rfl, hb2⟩; have HB := hid hb2; clear hb2)
      exact HE.out _ HB.out
    | true =>
      have hln : l.length ≠ alN k m s := HNE.out.elim (fun e => by rw [hok] at e; cases e) id
      have HA : Hid (Calls Try.prog 20 #[.int .i64 k, .int .i64 m, .int .i64 s] w fun e w' => (∃ pa ca, e = .returned (.tuple #[.slice pa (alN k m s) ca, .int .i64 0])) ∧ Below w.heap.size w w') := hid (HAL.out.mono fun e w' h => by
        rcases h with ⟨_, pa, ca, h1, _, h2⟩ | ⟨h, _⟩
        · exact ⟨⟨pa, ca, h1⟩, h2⟩
        · rw [hok] at h; cases h)
      clear HAL HNE hok
      generalize alN k m s = n at *
      have hln' : ((l.length : Int) == (n : Int)) = false := beq_eq_false_iff_ne.2 (by omega)
      have hln2 : ¬ l.length = n := hln
      clear hln
      go_enter Try.func22, Try.ntmps22
      go_wp2_with (go_at_call 20; refine HA.out.mono ?_; rintro e w2 ⟨⟨pa, ca, rfl⟩, hb2⟩; have HB := hid hb2; clear hb2)
      exact HE.out _ HB.out
  · have hok : okAl k m s = true := by cases h : okAl k m s with | true => rfl | false => exact absurd (.inl h) hne
    have hln : l.length = alN k m s := Classical.not_not.1 fun h => hne (.inr h)
    have hj : jdE l k m s = 0 := by unfold jdE; rw [if_pos ⟨hok, hln⟩]
    have hjl : jdL l k m s = jdN l k m s l.length := by unfold jdL jdN; rw [if_pos hj]
    have HE : Hid (∀ w2 v W, Below w.heap.size w w2 → JdI w2 l k m s l.length v W → ∃ po c, v = .slice po l.length c ∧ JdR w l k m s (.returned (.tuple #[v, .int .i64 0])) W) := hid (fun w2 v W hb hI => by
      obtain ⟨po, c, e⟩ := own_form hI.il
      rw [jdN_len] at e
      subst e
      exact ⟨po, c, rfl, .inl ⟨hj, po, c, rfl, by rw [hjl]; exact own_base hI.il hb.size, below_on hb hI.be⟩⟩)
    have HA : Hid (Calls Try.prog 20 #[.int .i64 k, .int .i64 m, .int .i64 s] w fun e w' => ∃ ga ca, e = .returned (.tuple #[.slice (some ⟨ga, 0, none⟩) l.length ca, .int .i64 0]) ∧ l.length ≤ ca ∧ FmL w.heap.size w' (.slice (some ⟨ga, 0, none⟩) l.length ca) (alL k m s) ∧ Below w.heap.size w w') := hid (HAL.out.mono fun e w' h => by
      rcases h with ⟨_, pa, ca, h1, h2, h3⟩ | ⟨h, _⟩
      · rw [← hln] at h1 h2
        obtain ⟨ga, cb, e2, _⟩ := h2.at (i := 0) (by rw [alL_len]; have := (alN_le hok).1; omega)
        rw [alL_len, ← hln] at e2
        obtain ⟨_, _, e3, hcc, _⟩ := h2.form
        rw [alL_len, ← hln] at e3 hcc
        cases e2; cases e3
        exact ⟨ga, ca, h1, hcc, h2, h3⟩
      · rw [hok] at h; cases h)
    have hl64 : l.length ≤ 64 := by have := (alN_le hok).2; omega
    have HLN := hid hln
    have HAT : Hid (∀ i, i < l.length → ∀ W ga ca, FmL w.heap.size W (.slice (some ⟨ga, 0, none⟩) l.length ca) (alL k m s) → ∀ j u, (alG k m s i).cs[j]? = some u → W.cell? ⟨ga, i * 5 + j, none⟩ = some u) := hid (fun i hi W ga ca h j u hu => by
      obtain ⟨g, c, e, hc⟩ := h.at (i := i) (by rw [alL_len]; omega)
      rw [alL_len, ← hln] at e
      cases e
      rw [alL_at (by omega)] at hc
      exact hc j u hu)
    generalize JdR w l k m s = PP at *
    clear hne hj hjl hln HAL hok
    go_enter Try.func22, Try.ntmps22
    go_wp2_with (go_at_call 20; refine HA.out.mono ?_; rintro e w2 ⟨ga, ca, rfl, hca, hfl, hb2⟩; have HB := hid hb2; have HFL := hid hfl; have I2 : Hid (JdI w2 l k m s 0 (.slice none 0 0) w2) := hid ⟨Below.refl _ _, IBuf.nil _ _⟩; clear hb2 hfl)
    go_loopg [12, 13, 14, 15, 16] l.length (fun gg u x _ _ _ wr => ∃ i : Nat, i ≤ l.length ∧ l.length - i ≤ gg ∧ x = .int .i64 (i : Int) ∧ JdI w2 l k m s i u wr)
    case atStart => exact ⟨0, by omega, by omega, rfl, I2.out⟩
    case round =>
      clear I2 HA
      obtain ⟨i, hi, hg, rfl, hI⟩ := hrel
      by_cases hlt : i < l.length
      · have hlt' : (i : Int) < (l.length : Int) := by omega
        have hi2 : (i : Int) < 100 := by omega
        have hic : (i : Int) < (ca : Int) := by omega
        obtain ⟨x, hx⟩ : ∃ x, l[i]? = some x := ⟨_, List.getElem?_eq_getElem hlt⟩
        have hxd : l.getD i ⟨0, .slice none 0 0, []⟩ = x := by simp [List.getD, hx]
        obtain ⟨b, o, c', hv, _, _, _⟩ := HL.out.where hx
        cases hv
        obtain ⟨z0, z1, hcv⟩ := HL.out.at (below_on HB.out hI.be) hx
        have HCV := hid hcv
        obtain ⟨⟨px, cx, hxv, hbl, hxc, hxn⟩, hxs, hx8⟩ := hcv
        rw [hxv] at z1
        have HRD : Hid (∀ W, Below wr.heap.size wr W → Calls Try.prog 12 #[.slice px x.bs.length cx] W (RdFm W x.bs)) := hid (fun W hW => rread14_any px cx x.bs W (hbl.below hW) hxc hxs hx8)
        obtain ⟨pv, cv, hvf⟩ := own_form hI.il
        rw [jdN_len] at hvf
        subst hvf
        have HPU : Hid (∀ W (z : Nat), Below wr.heap.size wr W → jdg x (alG k m s i) = z → ∃ p2 c2 w6, (Builtin.append_ #[43, 43] 43 #[.slice pv i cv, .slice (some ⟨W.heap.size, 0, none⟩) 1 1]).run Try.prog (W.alloc (.cells #[i64 z] 3)) = .ok (.slice p2 (i + 1) c2) w6 ∧ JdI w2 l k m s (i + 1) (.slice p2 (i + 1) c2) w6) := hid (fun W z hb hz => by
          obtain ⟨v', w6, hr, hib, hgr⟩ := (hI.il.below hb).push z (by rw [jdN_len]; omega) (Nat.le_trans hI.be.size hb.size)
          have hst : jdN l k m s (i + 1) = jdN l k m s i ++ [z] := by rw [jdN_step, hxd, hz]
          rw [← hst] at hib
          obtain ⟨p2, c2, e⟩ := own_form hib
          rw [jdN_len] at e
          subst e
          exact ⟨p2, c2, w6, hr, below_grown (below_tr (below_on hI.be hb) (below_less (below_al W _) (Nat.le_trans hI.be.size hb.size))) hgr (Nat.le_refl _) (fun q e => (own_ge hI.il q e).1), hib⟩)
        have HBW := hid hI.be
        have hJ : ∀ z, jdg x (alG k m s i) = z → Hid (∀ W, Below wr.heap.size wr W → ∃ p2 c2 w6, (Builtin.append_ #[43, 43] 43 #[.slice pv i cv, .slice (some ⟨W.heap.size, 0, none⟩) 1 1]).run Try.prog (W.alloc (.cells #[.int .i64 (z : Int)] 3)) = .ok (.slice p2 (i + 1) c2) w6 ∧ JdI w2 l k m s (i + 1) (.slice p2 (i + 1) c2) w6) := fun z hz => hid (fun W hb => HPU.out W z hb hz)
        have HAI : Hid (∀ W, Below wr.heap.size wr W → ∀ j u, (alG k m s i).cs[j]? = some u → W.cell? ⟨ga, i * 5 + j, none⟩ = some u) := hid (fun W hW => HAT.out i hlt W ga ca (HFL.out.below (below_on HBW.out hW)))
        clear HPU HAT hI HE hx hxd hlc hl1 hl64 hbl hxs hx8 HCV HL
        generalize hfi : alG k m s i = fi at *
        by_cases h6 : x.err = 6
        · have e6 : (x.err == 6) = true := by rw [h6]; rfl
          have e0 : (x.err == 0) = false := by rw [h6]; rfl
          have HJ := hJ 1 (by unfold jdg; rw [if_pos h6])
          clear hJ HRD
          generalize hi1 : i + 1 = i1 at *
          have HI1 := hid hi1
          clear hi1
          obtain ⟨p2, c2, w6, hrun, hJI⟩ := HJ.out wr (Below.refl _ _)
          have HRUN := hid hrun
          have HJI := hid hJI
          clear hrun hJI
          go_wp2_with (at_builtin; refine wpList_append_run _ _ 43 43 rfl rfl _ _ _ rfl rfl HRUN.out ?_)
          go_roundg (l.length - i1)
          case measure => have := HI1.out; omega
          case rel => exact ⟨i1, by have := HI1.out; omega, Nat.le_refl _, by rw [← HI1.out]; go_num, HJI.out⟩
        · have e6 : (x.err == 6) = false := beq_eq_false_iff_ne.2 h6
          by_cases h0 : x.err = 0
          · have e0 : (x.err == 0) = true := by rw [h0]; rfl
            by_cases hr0 : rdFe x.bs = 0
            · by_cases hf : rdFv x.bs = fi
              · have HJ := hJ 2 (by unfold jdg; rw [if_neg h6, if_pos h0, if_neg (by rw [hr0]; decide), if_pos hf])
                have HJR : Hid (Calls Try.prog 12 #[.slice px x.bs.length cx] wr fun e w' => e = .returned (.tuple #[.agg (rdFv x.bs).cs, .int .i64 0]) ∧ Below wr.heap.size wr w') := hid ((HRD.out wr (Below.refl _ _)).mono fun e w' h => ⟨by rw [h.1, hr0]; rfl, h.2⟩)
                have hdf : decide (rdFv x.bs = fi) = true := decide_eq_true hf
                have HEQ := hid (fun W => eqlF (rdFv x.bs) fi W)
                rw [hdf] at HEQ
                clear hJ HRD hf hdf hr0
                generalize rdFv x.bs = fv at *
                go_upto_region 14 with (first
                  | (go_at_call 12; refine HJR.out.mono ?_; rintro e w3 ⟨rfl, hb3⟩; have HB3 := hid hb3; clear hb3)
                  | ((with_reducible refine wpList_allocF rfl rfl ?_); intro w4 g4 hz4 hb4 hg4; have HZ4 := hid hz4; have HB4 := hid (below_on HB3.out hb4); have HG4 := hid (show wr.heap.size ≤ g4 by have := HB3.out.size; omega); clear hz4 hb4 hg4)
                  | ((with_reducible refine wpList_storeF rfl rfl _ _ rfl g4 ?_ (f := fv) ?_ HZ4.out ?_); exact rfl; exact rfl; intro w5 h5 o5; have HB5 := hid (below_tr HB4.out (o5.below HB4.out.size (fun i e => by have := HG4.out; omega))); have HC5 := hid h5; clear h5 o5))
                have HSF : Hid (∀ W, Below w5.heap.size w5 W → (fun W => (Instr.loadAt 23 (ptr g4)).run Try.prog W = .ok (.agg fv.cs) W ∧ (Instr.loadAt 23 (.pointer (some ⟨ga, i * 5, none⟩))).run Try.prog W = .ok (.agg fi.cs) W) W) := hid (fun W hW => ⟨load_atF (fun j u hu => by rw [Nat.zero_add, (HC5.out.below hW).cell]; exact hu), load_atF (fun j u hu => HAI.out W (below_on HB5.out hW) j u hu)⟩)
                have HDW := hid (below_drew w5)
                refine wp_region_held_drew (S := (fun W => (Instr.loadAt 23 (ptr g4)).run Try.prog W = .ok (.agg fv.cs) W ∧ (Instr.loadAt 23 (.pointer (some ⟨ga, i * 5, none⟩))).run Try.prog W = .ok (.agg fi.cs) W)) (by kernel_rfl) (HSF.out _ HDW.out) (fun hHeld => ?_)
                generalize w5.drew = w6 at *
                refine wpAnyH_take (i := 0) (oi := ⟨some 60, .load 23 (.tmp 15), _, _, _, none⟩) (v := .agg fv.cs) rfl (by kernel_rfl) (by kernel_rfl) (by kernel_rfl) (fun _ _ _ h => h) (Or.inl ⟨by kernel_rfl, fun W hW => exec_load rfl rfl hW.1⟩) hHeld ?_
                refine wpAnyH_take (i := 1) (oi := ⟨some 61, .move (.tmp 10), _, _, _, none⟩) (v := .slice (some ⟨ga, 0, none⟩) l.length ca) rfl (by kernel_rfl) (by kernel_rfl) (by kernel_rfl) (fun _ _ _ h => h) (Or.inl ⟨by kernel_rfl, by intro W hW; go_simp⟩) hHeld ?_
                refine wpAnyH_take (i := 2) (oi := ⟨some 62, .move (.tmp 13), _, _, _, none⟩) (v := .int .i64 (i : Int)) rfl (by kernel_rfl) (by kernel_rfl) (by kernel_rfl) (fun _ _ _ h => h) (Or.inl ⟨by kernel_rfl, by intro W hW; go_simp⟩) hHeld ?_
                refine wpAnyH_take (i := 3) (oi := ⟨some 63, .indexAddr 40 (.tmp 61) (.tmp 62), _, _, _, none⟩) (v := .pointer (some ⟨ga, i * 5, none⟩)) rfl (by kernel_rfl) (by kernel_rfl) (by kernel_rfl) (fun _ _ _ h => h) (Or.inl ⟨by kernel_rfl, by intro W hW; go_simp⟩) hHeld ?_
                refine wpAnyH_take (i := 4) (oi := ⟨some 64, .load 23 (.tmp 63), _, _, _, none⟩) (v := .agg fi.cs) rfl (by kernel_rfl) (by kernel_rfl) (by kernel_rfl) (fun _ _ _ h => h) (Or.inl ⟨by kernel_rfl, fun W hW => exec_load rfl rfl hW.2⟩) hHeld ?_
                refine wpAnyH_take (i := 5) (oi := ⟨some 65, .binOp .eql 23 (.tmp 60) (.tmp 64) 23, _, _, _, none⟩) (v := .bool true) rfl (by kernel_rfl) (by kernel_rfl) (by kernel_rfl) (fun _ _ _ h => h) (Or.inl ⟨by kernel_rfl, fun W hW => exec_binF rfl (by kernel_rfl) (by kernel_rfl) (by simp [eqGuard]) (HEQ.out W)⟩) hHeld ?_
                refine wpAnyH_done (by kernel_rfl) ?_ _
                simp only [Act.put, List.setIfInBounds_toArray, List.set_cons_zero, List.set_cons_succ]
                clear hHeld
                generalize hi1 : i + 1 = i1 at *
                have HI1 := hid hi1
                clear hi1
                obtain ⟨p2, c2, w7, hrun, hJI⟩ := HJ.out w6 (below_on HB5.out HDW.out)
                have HRUN := hid hrun
                have HJI := hid hJI
                clear hrun hJI
                go_wp2_with (at_builtin; refine wpList_append_run _ _ 43 43 rfl rfl _ _ _ rfl rfl HRUN.out ?_)
                go_roundg (l.length - i1)
                case measure => have := HI1.out; omega
                case rel => exact ⟨i1, by have := HI1.out; omega, Nat.le_refl _, by rw [← HI1.out]; go_num, HJI.out⟩
              · have HJ := hJ 3 (by unfold jdg; rw [if_neg h6, if_pos h0, if_neg (by rw [hr0]; decide), if_neg hf])
                have HJR : Hid (Calls Try.prog 12 #[.slice px x.bs.length cx] wr fun e w' => e = .returned (.tuple #[.agg (rdFv x.bs).cs, .int .i64 0]) ∧ Below wr.heap.size wr w') := hid ((HRD.out wr (Below.refl _ _)).mono fun e w' h => ⟨by rw [h.1, hr0]; rfl, h.2⟩)
                have hdf : decide (rdFv x.bs = fi) = false := decide_eq_false hf
                have HEQ := hid (fun W => eqlF (rdFv x.bs) fi W)
                rw [hdf] at HEQ
                clear hJ HRD hf hdf hr0
                generalize rdFv x.bs = fv at *
                go_upto_region 14 with (first
                  | (go_at_call 12; refine HJR.out.mono ?_; rintro e w3 ⟨rfl, hb3⟩; have HB3 := hid hb3; clear hb3)
                  | ((with_reducible refine wpList_allocF rfl rfl ?_); intro w4 g4 hz4 hb4 hg4; have HZ4 := hid hz4; have HB4 := hid (below_on HB3.out hb4); have HG4 := hid (show wr.heap.size ≤ g4 by have := HB3.out.size; omega); clear hz4 hb4 hg4)
                  | ((with_reducible refine wpList_storeF rfl rfl _ _ rfl g4 ?_ (f := fv) ?_ HZ4.out ?_); exact rfl; exact rfl; intro w5 h5 o5; have HB5 := hid (below_tr HB4.out (o5.below HB4.out.size (fun i e => by have := HG4.out; omega))); have HC5 := hid h5; clear h5 o5))
                have HSF : Hid (∀ W, Below w5.heap.size w5 W → (fun W => (Instr.loadAt 23 (ptr g4)).run Try.prog W = .ok (.agg fv.cs) W ∧ (Instr.loadAt 23 (.pointer (some ⟨ga, i * 5, none⟩))).run Try.prog W = .ok (.agg fi.cs) W) W) := hid (fun W hW => ⟨load_atF (fun j u hu => by rw [Nat.zero_add, (HC5.out.below hW).cell]; exact hu), load_atF (fun j u hu => HAI.out W (below_on HB5.out hW) j u hu)⟩)
                have HDW := hid (below_drew w5)
                refine wp_region_held_drew (S := (fun W => (Instr.loadAt 23 (ptr g4)).run Try.prog W = .ok (.agg fv.cs) W ∧ (Instr.loadAt 23 (.pointer (some ⟨ga, i * 5, none⟩))).run Try.prog W = .ok (.agg fi.cs) W)) (by kernel_rfl) (HSF.out _ HDW.out) (fun hHeld => ?_)
                generalize w5.drew = w6 at *
                refine wpAnyH_take (i := 0) (oi := ⟨some 60, .load 23 (.tmp 15), _, _, _, none⟩) (v := .agg fv.cs) rfl (by kernel_rfl) (by kernel_rfl) (by kernel_rfl) (fun _ _ _ h => h) (Or.inl ⟨by kernel_rfl, fun W hW => exec_load rfl rfl hW.1⟩) hHeld ?_
                refine wpAnyH_take (i := 1) (oi := ⟨some 61, .move (.tmp 10), _, _, _, none⟩) (v := .slice (some ⟨ga, 0, none⟩) l.length ca) rfl (by kernel_rfl) (by kernel_rfl) (by kernel_rfl) (fun _ _ _ h => h) (Or.inl ⟨by kernel_rfl, by intro W hW; go_simp⟩) hHeld ?_
                refine wpAnyH_take (i := 2) (oi := ⟨some 62, .move (.tmp 13), _, _, _, none⟩) (v := .int .i64 (i : Int)) rfl (by kernel_rfl) (by kernel_rfl) (by kernel_rfl) (fun _ _ _ h => h) (Or.inl ⟨by kernel_rfl, by intro W hW; go_simp⟩) hHeld ?_
                refine wpAnyH_take (i := 3) (oi := ⟨some 63, .indexAddr 40 (.tmp 61) (.tmp 62), _, _, _, none⟩) (v := .pointer (some ⟨ga, i * 5, none⟩)) rfl (by kernel_rfl) (by kernel_rfl) (by kernel_rfl) (fun _ _ _ h => h) (Or.inl ⟨by kernel_rfl, by intro W hW; go_simp⟩) hHeld ?_
                refine wpAnyH_take (i := 4) (oi := ⟨some 64, .load 23 (.tmp 63), _, _, _, none⟩) (v := .agg fi.cs) rfl (by kernel_rfl) (by kernel_rfl) (by kernel_rfl) (fun _ _ _ h => h) (Or.inl ⟨by kernel_rfl, fun W hW => exec_load rfl rfl hW.2⟩) hHeld ?_
                refine wpAnyH_take (i := 5) (oi := ⟨some 65, .binOp .eql 23 (.tmp 60) (.tmp 64) 23, _, _, _, none⟩) (v := .bool false) rfl (by kernel_rfl) (by kernel_rfl) (by kernel_rfl) (fun _ _ _ h => h) (Or.inl ⟨by kernel_rfl, fun W hW => exec_binF rfl (by kernel_rfl) (by kernel_rfl) (by simp [eqGuard]) (HEQ.out W)⟩) hHeld ?_
                refine wpAnyH_done (by kernel_rfl) ?_ _
                simp only [Act.put, List.setIfInBounds_toArray, List.set_cons_zero, List.set_cons_succ]
                clear hHeld
                generalize hi1 : i + 1 = i1 at *
                have HI1 := hid hi1
                clear hi1
                obtain ⟨p2, c2, w7, hrun, hJI⟩ := HJ.out w6 (below_on HB5.out HDW.out)
                have HRUN := hid hrun
                have HJI := hid hJI
                clear hrun hJI
                go_wp2_with (at_builtin; refine wpList_append_run _ _ 43 43 rfl rfl _ _ _ rfl rfl HRUN.out ?_)
                go_roundg (l.length - i1)
                case measure => have := HI1.out; omega
                case rel => exact ⟨i1, by have := HI1.out; omega, Nat.le_refl _, by rw [← HI1.out]; go_num, HJI.out⟩
            · have hr0 : rdFe x.bs ≠ 0 := hr0
              by_cases hf : rdFv x.bs = fi
              · have HJ := hJ 1 (by unfold jdg; rw [if_neg h6, if_pos h0, if_pos hr0])
                have HJR : Hid (Calls Try.prog 12 #[.slice px x.bs.length cx] wr fun e w' => e = .returned (.tuple #[.agg (rdFv x.bs).cs, .int .i64 (rdFe x.bs : Int)]) ∧ Below wr.heap.size wr w') := hid ((HRD.out wr (Below.refl _ _)).mono fun e w' h => ⟨by rw [h.1], h.2⟩)
                have her : ((rdFe x.bs : Int) == 0) = false := beq_eq_false_iff_ne.2 (by omega)
                generalize rdFe x.bs = er at *
                have hdf : decide (rdFv x.bs = fi) = true := decide_eq_true hf
                have HEQ := hid (fun W => eqlF (rdFv x.bs) fi W)
                rw [hdf] at HEQ
                clear hJ HRD hf hdf
                generalize rdFv x.bs = fv at *
                go_upto_region 14 with (first
                  | (go_at_call 12; refine HJR.out.mono ?_; rintro e w3 ⟨rfl, hb3⟩; have HB3 := hid hb3; clear hb3)
                  | ((with_reducible refine wpList_allocF rfl rfl ?_); intro w4 g4 hz4 hb4 hg4; have HZ4 := hid hz4; have HB4 := hid (below_on HB3.out hb4); have HG4 := hid (show wr.heap.size ≤ g4 by have := HB3.out.size; omega); clear hz4 hb4 hg4)
                  | ((with_reducible refine wpList_storeF rfl rfl _ _ rfl g4 ?_ (f := fv) ?_ HZ4.out ?_); exact rfl; exact rfl; intro w5 h5 o5; have HB5 := hid (below_tr HB4.out (o5.below HB4.out.size (fun i e => by have := HG4.out; omega))); have HC5 := hid h5; clear h5 o5))
                have HSF : Hid (∀ W, Below w5.heap.size w5 W → (fun W => (Instr.loadAt 23 (ptr g4)).run Try.prog W = .ok (.agg fv.cs) W ∧ (Instr.loadAt 23 (.pointer (some ⟨ga, i * 5, none⟩))).run Try.prog W = .ok (.agg fi.cs) W) W) := hid (fun W hW => ⟨load_atF (fun j u hu => by rw [Nat.zero_add, (HC5.out.below hW).cell]; exact hu), load_atF (fun j u hu => HAI.out W (below_on HB5.out hW) j u hu)⟩)
                have HDW := hid (below_drew w5)
                refine wp_region_held_drew (S := (fun W => (Instr.loadAt 23 (ptr g4)).run Try.prog W = .ok (.agg fv.cs) W ∧ (Instr.loadAt 23 (.pointer (some ⟨ga, i * 5, none⟩))).run Try.prog W = .ok (.agg fi.cs) W)) (by kernel_rfl) (HSF.out _ HDW.out) (fun hHeld => ?_)
                generalize w5.drew = w6 at *
                refine wpAnyH_take (i := 0) (oi := ⟨some 60, .load 23 (.tmp 15), _, _, _, none⟩) (v := .agg fv.cs) rfl (by kernel_rfl) (by kernel_rfl) (by kernel_rfl) (fun _ _ _ h => h) (Or.inl ⟨by kernel_rfl, fun W hW => exec_load rfl rfl hW.1⟩) hHeld ?_
                refine wpAnyH_take (i := 1) (oi := ⟨some 61, .move (.tmp 10), _, _, _, none⟩) (v := .slice (some ⟨ga, 0, none⟩) l.length ca) rfl (by kernel_rfl) (by kernel_rfl) (by kernel_rfl) (fun _ _ _ h => h) (Or.inl ⟨by kernel_rfl, by intro W hW; go_simp⟩) hHeld ?_
                refine wpAnyH_take (i := 2) (oi := ⟨some 62, .move (.tmp 13), _, _, _, none⟩) (v := .int .i64 (i : Int)) rfl (by kernel_rfl) (by kernel_rfl) (by kernel_rfl) (fun _ _ _ h => h) (Or.inl ⟨by kernel_rfl, by intro W hW; go_simp⟩) hHeld ?_
                refine wpAnyH_take (i := 3) (oi := ⟨some 63, .indexAddr 40 (.tmp 61) (.tmp 62), _, _, _, none⟩) (v := .pointer (some ⟨ga, i * 5, none⟩)) rfl (by kernel_rfl) (by kernel_rfl) (by kernel_rfl) (fun _ _ _ h => h) (Or.inl ⟨by kernel_rfl, by intro W hW; go_simp⟩) hHeld ?_
                refine wpAnyH_take (i := 4) (oi := ⟨some 64, .load 23 (.tmp 63), _, _, _, none⟩) (v := .agg fi.cs) rfl (by kernel_rfl) (by kernel_rfl) (by kernel_rfl) (fun _ _ _ h => h) (Or.inl ⟨by kernel_rfl, fun W hW => exec_load rfl rfl hW.2⟩) hHeld ?_
                refine wpAnyH_take (i := 5) (oi := ⟨some 65, .binOp .eql 23 (.tmp 60) (.tmp 64) 23, _, _, _, none⟩) (v := .bool true) rfl (by kernel_rfl) (by kernel_rfl) (by kernel_rfl) (fun _ _ _ h => h) (Or.inl ⟨by kernel_rfl, fun W hW => exec_binF rfl (by kernel_rfl) (by kernel_rfl) (by simp [eqGuard]) (HEQ.out W)⟩) hHeld ?_
                refine wpAnyH_done (by kernel_rfl) ?_ _
                simp only [Act.put, List.setIfInBounds_toArray, List.set_cons_zero, List.set_cons_succ]
                clear hHeld
                generalize hi1 : i + 1 = i1 at *
                have HI1 := hid hi1
                clear hi1
                obtain ⟨p2, c2, w7, hrun, hJI⟩ := HJ.out w6 (below_on HB5.out HDW.out)
                have HRUN := hid hrun
                have HJI := hid hJI
                clear hrun hJI
                go_wp2_with (at_builtin; refine wpList_append_run _ _ 43 43 rfl rfl _ _ _ rfl rfl HRUN.out ?_)
                go_roundg (l.length - i1)
                case measure => have := HI1.out; omega
                case rel => exact ⟨i1, by have := HI1.out; omega, Nat.le_refl _, by rw [← HI1.out]; go_num, HJI.out⟩
              · have HJ := hJ 1 (by unfold jdg; rw [if_neg h6, if_pos h0, if_pos hr0])
                have HJR : Hid (Calls Try.prog 12 #[.slice px x.bs.length cx] wr fun e w' => e = .returned (.tuple #[.agg (rdFv x.bs).cs, .int .i64 (rdFe x.bs : Int)]) ∧ Below wr.heap.size wr w') := hid ((HRD.out wr (Below.refl _ _)).mono fun e w' h => ⟨by rw [h.1], h.2⟩)
                have her : ((rdFe x.bs : Int) == 0) = false := beq_eq_false_iff_ne.2 (by omega)
                generalize rdFe x.bs = er at *
                have hdf : decide (rdFv x.bs = fi) = false := decide_eq_false hf
                have HEQ := hid (fun W => eqlF (rdFv x.bs) fi W)
                rw [hdf] at HEQ
                clear hJ HRD hf hdf
                generalize rdFv x.bs = fv at *
                go_upto_region 14 with (first
                  | (go_at_call 12; refine HJR.out.mono ?_; rintro e w3 ⟨rfl, hb3⟩; have HB3 := hid hb3; clear hb3)
                  | ((with_reducible refine wpList_allocF rfl rfl ?_); intro w4 g4 hz4 hb4 hg4; have HZ4 := hid hz4; have HB4 := hid (below_on HB3.out hb4); have HG4 := hid (show wr.heap.size ≤ g4 by have := HB3.out.size; omega); clear hz4 hb4 hg4)
                  | ((with_reducible refine wpList_storeF rfl rfl _ _ rfl g4 ?_ (f := fv) ?_ HZ4.out ?_); exact rfl; exact rfl; intro w5 h5 o5; have HB5 := hid (below_tr HB4.out (o5.below HB4.out.size (fun i e => by have := HG4.out; omega))); have HC5 := hid h5; clear h5 o5))
                have HSF : Hid (∀ W, Below w5.heap.size w5 W → (fun W => (Instr.loadAt 23 (ptr g4)).run Try.prog W = .ok (.agg fv.cs) W ∧ (Instr.loadAt 23 (.pointer (some ⟨ga, i * 5, none⟩))).run Try.prog W = .ok (.agg fi.cs) W) W) := hid (fun W hW => ⟨load_atF (fun j u hu => by rw [Nat.zero_add, (HC5.out.below hW).cell]; exact hu), load_atF (fun j u hu => HAI.out W (below_on HB5.out hW) j u hu)⟩)
                have HDW := hid (below_drew w5)
                refine wp_region_held_drew (S := (fun W => (Instr.loadAt 23 (ptr g4)).run Try.prog W = .ok (.agg fv.cs) W ∧ (Instr.loadAt 23 (.pointer (some ⟨ga, i * 5, none⟩))).run Try.prog W = .ok (.agg fi.cs) W)) (by kernel_rfl) (HSF.out _ HDW.out) (fun hHeld => ?_)
                generalize w5.drew = w6 at *
                refine wpAnyH_take (i := 0) (oi := ⟨some 60, .load 23 (.tmp 15), _, _, _, none⟩) (v := .agg fv.cs) rfl (by kernel_rfl) (by kernel_rfl) (by kernel_rfl) (fun _ _ _ h => h) (Or.inl ⟨by kernel_rfl, fun W hW => exec_load rfl rfl hW.1⟩) hHeld ?_
                refine wpAnyH_take (i := 1) (oi := ⟨some 61, .move (.tmp 10), _, _, _, none⟩) (v := .slice (some ⟨ga, 0, none⟩) l.length ca) rfl (by kernel_rfl) (by kernel_rfl) (by kernel_rfl) (fun _ _ _ h => h) (Or.inl ⟨by kernel_rfl, by intro W hW; go_simp⟩) hHeld ?_
                refine wpAnyH_take (i := 2) (oi := ⟨some 62, .move (.tmp 13), _, _, _, none⟩) (v := .int .i64 (i : Int)) rfl (by kernel_rfl) (by kernel_rfl) (by kernel_rfl) (fun _ _ _ h => h) (Or.inl ⟨by kernel_rfl, by intro W hW; go_simp⟩) hHeld ?_
                refine wpAnyH_take (i := 3) (oi := ⟨some 63, .indexAddr 40 (.tmp 61) (.tmp 62), _, _, _, none⟩) (v := .pointer (some ⟨ga, i * 5, none⟩)) rfl (by kernel_rfl) (by kernel_rfl) (by kernel_rfl) (fun _ _ _ h => h) (Or.inl ⟨by kernel_rfl, by intro W hW; go_simp⟩) hHeld ?_
                refine wpAnyH_take (i := 4) (oi := ⟨some 64, .load 23 (.tmp 63), _, _, _, none⟩) (v := .agg fi.cs) rfl (by kernel_rfl) (by kernel_rfl) (by kernel_rfl) (fun _ _ _ h => h) (Or.inl ⟨by kernel_rfl, fun W hW => exec_load rfl rfl hW.2⟩) hHeld ?_
                refine wpAnyH_take (i := 5) (oi := ⟨some 65, .binOp .eql 23 (.tmp 60) (.tmp 64) 23, _, _, _, none⟩) (v := .bool false) rfl (by kernel_rfl) (by kernel_rfl) (by kernel_rfl) (fun _ _ _ h => h) (Or.inl ⟨by kernel_rfl, fun W hW => exec_binF rfl (by kernel_rfl) (by kernel_rfl) (by simp [eqGuard]) (HEQ.out W)⟩) hHeld ?_
                refine wpAnyH_done (by kernel_rfl) ?_ _
                simp only [Act.put, List.setIfInBounds_toArray, List.set_cons_zero, List.set_cons_succ]
                clear hHeld
                generalize hi1 : i + 1 = i1 at *
                have HI1 := hid hi1
                clear hi1
                obtain ⟨p2, c2, w7, hrun, hJI⟩ := HJ.out w6 (below_on HB5.out HDW.out)
                have HRUN := hid hrun
                have HJI := hid hJI
                clear hrun hJI
                go_wp2_with (at_builtin; refine wpList_append_run _ _ 43 43 rfl rfl _ _ _ rfl rfl HRUN.out ?_)
                go_roundg (l.length - i1)
                case measure => have := HI1.out; omega
                case rel => exact ⟨i1, by have := HI1.out; omega, Nat.le_refl _, by rw [← HI1.out]; go_num, HJI.out⟩
          · have e0 : (x.err == 0) = false := beq_eq_false_iff_ne.2 h0
            have HJ := hJ 4 (by unfold jdg; rw [if_neg h6, if_neg h0])
            clear hJ HRD
            generalize hi1 : i + 1 = i1 at *
            have HI1 := hid hi1
            clear hi1
            obtain ⟨p2, c2, w6, hrun, hJI⟩ := HJ.out wr (Below.refl _ _)
            have HRUN := hid hrun
            have HJI := hid hJI
            clear hrun hJI
            go_wp2_with (at_builtin; refine wpList_append_run _ _ 43 43 rfl rfl _ _ _ rfl rfl HRUN.out ?_)
            go_roundg (l.length - i1)
            case measure => have := HI1.out; omega
            case rel => exact ⟨i1, by have := HI1.out; omega, Nat.le_refl _, by rw [← HI1.out]; go_num, HJI.out⟩
      · have hlt' : ¬ (i : Int) < (l.length : Int) := by omega
        have e : i = l.length := by omega
        subst e
        obtain ⟨p2, c2, hv, hpp⟩ := HE.out _ _ _ HB.out hI
        subst hv
        have HP := hid hpp
        clear hI hpp HE
        go_wp2
        exact HP.out
end Go.Proofs.Ytfniojnklhjgbaa

/- The chapter's examples: mathematics; of; lists of three copies; awake. -/
namespace Go.Proofs.Ytfniojnklhjgbaa
open Go Go.RowKit

theorem Try.infoCp : (Try.prog.info? 39).map (fun i => (i.zero, i.size, i.bytes)) = some (some (.agg (cC 0 (.slice none 0 0))), 2, 32) := by kernel_rfl
end Go.Proofs.Ytfniojnklhjgbaa

/- Copies that came in; which are large; how many have just these bytes. -/
namespace Go.Proofs.Ytfniojnklhjgbaa
open Go Go.RowKit

/-- What is told of a copy that came in. -/
structure IsCp (w : World) (x : Cv) : Prop where
  sl : ∃ po c, x.v = .slice po x.bs.length c ∧ BL w po x.bs ∧ x.bs.length ≤ c ∧ (po = none → c = 0)
  byte : ∀ z ∈ x.bs, z < 256
def IsC (w : World) (v : Value) (l : List Cv) : Prop := ∃ po c, v = .slice po l.length c ∧ l.length ≤ c ∧ c ≤ maxLen ∧ (po = none → c = 0) ∧ (l = [] ∨ ∃ b o, po = some ⟨b, o, none⟩ ∧ CCells w b o l) ∧ ∀ x ∈ l, IsCp w x
section
variable {H : Type} {enc : TypeId × Value → H} {w : World} {held : Bool} {fuel : Nat}
set_option maxRecDepth 100000 in
theorem copy_read9 {cs : List Value} {x : DataW H × List MemPlace} (h : DataW.trod enc Try.prog w 0 (fun _ => true) held fuel 39 cs = some x) : ∃ y : Cv, IsCp w y ∧ cs = (cC y.err y.v).toList := by
  obtain ⟨xs, n, _, _, hcl, hxl, hf⟩ := DataW.trod_struct Try.underlying39 h
  have h2 : cs.length = 2 := by rw [hcl]; kernel_rfl
  have hx2 : xs.length = 2 := by rw [hxl]; rfl
  have k3 : Try.prog.cellsOf 26 = 1 := by kernel_rfl
  have kR : Try.prog.cellsOf 24 = 1 := by kernel_rfl
  match cs, h2, xs, hx2 with
  | [c0, c1], _, [y0, y1], _ =>
    have f0 : DataW.trod enc Try.prog w 0 (fun _ => true) held n 26 (([c0, c1].drop 0).take (Try.prog.cellsOf 26)) = some y0 := hf 0 _ rfl
    rw [k3] at f0
    have f1 : DataW.trod enc Try.prog w 0 (fun _ => true) held n 24 (([c0, c1].drop 1).take (Try.prog.cellsOf 24)) = some y1 := hf 1 _ rfl
    rw [kR] at f1
    obtain ⟨z0, e0, _, _⟩ := DataW.trod_int Try.underlying26 f0
    simp at e0
    subst e0
    have f2 : DataW.trod enc Try.prog w 0 (fun _ => true) held n 24 [c1] = some y1 := f1
    obtain ⟨po, l, c, rfl⟩ : ∃ po l c, c1 = .slice po l c := by
      rcases DataW.trod_slice Try.underlying24 f2 with ⟨hcs, _⟩ | ⟨ad, l, c, _, _, _, _, hcs, _⟩
      · simp at hcs; exact ⟨none, 0, 0, hcs⟩
      · simp at hcs; exact ⟨some ad, l, c, hcs⟩
    obtain ⟨bs, rfl, h1, h3, h4, h5⟩ := bytes_open (a := po) (len := l) (cap := c) f2
    exact ⟨⟨z0, .slice po bs.length c, bs⟩, ⟨⟨po, c, rfl, h3, h1, h5⟩, h4⟩, rfl⟩
set_option maxRecDepth 100000 in
theorem copies_read9 {cs : List Value} {x : DataW H × List MemPlace} (h : DataW.trod enc Try.prog w 0 (fun _ => true) held fuel 37 cs = some x) : ∃ v l, cs = [v] ∧ IsC w v l := by
  have k2 : Try.prog.cellsOf 39 = 2 := by kernel_rfl
  rcases DataW.trod_slice Try.underlying37 h with ⟨hcs, _⟩ | ⟨ad, l, c, elems, rest, n, _, hcs, _, _, hl, hc, hlen, hel, _, _⟩
  · exact ⟨_, [], hcs, none, 0, rfl, Nat.le_refl _, Nat.zero_le _, fun _ => rfl, Or.inl rfl, fun x hx => by cases hx⟩
  · rw [k2] at hel
    have each : ∀ i, i < l → ∃ y : Cv, IsCp w y ∧ w.cell? ((ad.add (i * 2)).add 0) = some (i64 y.err) ∧ w.cell? ((ad.add (i * 2)).add 1) = some y.v := fun i hi => by
      have h1 := hel i hi
      rw [List.getElem?_eq_getElem (by omega)] at h1
      obtain ⟨ds, hc1, hc2⟩ := Option.bind_eq_some_iff.1 h1
      obtain ⟨y, hy, rfl⟩ := copy_read9 hc2
      obtain ⟨_, _, hcell⟩ := World.cells?_some hc1
      exact ⟨y, hy, by rw [hcell 0 (by omega)]; rfl, by rw [hcell 1 (by omega)]; rfl⟩
    by_cases h0 : l = 0
    · subst h0
      exact ⟨_, [], hcs, some ad, c, rfl, hl, hc, (fun h => by cases h), Or.inl rfl, fun x hx => by cases hx⟩
    obtain ⟨y0, hy0, h00, _⟩ := each 0 (by omega)
    obtain ⟨b, o, rfl⟩ : ∃ b o, ad = ⟨b, o, none⟩ := by
      rw [Nat.zero_mul, add_zero', add_zero'] at h00
      exact plain_at ad w (by rw [h00]; simp)
    have each2 : ∀ i, i < l → ∃ y : Cv, IsCp w y ∧ w.cell? ⟨b, o + i * 2, none⟩ = some (i64 y.err) ∧ w.cell? ⟨b, o + i * 2 + 1, none⟩ = some y.v := fun i hi => by
      obtain ⟨y, h1, h2, h3⟩ := each i hi
      rw [add_none, add_none, Nat.add_zero] at h2
      rw [add_none, add_none] at h3
      exact ⟨y, h1, h2, h3⟩
    refine ⟨_, (List.range l).map fun i => if h : i < l then (each2 i h).choose else y0, hcs, some ⟨b, o, none⟩, c, by simp, by simpa using hl, hc, (fun h => by cases h), Or.inr ⟨b, o, rfl, fun i x hx => ?_⟩, fun x hx => ?_⟩
    · have hi : i < l := by
        rcases Nat.lt_or_ge i l with q | q
        · exact q
        · rw [List.getElem?_eq_none (by simpa using q)] at hx; cases hx
      simp [hi] at hx
      subst hx
      exact (each2 i hi).choose_spec.2
    · obtain ⟨i, hi, rfl⟩ := List.mem_map.1 hx
      have hi' : i < l := by simpa using hi
      simp only [hi', dite_true]
      exact (each2 i hi').choose_spec.1
end
end Go.Proofs.Ytfniojnklhjgbaa

/- copies: copies in memory of their own. -/
namespace Go.Proofs.Ytfniojnklhjgbaa
open Go Go.RowKit

theorem crow_len (L : List Cv) : ∀ r ∈ L.map Cv.row, r.length = 2 := fun r hr => by obtain ⟨x, _, rfl⟩ := List.mem_map.1 hr; rfl
theorem exec_bsC {a : Act} {o : Oper} {x : Operand} {e : Int} {v : Value} {W : World} (ho : o.op = .buildSlice 37 1 #[(0, x)]) (hx : a.eval x = .agg (cC e v)) : (execOp a.eval o).run Try.prog W = .ok (.value (.slice (some ⟨W.heap.size, 0, none⟩) 1 1)) (W.alloc (.cells (cC e v) 39)) := by
  have h := run_buildX (T := 37) Try.underlying37 Try.infoCp (by decide) (by decide) W (cC e v) rfl
  unfold execOp
  simp only [ho, List.map_toArray, List.map_cons, List.map_nil, hx, Sem.run_bind, h, Result.andThen_ok, Sem.run_pure]
end Go.Proofs.Ytfniojnklhjgbaa

/- Contracts of SameInts and CopyBytes of the statements' kit; small laws for the walks of the statements. -/
namespace Go.Proofs.Ytfniojnklhjgbaa.H
open Go Go.RowKit

/-- Numbers in memory. -/
def IntAt (w : World) (p : Option Addr) (n : Nat) (x : Nat → Nat) : Prop := n = 0 ∨ ∃ b o, p = some ⟨b, o, none⟩ ∧ ∀ i, i < n → w.cell? ⟨b, o + i, none⟩ = some (.int .i64 (x i : Nat))
theorem IntAt.below {w w' : World} {p : Option Addr} {n : Nat} {x : Nat → Nat} (h : IntAt w p n x) (hb : Below w.heap.size w w') : IntAt w' p n x := by
  rcases h with h | ⟨b, o, rfl, hr⟩
  · exact .inl h
  · refine .inr ⟨b, o, rfl, fun i hi => ?_⟩
    have h1 := hr i hi
    exact (hb.cell (p := ⟨b, o + i, none⟩) (cell_lt h1)).trans h1
set_option maxHeartbeats 400000 in
theorem sameInts_true (p q : Option Addr) (n c d : Nat) (x : Nat → Nat) (w : World) (hn : n ≤ 100000) (hp : IntAt w p n x) (hq : IntAt w q n x) :
    Calls Try.prog 23 #[.slice p n c, .slice q n d] w fun e w' => e = .returned (.bool true) ∧ ∃ k, w' = w.drewN k := by
  have HP := hid hp
  have HQ := hid hq
  clear hp hq
  go_enter Try.func23, Try.ntmps23
  go_wp2
  go_loopw [5] (fun v wr => ∃ i : Nat, i ≤ n ∧ v = .int .i64 (i : Int) ∧ ∃ k, wr = w.drewN k) (fun v _ => (n - intOf v).toNat)
  case atStart => exact ⟨0, by omega, rfl, 0, rfl⟩
  case round =>
    obtain ⟨i, hi, rfl, hw⟩ := hrel
    have HW := hid hw
    have hcell : ∀ a : Addr, wr.cell? a = w.cell? a := by obtain ⟨k, rfl⟩ := hw; intro a; rfl
    have HCE := hid hcell
    clear hw hcell
    by_cases hlt : i < n
    · rcases HP.out with h | ⟨b, o, rfl, hb⟩
      · omega
      rcases HQ.out with h | ⟨b2, o2, rfl, hb2⟩
      · omega
      have c1 := (HCE.out _).trans (hb i hlt)
      have c2 := (HCE.out _).trans (hb2 i hlt)
      have hlt' : (i : Int) < (n : Int) := by omega
      clear hb hb2
      go_wp2
      go_quiet (fail)
      go_wp2
      go_roundw
      case rel =>
        refine ⟨i + 1, by omega, by go_num, ?_⟩
        obtain ⟨k, rfl⟩ := HW.out
        first | exact ⟨_, rfl⟩ | exact ⟨k + nq, by simp [World.drewN, Nat.add_assoc]⟩
      case measure => simp [intOf]; omega
    · have hlt' : ¬ (i : Int) < (n : Int) := by omega
      go_wp2
      go_ret
      exact ⟨rfl, HW.out⟩
end Go.Proofs.Ytfniojnklhjgbaa.H

/- Copies whose bytes were lent; what All and Judge tell, in one form for answer and error. -/
namespace Go.Proofs.Ytfniojnklhjgbaa
open Go Go.RowKit

/-- A copy whose bytes were lent, behind B. -/
def LkX (w : World) (B : Nat) (x : Cv) : Prop := ∃ g, x.v = .slice (some ⟨g, 0, none⟩) x.bs.length (x.bs.length + 3) ∧ Lent w g x.bs ∧ B ≤ g
theorem LkX.below {w w' : World} {B : Nat} {x : Cv} (h : LkX w B x) (hb : Below w.heap.size w w') : LkX w' B x := by
  obtain ⟨g, h1, h2, h3⟩ := h
  exact ⟨g, h1, h2.below hb, h3⟩
structure LkI (B : Nat) (w : World) (v : Value) (L : List Cv) : Prop where
  buf : XB 39 2 B w v (L.map Cv.row)
  each : ∀ x ∈ L, LkX w B x ∧ (∀ z ∈ x.bs, z < 256) ∧ x.bs.length ≤ 1000
theorem LkI.nil (B : Nat) (w : World) : LkI B w nilS [] := ⟨XB.nil _ _ B w, fun x hx => by cases hx⟩
theorem LkI.on {B : Nat} {w w' : World} {v : Value} {L : List Cv} (h : LkI B w v L) (hb : Below w.heap.size w w') : LkI B w' v L := ⟨h.buf.below hb, fun x hx => ⟨(h.each x hx).1.below hb, (h.each x hx).2⟩⟩
theorem LkI.push {B : Nat} {w : World} {v : Value} {L : List Cv} (h : LkI B w v L) (x : Cv) {g : Nat} (hxv : x.v = .slice (some ⟨g, 0, none⟩) x.bs.length (x.bs.length + 3)) (hx : Lent w g x.bs) (hBg : B ≤ g) (hvg : ∀ b, v.ownBlock = some b → b ≠ g) (h8 : ∀ z ∈ x.bs, z < 256) (hs : x.bs.length ≤ 1000) (hn : L.length ≤ 1000) (hB : B ≤ w.heap.size) (ty : TypeId) :
    ∃ v' w', (Builtin.append_ #[37, 37] ty #[v, .slice (some ⟨w.heap.size, 0, none⟩) 1 1]).run Try.prog (w.alloc (.cells (cC x.err x.v) 39)) = .ok v' w' ∧ LkI B w' v' (L ++ [x]) ∧ Below B w w' := by
  have hal := below_al w (.cells (cC x.err x.v) 39)
  have hc : CAt (w.alloc (.cells (cC x.err x.v) 39)) w.heap.size (cC x.err x.v) 39 := CAt.made w _ _
  have h1 := h.on hal
  have hB1 : B ≤ (w.alloc (.cells (cC x.err x.v) 39)).heap.size := by rw [size_al]; omega
  obtain ⟨v', w', hr, h2, h3, _⟩ := h1.buf.app (ty := ty) (T := 37) Try.underlying37 Try.infoCp rfl (by decide) w.heap.size 0 1 [x.row] (fun r hr => by rcases List.mem_singleton.1 hr with rfl; rfl) (fun r hr => by
    rcases List.mem_singleton.1 hr with rfl
    intro u hu
    simp only [Cv.row, List.mem_cons, List.not_mem_nil, or_false] at hu
    rcases hu with rfl | rfl
    · rfl
    · rw [hxv]; rfl) (fun i r hr j u hu => by
    rcases i with _ | i
    · simp at hr
      subst hr
      rw [Nat.zero_mul, Nat.zero_add, hc.cell]
      simpa [cC, Cv.row] using hu
    · simp at hr) (by rw [List.length_map]; simp; omega) (by decide) hB1
  have hO : Only (fun b => v.ownBlock = some b) (w.alloc (.cells (cC x.err x.v) 39)) w' := Only.of_grown h3 fun b e _ => e
  refine ⟨v', w', hr, ⟨by rw [List.map_append]; exact h2, fun y hy => ?_⟩, below_tr (below_less hal hB) (XB.mono hB1 h3 h1.buf)⟩
  rcases List.mem_append.1 hy with hy | hy
  · obtain ⟨⟨q, e1, e2, e3⟩, e4⟩ := h1.each y hy
    refine ⟨⟨q, e1, e2.only hO (fun k => ?_), e3⟩, e4⟩
    have h0 : 0 < L.length := List.length_pos_iff.2 (fun e0 => by rw [e0] at hy; simp at hy)
    obtain ⟨q2, c2, f1, _, _, _, f3⟩ := h1.buf.cells (crow_len L) (by rw [List.length_map]; exact h0)
    rw [f1] at k
    have eq : q2 = q := by simpa [Value.ownBlock] using k
    subst eq
    obtain ⟨x0, hx0⟩ : ∃ x0, L[0]? = some x0 := ⟨_, List.getElem?_eq_getElem h0⟩
    have f4 := f3 0 x0.row (by rw [List.getElem?_map, hx0]; rfl) 0 (i64 x0.err) rfl
    have f5 := e2.row 0 (by omega)
    rw [Nat.zero_mul, Nat.zero_add] at f4
    rw [Nat.zero_add, f4] at f5
    cases f5
  · rcases List.mem_singleton.1 hy with rfl
    exact ⟨⟨g, hxv, (hx.below hal).only hO (fun k => hvg _ k rfl), hBg⟩, h8, hs⟩
theorem LkX.cv {w : World} {B : Nat} {x : Cv} (h : LkX w B x) (h8 : ∀ z ∈ x.bs, z < 256) (hs : x.bs.length ≤ 1000) : CvOk w x := by
  obtain ⟨g, h1, h2, _⟩ := h
  exact ⟨⟨some ⟨g, 0, none⟩, _, h1, h2.bl, by omega, fun e => by cases e⟩, by omega, h8⟩
theorem LkI.cl {B : Nat} {w : World} {v : Value} {L : List Cv} (h : LkI B w v L) (hn : L.length ≤ 1000) : CL w v L := by
  obtain ⟨po, c, e, h1, h2⟩ := h.buf.form
  rw [List.length_map] at e h1
  refine ⟨po, c, e, h1, hn, h2, ?_, fun x hx => (h.each x hx).1.cv (h.each x hx).2.1 (h.each x hx).2.2⟩
  by_cases h0 : 0 < L.length
  · obtain ⟨g, c2, e2, _, _, _, h3⟩ := h.buf.cells (crow_len L) (by rw [List.length_map]; exact h0)
    rw [List.length_map] at e2
    rw [e] at e2
    cases e2
    refine Or.inr ⟨g, 0, rfl, fun i x hx => ?_⟩
    have h4 := h3 i x.row (by rw [List.getElem?_map, hx]; rfl)
    exact ⟨by have := h4 0 (i64 x.err) rfl; simpa using this, h4 1 x.v rfl⟩
  · exact Or.inl (List.eq_nil_of_length_eq_zero (by omega))
theorem IsC.cl14 {w : World} {v : Value} {l : List Cv} (h : IsC w v l) (hl : l.length ≤ 70) (hs : ∀ x ∈ l, x.bs.length ≤ 1000) : CL w v l := by
  obtain ⟨po, c, h1, h2, _, h4, h5, h6⟩ := h
  exact ⟨po, c, h1, h2, by omega, h4, h5, fun x hx => ⟨(h6 x hx).sl, by have := hs x hx; omega, (h6 x hx).byte⟩⟩
/-- Judge's answer speaks of errors and bytes alone. -/
theorem cps_at {L l : List Cv} (h : cps L = cps l) (i : Nat) (z : Cv) : (L.getD i z).err = (l.getD i z).err ∧ (L.getD i z).bs = (l.getD i z).bs := by
  have h1 : (cps L)[i]? = (cps l)[i]? := by rw [h]
  rw [cps_get, cps_get] at h1
  cases ha : L[i]? with
  | none =>
    cases hb : l[i]? with
    | none => simp [List.getD, ha, hb]
    | some y => rw [ha, hb] at h1; cases h1
  | some x =>
    cases hb : l[i]? with
    | none => rw [ha, hb] at h1; cases h1
    | some y =>
      rw [ha, hb] at h1
      simp only [Option.map_some, Option.some.injEq, Cv.cp, Cp.mk.injEq] at h1
      simp [List.getD, ha, hb, h1.1, h1.2]
theorem jd_cps {L l : List Cv} (h : cps L = cps l) (k m s : Int) : jdE L k m s = jdE l k m s ∧ jdL L k m s = jdL l k m s := by
  have hn : L.length = l.length := by rw [← cps_len, h, cps_len]
  have he : jdE L k m s = jdE l k m s := by unfold jdE; rw [hn]
  refine ⟨he, ?_⟩
  unfold jdL
  rw [he, hn]
  split
  · refine List.map_congr_left fun i _ => ?_
    have := cps_at h i ⟨0, .slice none 0 0, []⟩
    unfold jdg
    rw [this.1, this.2]
  · rfl
def alE (k m s : Int) : Nat := if okAl k m s = true then 0 else 2
def alQ (k m s : Int) : List FmV := if okAl k m s = true then alL k m s else []
theorem alQ_len (k m s : Int) : (alQ k m s).length ≤ 64 := by
  unfold alQ
  split
  · rename_i h; rw [alL_len]; exact (alN_le h).2
  · exact Nat.zero_le _
/-- What All tells, as one. -/
def AlS (w : World) (k m s : Int) (e : Ending) (w' : World) : Prop := ∃ po c, e = .returned (.tuple #[.slice po (alQ k m s).length c, .int .i64 (alE k m s : Int)]) ∧ (alQ k m s).length ≤ c ∧ FmL w.heap.size w' (.slice po (alQ k m s).length c) (alQ k m s) ∧ Below w.heap.size w w'
theorem AlR.as {w : World} {k m s : Int} {e : Ending} {w' : World} (h : AlR w k m s e w') : AlS w k m s e w' := by
  rcases h with ⟨hok, po, c, rfl, h2, h3⟩ | ⟨hok, rfl, h3⟩
  · obtain ⟨p2, c2, e2, hc, _⟩ := h2.form
    rw [alL_len] at e2 hc
    cases e2
    refine ⟨po, c, ?_, ?_, ?_, h3⟩
    · unfold alQ alE; rw [if_pos hok, if_pos hok, alL_len]; rfl
    · unfold alQ; rw [if_pos hok, alL_len]; exact hc
    · unfold alQ; rw [if_pos hok, alL_len]; exact h2
  · refine ⟨none, 0, ?_, ?_, ?_, h3⟩
    · unfold alQ alE; rw [if_neg (by rw [hok]; decide), if_neg (by rw [hok]; decide)]; rfl
    · unfold alQ; rw [if_neg (by rw [hok]; decide)]; exact Nat.le_refl _
    · unfold alQ; rw [if_neg (by rw [hok]; decide)]; exact FmL.nil _ _
/-- What Judge tells, as one. -/
def JdS (w : World) (l : List Cv) (k m s : Int) (e : Ending) (w' : World) : Prop := ∃ po c, e = .returned (.tuple #[.slice po (jdL l k m s).length c, .int .i64 (jdE l k m s : Int)]) ∧ IBuf w.heap.size w' (.slice po (jdL l k m s).length c) (jdL l k m s) ∧ Below w.heap.size w w'
theorem jdL_len (l : List Cv) (k m s : Int) : (jdL l k m s).length = if jdE l k m s = 0 then l.length else 0 := by
  unfold jdL; split <;> simp
theorem JdR.as {w : World} {l : List Cv} {k m s : Int} {e : Ending} {w' : World} (h : JdR w l k m s e w') : JdS w l k m s e w' := by
  rcases h with ⟨hj, po, c, rfl, h2, h3⟩ | ⟨hj, rfl, h3⟩
  · refine ⟨po, c, ?_, ?_, h3⟩
    · rw [jdL_len, if_pos hj, hj]; rfl
    · rw [jdL_len, if_pos hj]; exact h2
  · have h2 : jdE l k m s = 2 := by unfold jdE at hj ⊢; split <;> simp_all
    have h4 : jdL l k m s = [] := by unfold jdL; rw [if_neg hj]
    refine ⟨none, 0, ?_, ?_, h3⟩
    · rw [h4, h2]; rfl
    · rw [h4]; exact IBuf.nil _ _
theorem IBuf.int {B : Nat} {w : World} {po : Option Addr} {n c : Nat} {L : List Nat} (h : IBuf B w (.slice po n c) L) (hn : n = L.length) : H.IntAt w po n (fun i => L.getD i 0) := by
  subst hn
  by_cases h0 : L = []
  · subst h0; exact .inl rfl
  · obtain ⟨g, c2, e, _, _, _, h3⟩ := h.open_ h0
    cases e
    exact .inr ⟨g, 0, rfl, fun i hi => by rw [Nat.zero_add]; exact h3 i hi⟩
end Go.Proofs.Ytfniojnklhjgbaa

/- FormatJudges. (Written by tools/gen_Gl15.py.) -/
namespace Go.Proofs.Ytfniojnklhjgbaa
open Go Go.RowKit

/-- What FormatJudges carries. -/
structure FJ (w : World) (v : Value) (L : List Cv) (W : World) : Prop where
  be : Below w.heap.size w W
  lk : LkI w.heap.size W v L
theorem FJ.on {w W W' : World} {v : Value} {L : List Cv} (h : FJ w v L W) (hb : Below W.heap.size W W') : FJ w v L W' := ⟨below_on h.be hb, h.lk.on hb⟩
structure FJ2 (w : World) (v : Value) (L : List Cv) (va vb : Value) (A : List FmV) (W : World) : Prop where
  fj : FJ w v L W
  a : FmL w.heap.size W va A
  b : FmL w.heap.size W vb A
theorem FJ2.on {w W W' : World} {v va vb : Value} {L : List Cv} {A : List FmV} (h : FJ2 w v L va vb A W) (hb : Below W.heap.size W W') : FJ2 w v L va vb A W' := ⟨h.fj.on hb, h.a.below hb, h.b.below hb⟩
theorem FmL.base14 {B C : Nat} {w : World} {v : Value} {L : List FmV} (h : FmL B w v L) (hC : C ≤ B) : FmL C w v L := XB.base h hC
theorem cps_small {L l : List Cv} (h : cps L = cps l) (hs : ∀ x ∈ L, x.bs.length ≤ 1000) : ∀ x ∈ l, x.bs.length ≤ 1000 := fun x hx => by
  have h1 : x.cp ∈ cps L := by rw [h]; exact List.mem_map_of_mem hx
  obtain ⟨y, hy, e⟩ := List.mem_map.1 h1
  have e2 : y.bs = x.bs := by have := congrArg Cp.b e; exact this
  rw [← e2]
  exact hs y hy
set_option linter.unusedVariables false in
set_option maxRecDepth 100000 in
set_option maxHeartbeats 8000000 in
theorem formatJudges_core (hF : FmC) (v : Value) (l : List Cv) (k m s : Int) (w : World) (hl : IsC w v l) (hk : inI k) (hm : inI m) (hs : inI s) : Calls Try.prog 4 #[v, .int .i64 k, .int .i64 m, .int .i64 s] w fun e w' => e = .returned (.bool true) ∧ Below w.heap.size w w' := by
  have HIC := hid hl
  obtain ⟨po, c, rfl, hc1, hcm, hz, hcell, heach⟩ := hl
  have HE := hid heach
  have HC := hid hcell
  obtain ⟨n, hN⟩ : ∃ n, l.length = n := ⟨_, rfl⟩
  have HN := hid hN
  have hlm : (n : Int) ≤ 9223372036854775807 := by have : l.length ≤ maxLen := Nat.le_trans hc1 hcm; unfold maxLen at this; omega
  have hnc : (n : Int) ≤ (c : Int) := by omega
  rw [hN] at HIC ⊢
  clear heach hcell hcm hz hc1 hN
  by_cases h70 : (70 : Int) < (n : Int)
  · clear HIC HE HC HN hk hm hs hF
    go_enter Try.func4, Try.ntmps4
    go_wp2
    go_ret
    exact ⟨rfl, Below.refl _ _⟩
  have hn70 : n ≤ 70 := by omega
  have HAL : Hid (∀ W, Calls Try.prog 19 #[.int .i64 k, .int .i64 m, .int .i64 s] W (AlS W k m s)) := hid (fun W => (hF.all k m s W hk hm hs).mono fun e w' h => h.as)
  have HRA : Hid (∀ W, Calls Try.prog 20 #[.int .i64 k, .int .i64 m, .int .i64 s] W (AlS W k m s)) := hid (fun W => (rall14_any k m s W).mono fun e w' h => h.as)
  have HJD : Hid (∀ W v' L, cps L = cps l → CL W v' L → Calls Try.prog 21 #[v', .int .i64 k, .int .i64 m, .int .i64 s] W (JdS W l k m s)) := hid (fun W v' L hcp hcl => (hF.judge v' L k m s W hcl hk hm hs).mono fun e w' h => by
    have := h.as
    unfold JdS at this ⊢
    rw [(jd_cps hcp k m s).1, (jd_cps hcp k m s).2] at this
    exact this)
  have HRJ : Hid (∀ W v', CL W v' l → Calls Try.prog 22 #[v', .int .i64 k, .int .i64 m, .int .i64 s] W (JdS W l k m s)) := hid (fun W v' hcl => (rjudge14_any v' l k m s W hcl).mono fun e w' h => h.as)
  have HAW := hid (fun W => awake14_any hF W)
  have hQN := alQ_len k m s
  have hJN : (jdL l k m s).length ≤ 70 := by rw [jdL_len]; split <;> have := HN.out <;> omega
  unfold AlS at HAL HRA
  unfold JdS at HJD HRJ
  have HQ0 : Hid True := hid trivial
  generalize hAQ : alQ k m s = AQ at *
  generalize alE k m s = AE at *
  generalize jdL l k m s = JL at *
  generalize jdE l k m s = JE at *
  have hAE : ((AE : Int) != (AE : Int)) = false := by simp
  have hJE : ((JE : Int) != (JE : Int)) = false := by simp
  clear hAQ hF hk hm hs HQ0
  go_enter Try.func4, Try.ntmps4
  go_wp2
  go_loopg [9, 10] n (fun gg s9 s10 wr => ∃ (kk : Nat) (L : List Cv), kk ≤ n ∧ n - kk ≤ gg ∧ s10 = i64 kk ∧ Hid (FJ w s9 L wr) ∧ Hid (cps L = cps (l.take kk)))
  case atStart => exact ⟨0, [], Nat.zero_le _, by omega, rfl, hid ⟨Below.refl _ _, LkI.nil _ _⟩, hid rfl⟩
  case round =>
    obtain ⟨kk, L, hkk, hg, rfl, HI, HCE⟩ := hrel
    obtain ⟨ph, ch, hfh, -, -⟩ := HI.out.lk.buf.form
    obtain ⟨nh, hnh⟩ : ∃ nh, (L.map Cv.row).length = nh := ⟨_, rfl⟩
    have hLk : L.length = kk := by
      have := congrArg List.length HCE.out
      rw [cps_len, cps_len, List.length_take] at this
      have := HN.out
      omega
    rw [hnh] at hfh
    subst hfh
    by_cases hlt : kk < n
    · have hltz : (kk : Int) < (n : Int) := by omega
      have hkc : (kk : Int) < (c : Int) := by omega
      obtain ⟨x, hx⟩ : ∃ x, l[kk]? = some x := ⟨_, List.getElem?_eq_getElem (by have := HN.out; omega)⟩
      obtain ⟨b, o, hpo, hcells⟩ : ∃ b o, po = some ⟨b, o, none⟩ ∧ CCells w b o l := by
        rcases HC.out with h | h
        · rw [h] at hx; simp at hx
        · exact h
      subst hpo
      obtain ⟨p1, c1, hxv, hbl, hcap, hnil⟩ := (HE.out x (List.mem_of_getElem? hx)).sl
      have HX := hid hx
      have H8 := hid (HE.out x (List.mem_of_getElem? hx)).byte
      obtain ⟨E, hEE⟩ : ∃ E, x.err = E := ⟨_, rfl⟩
      obtain ⟨m1, hm1⟩ : ∃ m, x.bs.length = m := ⟨_, rfl⟩
      have HSF : Hid (∀ W, Below w.heap.size w W → (fun W => W.cell? ⟨b, o + kk * 2, none⟩ = some (i64 E) ∧ W.cell? ⟨b, o + kk * 2 + 1, none⟩ = some (.slice p1 m1 c1)) W) := hid (fun W hW => by
        obtain ⟨q0, q1⟩ := hcells kk x hx
        rw [hxv, hm1] at q1
        rw [hEE] at q0
        exact ⟨(World.cell?_of_block (a := ⟨b, o + kk * 2, none⟩) (hW.block b (cell_lt' (a := ⟨b, o + kk * 2, none⟩) (by rw [q0]; simp)))).trans q0, (World.cell?_of_block (a := ⟨b, o + kk * 2 + 1, none⟩) (hW.block b (cell_lt' (a := ⟨b, o + kk * 2 + 1, none⟩) (by rw [q1]; simp)))).trans q1⟩)
      have HEE := hid hEE
      have HM1 := hid hm1
      have HBL : Hid (∀ W, Below w.heap.size w W → BL W p1 x.bs) := hid (fun W hW => hbl.below hW)
      have hm1c : (m1 : Int) ≤ (c1 : Int) := by omega
      clear hcells hx hxv hm1 hEE hbl hcap hnil
      by_cases hbig : (1000 : Int) < (m1 : Int)
      · obtain ⟨q0, q1⟩ := HSF.out wr HI.out.be
        clear hLk
        go_wp2
        go_ret
        exact ⟨rfl, HI.out.be⟩
      · have HCP : Hid (∀ W, Below w.heap.size w W → Calls Try.prog 8 #[.slice p1 m1 c1] W fun e w' => e = .returned (.slice (some ⟨W.heap.size, 0, none⟩) m1 (m1 + 3)) ∧ Lent w' W.heap.size x.bs ∧ Below W.heap.size W w') := hid (fun W hW => by
          have := lentB_any p1 c1 x.bs W (by have := HM1.out; omega) (HBL.out W hW)
          rw [HM1.out] at this
          exact this)
        have hfacts := HSF.out wr HI.out.be
        obtain ⟨q0, q1⟩ := hfacts
        clear hnh
        go_wp2_with fail
        clear q0 q1
        have HD := hid (below_drew wr)
        refine wp_region_held_drew (S := (fun W => W.cell? ⟨b, o + kk * 2, none⟩ = some (i64 E) ∧ W.cell? ⟨b, o + kk * 2 + 1, none⟩ = some (.slice p1 m1 c1))) (by kernel_rfl) (HSF.out _ (below_on HI.out.be HD.out)) (fun hHeld => ?_)
        replace HI := hid (HI.out.on HD.out)
        generalize wr.drew = wd at HI hHeld ⊢
        refine wpAnyH_take (i := 0) (oi := ⟨some 37, .move (.tmp 9), _, _, _, none⟩) (v := .slice ph nh ch) rfl (by kernel_rfl) (by kernel_rfl) (by kernel_rfl) (fun _ _ _ h => h) (Or.inl ⟨by kernel_rfl, by intro W hW; go_simp⟩) hHeld ?_
        refine wpAnyH_take (i := 1) (oi := ⟨some 38, .move (.tmp 0), _, _, _, none⟩) (v := .slice (some ⟨b, o, none⟩) n c) rfl (by kernel_rfl) (by kernel_rfl) (by kernel_rfl) (fun _ _ _ h => h) (Or.inl ⟨by kernel_rfl, by intro W hW; go_simp⟩) hHeld ?_
        refine wpAnyH_take (i := 2) (oi := ⟨some 39, .move (.tmp 10), _, _, _, none⟩) (v := i64 kk) rfl (by kernel_rfl) (by kernel_rfl) (by kernel_rfl) (fun _ _ _ h => h) (Or.inl ⟨by kernel_rfl, by intro W hW; go_simp⟩) hHeld ?_
        refine wpAnyH_take (i := 3) (oi := ⟨some 40, .indexAddr 37 (.tmp 38) (.tmp 39), _, _, _, none⟩) (v := .pointer (some ⟨b, o + kk * 2, none⟩)) rfl (by kernel_rfl) (by kernel_rfl) (by kernel_rfl) (fun _ _ _ h => h) (Or.inl ⟨by kernel_rfl, by intro W hW; go_simp⟩) hHeld ?_
        refine wpAnyH_take (i := 4) (oi := ⟨some 41, .fieldAddr 39 (.tmp 40) 0, _, _, _, none⟩) (v := .pointer (some ⟨b, o + kk * 2, none⟩)) rfl (by kernel_rfl) (by kernel_rfl) (by kernel_rfl) (fun _ _ _ h => h) (Or.inl ⟨by kernel_rfl, by intro W hW; go_simp⟩) hHeld ?_
        refine wpAnyH_take (i := 5) (oi := ⟨some 42, .load 26 (.tmp 41), _, _, _, none⟩) (v := i64 E) rfl (by kernel_rfl) (by kernel_rfl) (by kernel_rfl) (fun _ _ _ h => h) (Or.inl ⟨by kernel_rfl, by intro W hW; obtain ⟨q0, q1⟩ := hW; go_simp⟩) hHeld ?_
        refine wpAnyH_take (i := 6) (oi := ⟨some 43, .move (.tmp 0), _, _, _, none⟩) (v := .slice (some ⟨b, o, none⟩) n c) rfl (by kernel_rfl) (by kernel_rfl) (by kernel_rfl) (fun _ _ _ h => h) (Or.inl ⟨by kernel_rfl, by intro W hW; go_simp⟩) hHeld ?_
        refine wpAnyH_take (i := 7) (oi := ⟨some 44, .move (.tmp 10), _, _, _, none⟩) (v := i64 kk) rfl (by kernel_rfl) (by kernel_rfl) (by kernel_rfl) (fun _ _ _ h => h) (Or.inl ⟨by kernel_rfl, by intro W hW; go_simp⟩) hHeld ?_
        refine wpAnyH_take (i := 8) (oi := ⟨some 45, .indexAddr 37 (.tmp 43) (.tmp 44), _, _, _, none⟩) (v := .pointer (some ⟨b, o + kk * 2, none⟩)) rfl (by kernel_rfl) (by kernel_rfl) (by kernel_rfl) (fun _ _ _ h => h) (Or.inl ⟨by kernel_rfl, by intro W hW; go_simp⟩) hHeld ?_
        refine wpAnyH_take (i := 9) (oi := ⟨some 46, .fieldAddr 39 (.tmp 45) 1, _, _, _, none⟩) (v := .pointer (some ⟨b, o + kk * 2 + 1, none⟩)) rfl (by kernel_rfl) (by kernel_rfl) (by kernel_rfl) (fun _ _ _ h => h) (Or.inl ⟨by kernel_rfl, by intro W hW; go_simp⟩) hHeld ?_
        refine wpAnyH_take (i := 10) (oi := ⟨some 47, .load 24 (.tmp 46), _, _, _, none⟩) (v := .slice p1 m1 c1) rfl (by kernel_rfl) (by kernel_rfl) (by kernel_rfl) (fun _ _ _ h => h) (Or.inl ⟨by kernel_rfl, by intro W hW; obtain ⟨q0, q1⟩ := hW; go_simp⟩) hHeld ?_
        refine wpAnyH_ready (rs := [11]) (by kernel_rfl) (by simp) ?_
        refine AllReadyH.cons rfl (fun K hK => ?_) AllReadyH.nil
        go_simp
        refine (HCP.out _ HI.out.be).mono ?_
        rintro e w4 ⟨rfl, hl4, hw4⟩
        have HOB : Hid (∀ q, (Value.slice ph nh ch).ownBlock = some q → q ≠ wd.heap.size) := hid (fun q e => by have := (own_ge HI.out.lk.buf q e).2; omega)
        have HWS := hid HI.out.be.size
        replace HI := hid (HI.out.on hw4)
        have HL4 := hid hl4
        clear hl4 hw4 hHeld
        generalize wd.heap.size = gq at *
        go_wp2_with fail
        refine hK.out _ _ (HSF.out _ HI.out.be) (fun hHeld => ?_)
        clear hK K
        refine wpAnyH_take (i := 12) (oi := ⟨some 49, .build 39 #[(0, .tmp 42), (1, .tmp 48)], _, _, _, none⟩) (v := .agg (cC E (.slice (some ⟨gq, 0, none⟩) m1 (m1 + 3)))) rfl (by kernel_rfl) (by kernel_rfl) (by kernel_rfl) (fun _ _ _ h => h) (Or.inl ⟨by kernel_rfl, by intro W hW; go_simp; rfl⟩) hHeld ?_
        obtain ⟨v6, w6, hr6, hi6, hb6⟩ := HI.out.lk.push ⟨E, .slice (some ⟨gq, 0, none⟩) m1 (m1 + 3), x.bs⟩ (g := gq) (by rw [← HM1.out]) HL4.out HWS.out HOB.out H8.out (by have := HM1.out; show x.bs.length ≤ 1000; omega) (by omega) HI.out.be.size 37
        have HRUN := hid hr6
        have HI6 : Hid (FJ w v6 (L ++ [⟨E, .slice (some ⟨gq, 0, none⟩) m1 (m1 + 3), x.bs⟩]) w6) := hid ⟨below_tr HI.out.be hb6, hi6⟩
        have HBA := hid (below_on HI.out.be (below_al w4 (.cells (cC E (.slice (some ⟨gq, 0, none⟩) m1 (m1 + 3))) 39)))
        clear hr6 hi6 hb6
        refine wpAnyH_ready (rs := [13]) (by kernel_rfl) (by simp) ?_
        refine AllReadyH.cons (o := ⟨some 50, .buildSlice 37 1 #[(0, .tmp 49)], 37, _, _, none⟩) rfl (fun K hK => ?_) AllReadyH.nil
        with_reducible refine step_run_val ?_ (.slice (some ⟨w4.heap.size, 0, none⟩) 1 1) (w4.alloc (.cells (cC E (.slice (some ⟨gq, 0, none⟩) m1 (m1 + 3))) 39)) ?_ ?_
        · exact rfl
        · exact exec_bsC rfl (by kernel_rfl)
        refine hK.out _ _ (HSF.out _ HBA.out) (fun hHeld => ?_)
        clear hK K
        refine wpAnyH_ready (rs := [14]) (by kernel_rfl) (by simp) ?_
        refine AllReadyH.cons (o := ⟨some 51, .call { callee := .builtin .append, args := #[.tmp 37, .tmp 50], argTypes := #[37, 37] }, 37, _, _, none⟩) rfl (fun K hK => ?_) AllReadyH.nil
        with_reducible refine step_run_val ?_ v6 w6 ?_ ?_
        · exact rfl
        · exact exec_app9 rfl (by kernel_rfl) (by kernel_rfl) HRUN.out
        refine hK.out _ _ (HSF.out _ HI6.out.be) (fun hHeld => ?_)
        clear hK K
        refine wpAnyH_take (i := 15) (oi := ⟨some 9, .assign (.tmp 51), _, _, _, none⟩) (v := v6) rfl (by kernel_rfl) (by kernel_rfl) (by kernel_rfl) (fun _ _ _ h => h) (Or.inl ⟨by kernel_rfl, by intro W hW; go_simp⟩) hHeld ?_
        refine wpAnyH_done (by kernel_rfl) ?_ _
        (try simp only [Act.put, List.setIfInBounds_toArray, List.set_cons_zero, List.set_cons_succ])
        clear hHeld HRUN HBA HI HOB HCP
        go_wp2
        go_roundg (n - (kk + 1))
        case measure => omega
        case rel => exact ⟨kk + 1, L ++ [⟨E, .slice (some ⟨gq, 0, none⟩) m1 (m1 + 3), x.bs⟩], by omega, by omega, by go_num, HI6, hid (by rw [cps_next HX.out, ← HCE.out, ← HEE.out]; simp [cps, Cv.cp])⟩
    · have hltz : ¬ (kk : Int) < (n : Int) := by omega
      have hkn : kk = n := by omega
      subst hkn
      have hce : cps L = cps l := by have := HCE.out; rwa [List.take_of_length_le (by have := HN.out; omega)] at this
      have HCEE := hid hce
      have hnk : nh = kk := by rw [← hnh, List.length_map, hLk]
      subst hnk
      have HCL : Hid (∀ W, FJ w (.slice ph nh ch) L W → CL W (.slice ph nh ch) L) := hid (fun W h => h.lk.cl (by omega))
      have HLL : Hid (∀ W, Below w.heap.size w W → CL W (.slice po nh c) l) := hid (fun W h => (HIC.out.cl14 (by have := HN.out; omega) (cps_small hce fun x hx => (HI.out.lk.each x hx).2.2)).below h)
      have hgN : L.length = nh := hLk
      have HLN := hid hgN
      replace HJD := hid (fun W h => HJD.out W (.slice ph nh ch) L HCEE.out (HCL.out W h))
      replace HRJ := hid (fun W h => HRJ.out W (.slice po nh c) (HLL.out W h))
      have HSI := hid (fun (W : World) (p q : Option Addr) (c d : Nat) (h1 : H.IntAt W p JL.length (fun i => JL.getD i 0)) (h2 : H.IntAt W q JL.length (fun i => JL.getD i 0)) => H.sameInts_true p q JL.length c d (fun i => JL.getD i 0) W (by omega) h1 h2)
      have HWB := hid HI.out.be.size
      clear hce hnh HCE hlt hgN hLk hg hkk HIC HE HC
      have hQQ : ((AQ.length : Int) != (AQ.length : Int)) = false := by simp
      go_wp2_with (first
        | (go_at_call 19; refine (HAL.out _).mono ?_; rintro e w5 ⟨pa, ca, rfl, hca, hfa, hb5⟩; have HFA := hid (hfa.base14 HWB.out); replace HI := hid (HI.out.on hb5); clear hfa hb5)
        | (go_at_call 20; refine (HRA.out _).mono ?_; rintro e w6 ⟨pb, cb, rfl, hcb, hfb, hb6⟩; have HI2 : Hid (FJ2 w (.slice ph nh ch) L (.slice pa AQ.length ca) (.slice pb AQ.length cb) AQ w6) := hid ⟨HI.out.on hb6, HFA.out.below hb6, hfb.base14 HI.out.be.size⟩; clear hfb hb6)
        | (go_at_call 21; refine (HJD.out _ HI2.out.fj).mono ?_; rintro e w7 ⟨pc, cc, rfl, hic, hb7⟩; have HIC := hid (hic.int rfl); replace HI2 := hid (HI2.out.on hb7); clear hic hb7)
        | (go_at_call 22; refine (HRJ.out _ HI2.out.fj.be).mono ?_; rintro e w8 ⟨pd, cd, rfl, hid8, hb8⟩; have HID := hid (hid8.int rfl); replace HIC := hid (H.IntAt.below HIC.out hb8); replace HI2 := hid (HI2.out.on hb8); clear hid8 hb8)
        | (go_at_call 23; refine (HSI.out _ pc pd cc cd HIC.out HID.out).mono ?_; rintro e w9 ⟨rfl, q9, hq9⟩; have HI3 := hid (HI2.out.on (show Below w8.heap.size w8 w9 by rw [hq9]; exact below_drewN _ _)); clear hq9))
      clear HI HI2 HFA HIC HID HAL HRA HJD HRJ HSI HWB
      have hAn : (AQ.length : Int) ≤ 64 := by omega
      have hAca : (AQ.length : Int) ≤ (ca : Int) := by omega
      have hAcb : (AQ.length : Int) ≤ (cb : Int) := by omega
      have HAT : Hid (∀ i, i < AQ.length → ∀ W, FJ2 w (.slice ph nh ch) L (.slice pa AQ.length ca) (.slice pb AQ.length cb) AQ W → ∃ ga gb, pa = some ⟨ga, 0, none⟩ ∧ pb = some ⟨gb, 0, none⟩ ∧ ∀ W', FJ2 w (.slice ph nh ch) L (.slice pa AQ.length ca) (.slice pb AQ.length cb) AQ W' → (fun W => (Instr.loadAt 23 (.pointer (some ⟨ga, i * 5, none⟩))).run Try.prog W = .ok (.agg (AQ.getD i default).cs) W ∧ (Instr.loadAt 23 (.pointer (some ⟨gb, i * 5, none⟩))).run Try.prog W = .ok (.agg (AQ.getD i default).cs) W) W') := hid (fun i hi W h => by
        obtain ⟨ga, c1, e1, _⟩ := h.a.at (i := i) (by omega)
        obtain ⟨gb, c2, e2, _⟩ := h.b.at (i := i) (by omega)
        cases e1
        cases e2
        refine ⟨ga, gb, rfl, rfl, fun W' h' => ?_⟩
        obtain ⟨ga', c1', e1', k1⟩ := h'.a.at (i := i) (by omega)
        obtain ⟨gb', c2', e2', k2⟩ := h'.b.at (i := i) (by omega)
        cases e1'
        cases e2'
        exact ⟨load_atF k1, load_atF k2⟩)
      go_loopg [19] AQ.length (fun gg v wq => ∃ i : Nat, i ≤ AQ.length ∧ AQ.length - i ≤ gg ∧ v = .int .i64 (i : Int) ∧ Hid (FJ2 w (.slice ph nh ch) L (.slice pa AQ.length ca) (.slice pb AQ.length cb) AQ wq))
      case atStart => exact ⟨0, by omega, by omega, rfl, HI3⟩
      case round =>
        clear HI3
        obtain ⟨i, hi, hgi, rfl, HK⟩ := hrel
        by_cases hlt : i < AQ.length
        · have hltz : (i : Int) < (AQ.length : Int) := by omega
          have hia : (i : Int) < (ca : Int) := by omega
          have hib : (i : Int) < (cb : Int) := by omega
          have hi64 : (i : Int) < 64 := by omega
          obtain ⟨ga, gb, rfl, rfl, hS⟩ := HAT.out i hlt _ HK.out
          have HS := hid hS
          obtain ⟨f, hf⟩ : ∃ f, AQ.getD i default = f := ⟨_, rfl⟩
          rw [hf] at HS
          have HNE := hid (fun W => neqF f f W)
          rw [show decide (f = f) = true by simp] at HNE
          clear hS hf HAT
          go_wp2_with fail
          have HD := hid (below_drew wr)
          replace HK := hid (HK.out.on HD.out)
          refine wp_region_held_drew (S := (fun W => (Instr.loadAt 23 (.pointer (some ⟨ga, i * 5, none⟩))).run Try.prog W = .ok (.agg f.cs) W ∧ (Instr.loadAt 23 (.pointer (some ⟨gb, i * 5, none⟩))).run Try.prog W = .ok (.agg f.cs) W)) (by kernel_rfl) (HS.out _ HK.out) (fun hHeld => ?_)
          clear HD
          generalize wr.drew = wd at *
          refine wpAnyH_take (i := 0) (oi := ⟨some 109, .move (.tmp 11), _, _, _, none⟩) (v := .slice (some ⟨ga, 0, none⟩) AQ.length ca) rfl (by kernel_rfl) (by kernel_rfl) (by kernel_rfl) (fun _ _ _ h => h) (Or.inl ⟨by kernel_rfl, by intro W hW; go_simp⟩) hHeld ?_
          refine wpAnyH_take (i := 1) (oi := ⟨some 110, .move (.tmp 19), _, _, _, none⟩) (v := .int .i64 (i : Int)) rfl (by kernel_rfl) (by kernel_rfl) (by kernel_rfl) (fun _ _ _ h => h) (Or.inl ⟨by kernel_rfl, by intro W hW; go_simp⟩) hHeld ?_
          refine wpAnyH_take (i := 2) (oi := ⟨some 111, .indexAddr 40 (.tmp 109) (.tmp 110), _, _, _, none⟩) (v := .pointer (some ⟨ga, i * 5, none⟩)) rfl (by kernel_rfl) (by kernel_rfl) (by kernel_rfl) (fun _ _ _ h => h) (Or.inl ⟨by kernel_rfl, by intro W hW; go_simp⟩) hHeld ?_
          refine wpAnyH_take (i := 3) (oi := ⟨some 112, .load 23 (.tmp 111), _, _, _, none⟩) (v := .agg f.cs) rfl (by kernel_rfl) (by kernel_rfl) (by kernel_rfl) (fun _ _ _ h => h) (Or.inl ⟨by kernel_rfl, fun W hW => exec_load rfl (by kernel_rfl) hW.1⟩) hHeld ?_
          refine wpAnyH_take (i := 4) (oi := ⟨some 113, .move (.tmp 13), _, _, _, none⟩) (v := .slice (some ⟨gb, 0, none⟩) AQ.length cb) rfl (by kernel_rfl) (by kernel_rfl) (by kernel_rfl) (fun _ _ _ h => h) (Or.inl ⟨by kernel_rfl, by intro W hW; go_simp⟩) hHeld ?_
          refine wpAnyH_take (i := 5) (oi := ⟨some 114, .move (.tmp 19), _, _, _, none⟩) (v := .int .i64 (i : Int)) rfl (by kernel_rfl) (by kernel_rfl) (by kernel_rfl) (fun _ _ _ h => h) (Or.inl ⟨by kernel_rfl, by intro W hW; go_simp⟩) hHeld ?_
          refine wpAnyH_take (i := 6) (oi := ⟨some 115, .indexAddr 40 (.tmp 113) (.tmp 114), _, _, _, none⟩) (v := .pointer (some ⟨gb, i * 5, none⟩)) rfl (by kernel_rfl) (by kernel_rfl) (by kernel_rfl) (fun _ _ _ h => h) (Or.inl ⟨by kernel_rfl, by intro W hW; go_simp⟩) hHeld ?_
          refine wpAnyH_take (i := 7) (oi := ⟨some 116, .load 23 (.tmp 115), _, _, _, none⟩) (v := .agg f.cs) rfl (by kernel_rfl) (by kernel_rfl) (by kernel_rfl) (fun _ _ _ h => h) (Or.inl ⟨by kernel_rfl, fun W hW => exec_load rfl (by kernel_rfl) hW.2⟩) hHeld ?_
          refine wpAnyH_take (i := 8) (oi := ⟨some 117, .binOp .neq 23 (.tmp 112) (.tmp 116) 23, _, _, _, none⟩) (v := .bool false) rfl (by kernel_rfl) (by kernel_rfl) (by kernel_rfl) (fun _ _ _ h => h) (Or.inl ⟨by kernel_rfl, fun W hW => exec_binF rfl (by kernel_rfl) (by kernel_rfl) (by simp [eqGuard]) (HNE.out W)⟩) hHeld ?_
          refine wpAnyH_done (by kernel_rfl) ?_ _
          (try simp only [Act.put, List.setIfInBounds_toArray, List.set_cons_zero, List.set_cons_succ])
          clear hHeld
          go_wp2
          go_roundg (AQ.length - (i + 1))
          case measure => omega
          case rel => exact ⟨i + 1, by omega, Nat.le_refl _, by go_num, HK⟩
        · have hltz : ¬ (i : Int) < (AQ.length : Int) := by omega
          have HKL := hid HK.out.fj
          clear HK HAT
          go_wp2_with fail
          go_loopg [20] nh (fun gg v wz => ∃ i : Nat, i ≤ nh ∧ nh - i ≤ gg ∧ v = .int .i64 (i : Int) ∧ Hid (FJ w (.slice ph nh ch) L wz))
          case atStart => exact ⟨0, by omega, by omega, rfl, HKL⟩
          case round =>
            clear HKL
            obtain ⟨kk, hkk, hgk, rfl, HZ⟩ := hrel
            by_cases hlt : kk < nh
            · have hltz : (kk : Int) < (nh : Int) := by omega
              obtain ⟨x, hx⟩ : ∃ x, l[kk]? = some x := ⟨_, List.getElem?_eq_getElem (by have := HN.out; omega)⟩
              obtain ⟨y, hy⟩ : ∃ y, L[kk]? = some y := ⟨_, List.getElem?_eq_getElem (by have := HLN.out; omega)⟩
              have hyx : y.err = x.err ∧ y.bs = x.bs := by
                have := cps_at HCEE.out kk ⟨0, .slice none 0 0, []⟩
                simpa [List.getD, hx, hy] using this
              have hcl := HCL.out wr HZ.out
              have hll := HLL.out wr HZ.out.be
              obtain ⟨b2, o2, d2, e2, hd2, -, -⟩ := hcl.where hy
              rw [HLN.out] at e2 hd2
              cases e2
              obtain ⟨b, o, d1, e1, hd1, -, -⟩ := hll.where hx
              rw [HN.out] at e1 hd1
              cases e1
              obtain ⟨⟨gy, hyv, -, -⟩, -, hs1⟩ := HZ.out.lk.each y (List.mem_of_getElem? hy)
              obtain ⟨p1, c1, hxv, -, -, -⟩ := (hll.each x (List.mem_of_getElem? hx)).sl
              obtain ⟨E, hEE⟩ : ∃ E, x.err = E := ⟨_, rfl⟩
              obtain ⟨m1, hm1⟩ : ∃ m, x.bs.length = m := ⟨_, rfl⟩
              rw [hyx.2, hm1] at hyv
              rw [hm1] at hxv
              have HSF : Hid (∀ W, FJ w (.slice (some ⟨b2, o2, none⟩) nh ch) L W → (fun W => W.cell? ⟨b2, o2 + kk * 2, none⟩ = some (i64 E) ∧ W.cell? ⟨b2, o2 + kk * 2 + 1, none⟩ = some (.slice (some ⟨gy, 0, none⟩) m1 (m1 + 3)) ∧ W.cell? ⟨b, o + kk * 2, none⟩ = some (i64 E) ∧ W.cell? ⟨b, o + kk * 2 + 1, none⟩ = some (.slice p1 m1 c1)) W) := hid (fun W hW => by
                have h1 := (HCL.out W hW).at (Below.refl _ _) hy
                have h2 := (HLL.out W hW.be).at (Below.refl _ _) hx
                rw [hyx.1, hEE, hyv] at h1
                rw [hEE, hxv] at h2
                exact ⟨h1.1, h1.2.1, h2.1, h2.2.1⟩)
              have HKP : Hid (∀ W, FJ w (.slice (some ⟨b2, o2, none⟩) nh ch) L W → Calls Try.prog 17 #[.slice (some ⟨gy, 0, none⟩) m1 (m1 + 3), .slice p1 m1 c1] W fun e w' => e = .returned (.bool true) ∧ Below W.heap.size W w') := hid (fun W hW => by
                obtain ⟨⟨g3, hv3, hl3, -⟩, -, -⟩ := hW.lk.each y (List.mem_of_getElem? hy)
                rw [hyv, hyx.2, hm1] at hv3
                cases hv3
                obtain ⟨p4, c4, hxv4, hbl4, -, -⟩ := ((HLL.out W hW.be).each x (List.mem_of_getElem? hx)).sl
                rw [hxv] at hxv4
                cases hxv4
                rw [hyx.2] at hl3 hs1
                have := keptB_any gy p1 c1 x.bs W (by omega) hl3 hbl4
                rw [hm1] at this
                exact this)
              have hkc : (kk : Int) < (ch : Int) := by omega
              have hkd : (kk : Int) < (c : Int) := by omega
              have hzE : (E != E) = false := by simp
              clear hcl hll hyv hxv hm1 hEE hyx hx hy hs1
              go_wp2_with fail
              have HD := hid (below_drew wr)
              replace HZ := hid (HZ.out.on HD.out)
              refine wp_region_held_drew (S := (fun W => W.cell? ⟨b2, o2 + kk * 2, none⟩ = some (i64 E) ∧ W.cell? ⟨b2, o2 + kk * 2 + 1, none⟩ = some (.slice (some ⟨gy, 0, none⟩) m1 (m1 + 3)) ∧ W.cell? ⟨b, o + kk * 2, none⟩ = some (i64 E) ∧ W.cell? ⟨b, o + kk * 2 + 1, none⟩ = some (.slice p1 m1 c1))) (by kernel_rfl) (HSF.out _ HZ.out) (fun hHeld => ?_)
              clear HD
              generalize wr.drew = wd at *
              refine wpAnyH_take (i := 0) (oi := ⟨some 124, .move (.tmp 9), _, _, _, none⟩) (v := .slice (some ⟨b2, o2, none⟩) nh ch) rfl (by kernel_rfl) (by kernel_rfl) (by kernel_rfl) (fun _ _ _ h => h) (Or.inl ⟨by kernel_rfl, by intro W hW; obtain ⟨q0, q1, q2, q3⟩ := hW; go_simp⟩) hHeld ?_
              refine wpAnyH_take (i := 1) (oi := ⟨some 125, .move (.tmp 20), _, _, _, none⟩) (v := i64 kk) rfl (by kernel_rfl) (by kernel_rfl) (by kernel_rfl) (fun _ _ _ h => h) (Or.inl ⟨by kernel_rfl, by intro W hW; obtain ⟨q0, q1, q2, q3⟩ := hW; go_simp⟩) hHeld ?_
              refine wpAnyH_take (i := 2) (oi := ⟨some 126, .indexAddr 37 (.tmp 124) (.tmp 125), _, _, _, none⟩) (v := .pointer (some ⟨b2, o2 + kk * 2, none⟩)) rfl (by kernel_rfl) (by kernel_rfl) (by kernel_rfl) (fun _ _ _ h => h) (Or.inl ⟨by kernel_rfl, by intro W hW; obtain ⟨q0, q1, q2, q3⟩ := hW; go_simp⟩) hHeld ?_
              refine wpAnyH_take (i := 3) (oi := ⟨some 127, .fieldAddr 39 (.tmp 126) 0, _, _, _, none⟩) (v := .pointer (some ⟨b2, o2 + kk * 2, none⟩)) rfl (by kernel_rfl) (by kernel_rfl) (by kernel_rfl) (fun _ _ _ h => h) (Or.inl ⟨by kernel_rfl, by intro W hW; obtain ⟨q0, q1, q2, q3⟩ := hW; go_simp⟩) hHeld ?_
              refine wpAnyH_take (i := 4) (oi := ⟨some 128, .load 26 (.tmp 127), _, _, _, none⟩) (v := i64 E) rfl (by kernel_rfl) (by kernel_rfl) (by kernel_rfl) (fun _ _ _ h => h) (Or.inl ⟨by kernel_rfl, by intro W hW; obtain ⟨q0, q1, q2, q3⟩ := hW; go_simp⟩) hHeld ?_
              refine wpAnyH_take (i := 5) (oi := ⟨some 129, .move (.tmp 0), _, _, _, none⟩) (v := .slice (some ⟨b, o, none⟩) nh c) rfl (by kernel_rfl) (by kernel_rfl) (by kernel_rfl) (fun _ _ _ h => h) (Or.inl ⟨by kernel_rfl, by intro W hW; obtain ⟨q0, q1, q2, q3⟩ := hW; go_simp⟩) hHeld ?_
              refine wpAnyH_take (i := 6) (oi := ⟨some 130, .move (.tmp 20), _, _, _, none⟩) (v := i64 kk) rfl (by kernel_rfl) (by kernel_rfl) (by kernel_rfl) (fun _ _ _ h => h) (Or.inl ⟨by kernel_rfl, by intro W hW; obtain ⟨q0, q1, q2, q3⟩ := hW; go_simp⟩) hHeld ?_
              refine wpAnyH_take (i := 7) (oi := ⟨some 131, .indexAddr 37 (.tmp 129) (.tmp 130), _, _, _, none⟩) (v := .pointer (some ⟨b, o + kk * 2, none⟩)) rfl (by kernel_rfl) (by kernel_rfl) (by kernel_rfl) (fun _ _ _ h => h) (Or.inl ⟨by kernel_rfl, by intro W hW; obtain ⟨q0, q1, q2, q3⟩ := hW; go_simp⟩) hHeld ?_
              refine wpAnyH_take (i := 8) (oi := ⟨some 132, .fieldAddr 39 (.tmp 131) 0, _, _, _, none⟩) (v := .pointer (some ⟨b, o + kk * 2, none⟩)) rfl (by kernel_rfl) (by kernel_rfl) (by kernel_rfl) (fun _ _ _ h => h) (Or.inl ⟨by kernel_rfl, by intro W hW; obtain ⟨q0, q1, q2, q3⟩ := hW; go_simp⟩) hHeld ?_
              refine wpAnyH_take (i := 9) (oi := ⟨some 133, .load 26 (.tmp 132), _, _, _, none⟩) (v := i64 E) rfl (by kernel_rfl) (by kernel_rfl) (by kernel_rfl) (fun _ _ _ h => h) (Or.inl ⟨by kernel_rfl, by intro W hW; obtain ⟨q0, q1, q2, q3⟩ := hW; go_simp⟩) hHeld ?_
              refine wpAnyH_take (i := 10) (oi := ⟨some 134, .binOp .neq 26 (.tmp 128) (.tmp 133) 26, _, _, _, none⟩) (v := .bool false) rfl (by kernel_rfl) (by kernel_rfl) (by kernel_rfl) (fun _ _ _ h => h) (Or.inl ⟨by kernel_rfl, by intro W hW; obtain ⟨q0, q1, q2, q3⟩ := hW; go_simp⟩) hHeld ?_
              refine wpAnyH_take (i := 11) (oi := ⟨some 135, .move (.tmp 134), _, _, _, none⟩) (v := .bool false) rfl (by kernel_rfl) (by kernel_rfl) (by kernel_rfl) (fun _ _ _ h => h) (Or.inl ⟨by kernel_rfl, by intro W hW; obtain ⟨q0, q1, q2, q3⟩ := hW; go_simp⟩) hHeld ?_
              refine wpAnyH_take (i := 12) (oi := ⟨some 136, .move (.tmp 9), _, _, _, some (11, false)⟩) (v := .slice (some ⟨b2, o2, none⟩) nh ch) rfl (by kernel_rfl) (by kernel_rfl) (by kernel_rfl) (fun _ _ _ h => h) (Or.inl ⟨by kernel_rfl, by intro W hW; obtain ⟨q0, q1, q2, q3⟩ := hW; go_simp⟩) hHeld ?_
              refine wpAnyH_take (i := 13) (oi := ⟨some 137, .move (.tmp 20), _, _, _, some (11, false)⟩) (v := i64 kk) rfl (by kernel_rfl) (by kernel_rfl) (by kernel_rfl) (fun _ _ _ h => h) (Or.inl ⟨by kernel_rfl, by intro W hW; obtain ⟨q0, q1, q2, q3⟩ := hW; go_simp⟩) hHeld ?_
              refine wpAnyH_take (i := 14) (oi := ⟨some 138, .indexAddr 37 (.tmp 136) (.tmp 137), _, _, _, some (11, false)⟩) (v := .pointer (some ⟨b2, o2 + kk * 2, none⟩)) rfl (by kernel_rfl) (by kernel_rfl) (by kernel_rfl) (fun _ _ _ h => h) (Or.inl ⟨by kernel_rfl, by intro W hW; obtain ⟨q0, q1, q2, q3⟩ := hW; go_simp⟩) hHeld ?_
              refine wpAnyH_take (i := 15) (oi := ⟨some 139, .fieldAddr 39 (.tmp 138) 1, _, _, _, some (11, false)⟩) (v := .pointer (some ⟨b2, o2 + kk * 2 + 1, none⟩)) rfl (by kernel_rfl) (by kernel_rfl) (by kernel_rfl) (fun _ _ _ h => h) (Or.inl ⟨by kernel_rfl, by intro W hW; obtain ⟨q0, q1, q2, q3⟩ := hW; go_simp⟩) hHeld ?_
              refine wpAnyH_take (i := 16) (oi := ⟨some 140, .load 24 (.tmp 139), _, _, _, some (11, false)⟩) (v := .slice (some ⟨gy, 0, none⟩) m1 (m1 + 3)) rfl (by kernel_rfl) (by kernel_rfl) (by kernel_rfl) (fun _ _ _ h => h) (Or.inl ⟨by kernel_rfl, by intro W hW; obtain ⟨q0, q1, q2, q3⟩ := hW; go_simp⟩) hHeld ?_
              refine wpAnyH_take (i := 17) (oi := ⟨some 141, .move (.tmp 0), _, _, _, some (11, false)⟩) (v := .slice (some ⟨b, o, none⟩) nh c) rfl (by kernel_rfl) (by kernel_rfl) (by kernel_rfl) (fun _ _ _ h => h) (Or.inl ⟨by kernel_rfl, by intro W hW; obtain ⟨q0, q1, q2, q3⟩ := hW; go_simp⟩) hHeld ?_
              refine wpAnyH_take (i := 18) (oi := ⟨some 142, .move (.tmp 20), _, _, _, some (11, false)⟩) (v := i64 kk) rfl (by kernel_rfl) (by kernel_rfl) (by kernel_rfl) (fun _ _ _ h => h) (Or.inl ⟨by kernel_rfl, by intro W hW; obtain ⟨q0, q1, q2, q3⟩ := hW; go_simp⟩) hHeld ?_
              refine wpAnyH_take (i := 19) (oi := ⟨some 143, .indexAddr 37 (.tmp 141) (.tmp 142), _, _, _, some (11, false)⟩) (v := .pointer (some ⟨b, o + kk * 2, none⟩)) rfl (by kernel_rfl) (by kernel_rfl) (by kernel_rfl) (fun _ _ _ h => h) (Or.inl ⟨by kernel_rfl, by intro W hW; obtain ⟨q0, q1, q2, q3⟩ := hW; go_simp⟩) hHeld ?_
              refine wpAnyH_take (i := 20) (oi := ⟨some 144, .fieldAddr 39 (.tmp 143) 1, _, _, _, some (11, false)⟩) (v := .pointer (some ⟨b, o + kk * 2 + 1, none⟩)) rfl (by kernel_rfl) (by kernel_rfl) (by kernel_rfl) (fun _ _ _ h => h) (Or.inl ⟨by kernel_rfl, by intro W hW; obtain ⟨q0, q1, q2, q3⟩ := hW; go_simp⟩) hHeld ?_
              refine wpAnyH_take (i := 21) (oi := ⟨some 145, .load 24 (.tmp 144), _, _, _, some (11, false)⟩) (v := .slice p1 m1 c1) rfl (by kernel_rfl) (by kernel_rfl) (by kernel_rfl) (fun _ _ _ h => h) (Or.inl ⟨by kernel_rfl, by intro W hW; obtain ⟨q0, q1, q2, q3⟩ := hW; go_simp⟩) hHeld ?_
              refine wpAnyH_ready (rs := [22]) (by kernel_rfl) (by simp) ?_
              refine AllReadyH.cons rfl (fun K hK => ?_) AllReadyH.nil
              go_simp
              refine (HKP.out _ HZ.out).mono ?_
              rintro e w4 ⟨rfl, hb4⟩
              replace HZ := hid (HZ.out.on hb4)
              clear hb4 hHeld
              go_wp2_with fail
              refine hK.out _ _ (HSF.out _ HZ.out) (fun hHeld => ?_)
              clear hK K
              refine wpAnyH_take (i := 23) (oi := ⟨some 147, .unOp .not 4 (.tmp 146), _, _, _, some (11, false)⟩) (v := .bool false) rfl (by kernel_rfl) (by kernel_rfl) (by kernel_rfl) (fun _ _ _ h => h) (Or.inl ⟨by kernel_rfl, by intro W hW; obtain ⟨q0, q1, q2, q3⟩ := hW; go_simp⟩) hHeld ?_
              refine wpAnyH_take (i := 24) (oi := ⟨some 148, .pick (.tmp 135) (.const (.bool true)) (.tmp 147), _, _, _, none⟩) (v := .bool false) rfl (by kernel_rfl) (by kernel_rfl) (by kernel_rfl) (fun _ _ _ h => h) (Or.inl ⟨by kernel_rfl, by intro W hW; obtain ⟨q0, q1, q2, q3⟩ := hW; go_simp⟩) hHeld ?_
              refine wpAnyH_done (by kernel_rfl) ?_ _
              (try simp only [Act.put, List.setIfInBounds_toArray, List.set_cons_zero, List.set_cons_succ])
              clear hHeld
              go_wp2
              go_roundg (nh - (kk + 1))
              case measure => omega
              case rel => exact ⟨kk + 1, by omega, Nat.le_refl _, by go_num, HZ⟩
            · have hltz : ¬ (kk : Int) < (nh : Int) := by omega
              go_wp2_with (go_at_call 18; refine (HAW.out _).mono ?_; rintro e w7 ⟨rfl, hb7⟩; have HB7 := hid (below_on HZ.out.be hb7); clear hb7)
              go_ret
              exact ⟨rfl, HB7.out⟩
end Go.Proofs.Ytfniojnklhjgbaa
