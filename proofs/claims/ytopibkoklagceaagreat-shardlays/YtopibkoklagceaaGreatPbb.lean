/- Texts laid into one, cut to what is needed: the remark ahead of each part says what is proved there. -/
import Derived.Test.YtopibkoklagceaaGreatPba
import Derived.Test.YtopibkoklagceaaGreatPag
/- The document's Name, Lay and may of shard: as the program's contracts say; what was there is as it was. -/
namespace Go.Proofs.YtopibkoklagceaaGreat
open Go Go.RowKit

theorem rname11_any (p d : ByteArray) (w : World) (hd : d.size ≤ 100000) : Calls Tryz.prog 9 #[.string p, .string d] w fun e w' => e = .returned (.tuple #[.string (nmV p d), .int .i64 (nmE p d)]) ∧ w' = w := by
  have hdn := fun w => rData_any d w (by omega)
  by_cases h1 : p.size < 1
  · have q1 : (p.size : Int) < 1 := by omega
    have e1 : nmB p d = false := by unfold nmB; rw [decide_eq_false (by omega)]; rfl
    unfold nmV nmE
    rw [e1]
    simp only [if_neg (show ¬ (false = true) by decide)]
    clear hdn h1 e1
    go_enter Tryz.func9, Tryz.ntmps9
    go_wp2
    go_ret2
    exact ⟨rfl, rfl⟩
  · by_cases h2 : p.size > 400
    · have q1 : ¬ (p.size : Int) < 1 := by omega
      have q2 : (p.size : Int) > 400 := by omega
      have e1 : nmB p d = false := by unfold nmB; rw [decide_eq_false (show ¬ p.size ≤ 400 by omega)]; simp
      unfold nmV nmE
      rw [e1]
      simp only [if_neg (show ¬ (false = true) by decide)]
      clear hdn h1 h2 e1
      go_enter Tryz.func9, Tryz.ntmps9
      go_wp2
      go_ret2
      exact ⟨rfl, rfl⟩
    · have q1 : ¬ (p.size : Int) < 1 := by omega
      have q2 : ¬ (p.size : Int) > 400 := by omega
      have e1 : nmB p d = okData (lst d) := by
        unfold nmB
        rw [decide_eq_true (show 1 ≤ p.size by omega), decide_eq_true (show p.size ≤ 400 by omega)]
        rfl
      unfold nmV nmE
      rw [e1]
      unfold nmT
      have HDN := hid hdn
      clear hdn h1 h2 e1
      cases hq : okData (lst d)
      · rw [hq] at HDN
        simp only [if_neg (show ¬ (false = true) by decide)]
        clear hq
        go_enter Tryz.func9, Tryz.ntmps9
        go_wp2_with (go_at_call 32; refine (HDN.out _).mono ?_; rintro e w4 ⟨rfl, hw⟩; have h3 := hw.symm; subst h3)
        go_ret2
        exact ⟨rfl, rfl⟩
      · rw [hq] at HDN
        simp only [if_true]
        clear hq
        go_enter Tryz.func9, Tryz.ntmps9
        go_wp2_with (go_at_call 32; refine (HDN.out _).mono ?_; rintro e w4 ⟨rfl, hw⟩; have h3 := hw.symm; subst h3)
        go_ret2
        exact ⟨rfl, rfl⟩
/-- What Lay tells, of any numbers. -/
def layE (k m : Int) (n : Nat) : Int := if k < 1 ∨ m < 1 ∨ 16 < k + m then 5 else if 65536 < n then 3 else 0
def layL (k m : Int) (b : List Nat) : List (List Nat) := if layE k m b.length = 0 then fls k.toNat m.toNat b else []
theorem bnd64 {k : Int} (h : (Lit.int .i64 k).wf = true) : -9223372036854775808 ≤ k ∧ k ≤ 9223372036854775807 := by
  have h2 : IntKind.i64.min ≤ k ∧ k ≤ IntKind.i64.max := by simpa [Lit.wf] using h
  exact h2
def LyU (w : World) (E : Int) (Ls : List (List Nat)) (e : Ending) (w' : World) : Prop := ∃ v, e = .returned (.tuple #[v, .int .i64 E]) ∧ ((v = .slice none 0 0 ∧ Ls = []) ∨ LL w.heap.size w' v Ls) ∧ Below w.heap.size w w'
theorem slay_any (po : Option Addr) (c : Nat) (k m : Int) (b : List Nat) (w : World) (hk : (Lit.int .i64 k).wf = true) (hm : (Lit.int .i64 m).wf = true) (hc : b.length ≤ c) (hb : BL w po b) (h8 : ∀ z ∈ b, z < 256) :
    Calls Tryz.prog 6 #[.slice po b.length c, .int .i64 k, .int .i64 m] w (LyU w (layE k m b.length) (layL k m b)) := by
  have hk2 := bnd64 hk
  have hm2 := bnd64 hm
  by_cases h : k < 1 ∨ m < 1 ∨ 16 < k + m
  · have e1 : layE k m b.length = 5 := by unfold layE; rw [if_pos h]
    have e2 : layL k m b = [] := by unfold layL; rw [e1]; rfl
    rw [e1, e2]
    have HS := hid (U.split_err po b.length c k m w hk2.1 hk2.2 hm2.1 hm2.2 h)
    clear hk hm hb h8 h e1 e2 hk2 hm2
    go_enter Tryz.func6, Tryz.ntmps6
    go_wp2_with (go_at_call 27; refine HS.out.mono ?_; rintro e w1 ⟨rfl, hw⟩; have h3 := hw.symm; subst h3)
    go_ret2
    exact ⟨_, rfl, .inl ⟨rfl, rfl⟩, Below.refl _ _⟩
  · obtain ⟨x, rfl⟩ : ∃ x : Nat, k = x := ⟨k.toNat, by omega⟩
    obtain ⟨y, rfl⟩ : ∃ y : Nat, m = y := ⟨m.toNat, by omega⟩
    by_cases hn : 65536 < b.length
    · have e1 : layE x y b.length = 3 := by unfold layE; rw [if_neg h, if_pos hn]
      have e2 : layL x y b = [] := by unfold layL; rw [e1]; rfl
      rw [e1, e2]
      have HS := hid (U.split_long po b.length c x y w (by omega) (by omega) (by omega) hn)
      clear hk hm hb h8 h e1 e2 hk2 hm2
      go_enter Tryz.func6, Tryz.ntmps6
      go_wp2_with (go_at_call 27; refine HS.out.mono ?_; rintro e w1 ⟨rfl, hb1⟩; have HB := hid hb1; clear hb1)
      go_ret2
      exact ⟨_, rfl, .inl ⟨rfl, rfl⟩, HB.out⟩
    · have e1 : layE x y b.length = 0 := by unfold layE; rw [if_neg h, if_neg hn]
      have e2 : layL x y b = fls x y b := by unfold layL; rw [e1, if_pos rfl]; simp
      rw [e1, e2]
      refine (lay_ok po c x y b w (by omega) (by omega) (by omega) (by omega) hc hb h8).mono ?_
      rintro e w' ⟨v, h1, h2, h3⟩
      exact ⟨v, h1, .inr h2, h3⟩
/-- Lists of bytes that append has made. -/
def LX (B : Nat) (w : World) (v : Value) (Ls : List (List Nat)) : Prop := ∃ us : List Value, XB 22 1 B w v (us.map fun u => [u]) ∧ us.length = Ls.length ∧ ∀ (i : Nat) (u : Value) (L : List Nat), us[i]? = some u → Ls[i]? = some L → Buf B w u L
theorem LX.nil (B : Nat) (w : World) : LX B w (.slice none 0 0) [] := ⟨[], XB.nil _ _ _ _, rfl, fun i u L h => by simp at h⟩
theorem LX.form {B : Nat} {w : World} {v : Value} {Ls : List (List Nat)} (h : LX B w v Ls) : ∃ po n c, v = .slice po n c := by
  obtain ⟨us, h1, _⟩ := h
  obtain ⟨po, c, e, _⟩ := h1.form
  exact ⟨po, _, c, e⟩
theorem LX.below {B : Nat} {w w' : World} {v : Value} {Ls : List (List Nat)} (h : LX B w v Ls) (hb : Below w.heap.size w w') : LX B w' v Ls := by
  obtain ⟨us, h1, h2, h3⟩ := h
  exact ⟨us, h1.below hb, h2, fun i u L hu hL => (h3 i u L hu hL).below hb⟩
theorem LX.base {B C : Nat} {w : World} {v : Value} {Ls : List (List Nat)} (h : LX B w v Ls) (hC : C ≤ B) : LX C w v Ls := by
  obtain ⟨us, h1, h2, h3⟩ := h
  exact ⟨us, h1.base hC, h2, fun i u L hu hL => own_base (h3 i u L hu hL) hC⟩
theorem row1_len (us : List Value) : ∀ r ∈ us.map (fun u => [u]), r.length = 1 := fun r hr => by obtain ⟨x, _, rfl⟩ := List.mem_map.1 hr; rfl
theorem LX.push {B : Nat} {w w1 : World} {v u : Value} {Ls : List (List Nat)} {L : List Nat} {g : Nat} (h : LX B w v Ls) (hb : Below w.heap.size w w1) (hg : CAt w1 g #[u] 22) (hu : Buf B w1 u L) (hn : Ls.length ≤ 1000) (hB : B ≤ w.heap.size) :
    ∃ po k c w', (Builtin.append_ #[24, 24] 24 #[v, .slice (some ⟨g, 0, none⟩) 1 1]).run Tryz.prog w1 = .ok (.slice po k c) w' ∧ LX B w' (.slice po k c) (Ls ++ [L]) ∧ Below B w1 w' := by
  obtain ⟨us, h1, h2, h3⟩ := h
  have h1' := h1.below hb
  obtain ⟨pu, cu, eu⟩ := Buf.form hu
  obtain ⟨v', w', hr, hx, hgr, hown⟩ := h1'.app (T := 24) (ty := 24) Tryz.underlying24 U.Tryz.info22 rfl (by omega) g 0 1 [[u]] (by simp) (by intro r hr x hx; simp at hr; subst hr; simp at hx; subst hx; rw [eu]; rfl)
    (by
      intro i r hi j x hj
      have hi0 : i = 0 := by
        rcases Nat.eq_zero_or_pos i with q | q
        · exact q
        · rw [List.getElem?_eq_none (by simp; omega)] at hi; cases hi
      subst hi0
      simp at hi
      subst hi
      have hj0 : j = 0 := by
        rcases Nat.eq_zero_or_pos j with q | q
        · exact q
        · rw [List.getElem?_eq_none (by simp; omega)] at hj; cases hj
      subst hj0
      simp at hj
      subst hj
      rw [hg.cell]; rfl) (by rw [List.length_map, h2]; simp; omega) (by omega) (by have := hb.size; omega)
  have hb2 : Below B w1 w' := h1'.mono (by have := hb.size; omega) hgr
  have keep : ∀ {x : Value} {K : List Nat}, Buf B w1 x K → Buf B w' x K := fun {x K} hx => ownsRow_keep hx fun b hb => hgr.block b (own_ge hx b hb).2 (fun e => by
    rcases hx.2 with ⟨rfl, _⟩ | ⟨g2, cap, cur, rfl, _, hg2, _⟩
    · cases hb
    · cases hb
      rcases h1'.2 with ⟨e2, _⟩ | ⟨g3, cap3, cur3, e2, _, hg3, _⟩
      · rw [e2] at e; cases e
      · rw [e2] at e; cases e; rw [hg2] at hg3; cases hg3)
  obtain ⟨po, c, e, _⟩ := hx.form
  subst e
  refine ⟨po, _, c, w', hr, ⟨us ++ [u], by rw [List.map_append]; exact hx, by simp [h2], fun i x K hi hK => ?_⟩, hb2⟩
  rcases Nat.lt_or_ge i us.length with q | q
  · rw [List.getElem?_append_left q] at hi
    rw [List.getElem?_append_left (by omega)] at hK
    exact keep ((h3 i x K hi hK).below hb)
  · rw [List.getElem?_append_right q] at hi
    rw [List.getElem?_append_right (by omega)] at hK
    have hi0 : i - us.length = 0 := by
      rcases Nat.eq_zero_or_pos (i - us.length) with q | q
      · exact q
      · rw [List.getElem?_eq_none (by simp; omega)] at hi; cases hi
    rw [hi0] at hi
    rw [show i - Ls.length = 0 by omega] at hK
    simp at hi hK
    subst hi hK
    exact keep hu
end Go.Proofs.YtopibkoklagceaaGreat
