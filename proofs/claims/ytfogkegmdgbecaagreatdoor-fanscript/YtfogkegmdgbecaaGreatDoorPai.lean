/- Texts laid into one, cut to what is needed: the remark ahead of each part says what is proved there. -/
import Derived.Test.YtfogkegmdgbecaaGreatDoorPah
import Derived.Deep.QuietTactic
import Derived.BigQuiet
/- Contract of with of the document's drives. -/
namespace Go.Proofs.YtfogkegmdgbecaaGreatDoor
open Go Go.RowKit

theorem gins_has {α : Type} (x : Nm × α) : ∀ (A B : List (Nm × α)), (∃ y ∈ A, bytesBefore x.1 y.1 = true) → gins x (A ++ B) = gins x A ++ B
 | [], _, h => by obtain ⟨y, hy, _⟩ := h; cases hy
 | a :: r, B, h => by
  show gins x (a :: (r ++ B)) = gins x (a :: r) ++ B
  unfold gins
  by_cases e : bytesBefore x.1 a.1 = true
  ·simp [e]
  ·have h2 : ∃ y ∈ r, bytesBefore x.1 y.1 = true := by
     obtain ⟨y, hy, hb⟩ := h
     rcases List.mem_cons.1 hy with rfl | hy
     ·exact absurd hb e
     ·exact ⟨y, hy, hb⟩
   simp [e, gins_has x r B h2]
theorem gins_no {α : Type} (x : Nm × α) : ∀ (A B : List (Nm × α)), (∀ y ∈ A, bytesBefore x.1 y.1 = false) → gins x (A ++ B) = A ++ gins x B
 | [], _, _ => rfl
 | a :: r, B, h => by
  show gins x (a :: (r ++ B)) = a :: (r ++ gins x B)
  conv => lhs; unfold gins
  have e := h a (by simp)
  simp [e, gins_no x r B fun y hy => h y (by simp [hy])]
theorem gins_end {α : Type} (x : Nm × α) (A : List (Nm × α)) (h : ∀ y ∈ A, bytesBefore x.1 y.1 = false) : gins x A = A ++ [x] := by
 have := gins_no x A [] h
 simpa [gins] using this
/-- Files of which the first k have been gone through, with x among them (b), or not yet. -/
def soFar (x : Nm × Ent) (G : List (Nm × Ent)) (k : Nat) (b : Bool) : List (Nm × Ent) := if b then gins x (G.take k) else G.take k
structure SoF (x : Nm × Ent) (G : List (Nm × Ent)) (k : Nat) (b : Bool) : Prop where
 t : b = true → ∃ y ∈ G.take k, bytesBefore x.1 y.1 = true
 f : b = false → ∀ y ∈ G.take k, bytesBefore x.1 y.1 = false
theorem sof_in {x : Nm × Ent} {G : List (Nm × Ent)} {k : Nat} (h : SoF x G k true) (hk : k < G.length) : SoF x G (k + 1) true ∧ soFar x G (k + 1) true = soFar x G k true ++ [atL G k] := by
 obtain ⟨y, hy, hb⟩ := h.t rfl
 refine ⟨⟨fun _ => ⟨y, ?_, hb⟩, fun e => by cases e⟩, ?_⟩
 ·rw [take_at G hk]; simp [hy]
 ·unfold soFar; rw [if_pos rfl, if_pos rfl, take_at G hk, gins_has _ _ _ ⟨y, hy, hb⟩]
theorem sof_now {x : Nm × Ent} {G : List (Nm × Ent)} {k : Nat} (h : SoF x G k false) (hk : k < G.length) (hb : bytesBefore x.1 (atL G k).1 = true) : SoF x G (k + 1) true ∧ soFar x G (k + 1) true = (soFar x G k false ++ [x]) ++ [atL G k] := by
 have h2 := h.f rfl
 refine ⟨⟨fun _ => ⟨atL G k, by rw [take_at G hk]; simp, hb⟩, fun e => by cases e⟩, ?_⟩
 unfold soFar; rw [if_pos rfl, if_neg (by simp), take_at G hk, gins_no _ _ _ h2]; simp [gins, hb]
theorem sof_not {x : Nm × Ent} {G : List (Nm × Ent)} {k : Nat} (h : SoF x G k false) (hk : k < G.length) (hb : bytesBefore x.1 (atL G k).1 = false) : SoF x G (k + 1) false ∧ soFar x G (k + 1) false = soFar x G k false ++ [atL G k] := by
 have h2 := h.f rfl
 refine ⟨⟨fun e => (by cases e), fun _ y hy => ?_⟩, ?_⟩
 ·rw [take_at G hk] at hy
  rcases List.mem_append.1 hy with hy | hy
  ·exact h2 y hy
  ·have : y = atL G k := by simpa using hy
   rw [this]; exact hb
 ·unfold soFar; rw [if_neg (by simp), if_neg (by simp), take_at G hk]
theorem sof_end {x : Nm × Ent} {G : List (Nm × Ent)} {b : Bool} (h : SoF x G G.length b) : gins x G = if b then soFar x G G.length b else soFar x G G.length b ++ [x] := by
 cases b
 ·have h2 := h.f rfl
  rw [List.take_length] at h2
  simp [soFar, gins_end x G h2]
 ·simp [soFar]
theorem sof_len {x : Nm × Ent} {G : List (Nm × Ent)} {k : Nat} {b : Bool} : (soFar x G k b).length ≤ G.length + 1 := by
 unfold soFar
 split
 ·rw [(gins_perm x _).length_eq]; simp [List.length_take]; omega
 ·simp [List.length_take]; omega
theorem less_before : ∀ a b : Nm, Op.bytesLess a b = bytesBefore a b
 | [], [] => rfl
 | [], _ :: _ => rfl
 | _ :: _, [] => rfl
 | a :: r, b :: s => by simp [Op.bytesLess, bytesBefore, less_before r s]
theorem FilL.at {B : Nat} {w : World} {v : Value} {L : List (Nm × Ent)} (h : FilL B w v L) {i : Nat} (hi : i < L.length) : ∃ g c, v = .slice (some ⟨g, 0, none⟩) L.length c ∧ w.cell? ⟨g, i * 3, none⟩ = some (sv (atL L i).1) ∧ w.cell? ⟨g, i * 3 + 1, none⟩ = some (atL L i).2.v ∧ w.cell? ⟨g, i * 3 + 2, none⟩ = some (.bool (atL L i).2.l) ∧ ∀ j, w.frozen? ⟨g, j, none⟩ = false := by
 rcases h.2 with ⟨_, h0⟩ | ⟨g, cap, cur, rfl, _, hg, h1, _, h3, h4⟩
 ·omega
 ·have hc : CAt w g cur 134 := hg
  have get : ∀ j, j < 3 → w.cell? ⟨g, i * 3 + j, none⟩ = (fent (atL L i))[j]? := fun j hj => by
   rw [hc.cell, ← flat_get L i j hi hj, ← h4, List.getElem?_take, if_pos (by omega)]
   simp
  exact ⟨g, cap, rfl, get 0 (by omega), get 1 (by omega), get 2 (by omega), fun j => hc.free j⟩
set_option maxHeartbeats 1000000 in
set_option maxRecDepth 100000 in
theorem with_any {w : World} {R : Nat → Prop} {q : Nat} {v : Value} {fu : Option Nat} {d : Pd} {L : List (Nm × Ent)} (h : RfC w R q v fu d L) (s : Nm) (e : Ent) (hl : L.length < 999990) (he : w.ownsRow 0 5 1 e.v e.b.length (e.b.map u8)) (heR : ∀ b, e.v.ownBlock = some b → R b) :
  Calls Tryz.prog 102 #[ptr q, .agg #[sv s, e.v, .bool e.l]] w fun e1 w' => e1 = .returned (.tuple #[]) ∧ (∃ v2, RfC w' (grw R w w') q v2 fu { d with F := gput d.F s e.fi } (gput L s e)) ∧ Only (fun b => b = q) w w' := by
 have HW := hid (fun o => without_any (h.alloc o) s (by omega))
 have HLG : Hid ((gdel L s).length < 999990) := hid (by have := len_del L s; omega)
 obtain ⟨pe, ce, hev⟩ := own_form he
 have HE := hid he
 have HER := hid heR
 have H := hid h
 clear h he heR
 have HXV : Hid (∃ po n c, ((s, e) : Nm × Ent).2.v = .slice po n c) := hid ⟨_, _, _, hev⟩
 have HEND : Hid (∀ w1 W v4, Below w.heap.size w w1 → Below w1.heap.size w1 W → FilL w1.heap.size W v4 (gput L s e) → (∃ v2, RfC (W.setCell ⟨q, 1, none⟩ v4) (grw R w (W.setCell ⟨q, 1, none⟩ v4)) q v2 fu { d with F := gput d.F s e.fi } (gput L s e)) ∧ Only (fun b => b = q) w (W.setCell ⟨q, 1, none⟩ v4)) := hid (by
  intro w1 W v4 hb1 hbW hF
  have hb := below_on _ _ hb1 hbW
  have h1 := H.out.below hb
  refine ⟨⟨v4, ?_⟩, ?_⟩
  ·refine h1.setL v4 (gput L s e) (own_base hF (Nat.zero_le _)) (fun x hx => ?_) (R2 := grw R w (W.setCell ⟨q, 1, none⟩ v4)) (fun b hb => Or.inl hb) (fun b hb' => Or.inr ?_) (fun x hx b hb' => Or.inl ?_) (fun b hb' => ?_) ?_
   ·rcases mem_put.1 hx with rfl | ⟨hx, _⟩
    ·exact ownsRow_keep HE.out fun b hb' => hb.block b (own_ge HE.out b hb').2
    ·exact h1.by_ x hx
   ·have h2 := own_ge hF b hb'
    rw [setCell_size]
    exact ⟨Nat.le_trans hb1.size h2.1, h2.2⟩
   ·rcases mem_put.1 hx with rfl | ⟨hx, _⟩
    ·exact HER.out b hb'
    ·exact h1.rb x hx b hb'
   ·rcases hb' with hb' | hb'
    ·exact h1.lt b hb'
    ·rw [setCell_size] at hb'; exact hb'.2
   ·rw [H.out.fs, ← gput_map]
  ·exact (Only.of_below hb).trans (Only.set _ _ _ rfl))
 obtain ⟨ev, eb, el⟩ := e
 simp only at hev
 subst hev
 generalize hX : ((s, ⟨.slice pe eb.length ce, eb, el⟩) : Nm × Ent) = X at *
 have hx1 : X.1 = s := by rw [← hX]
 have hx2 : X.2.v = .slice pe eb.length ce := by rw [← hX]
 have hx3 : X.2.l = el := by rw [← hX]
 have HX := hid (And.intro hx1 (And.intro hx2 hx3))
 have HGP : Hid (gput L s ⟨.slice pe eb.length ce, eb, el⟩ = gins X (gdel L s)) := hid (by rw [← hX]; rfl)
 have HGS : Hid (∀ y ∈ gdel L s, ∃ po n c, y.2.v = .slice po n c) := hid (fun y hy => by obtain ⟨po, c, e⟩ := H.out.slice (mem_del.1 hy).1; exact ⟨_, _, _, e⟩)
 clear hX hx1 hx2 hx3 HE HER
 generalize hG : gdel L s = G at *
 clear hG
 go_enter Tryz.func102, Tryz.ntmps102
 go_wp2_with (go_at_call 123; refine (HW.out _).mono ?_; rintro e w1 ⟨v6, rfl, hF6, hb1⟩; have HF6 := hid hF6; have HB1 := hid hb1; obtain ⟨po6, c6, hv6⟩ := own_form hF6; subst hv6; clear hF6 hb1)
 have HC1 : Hid (CAt w1 w.heap.size #[sv s, .slice pe eb.length ce, .bool el] 134) := hid ((CAt.made w _ _).below HB1.out)
 have hlG := HLG.out
 clear HW
 go_loopw [4, 5, 7] (fun v4 v5 v7 wr => ∃ (k : Nat) (b : Bool), k ≤ G.length ∧ v5 = .bool b ∧ v7 = .int .i64 (k : Int) ∧ SoF X G k b ∧ FilL w1.heap.size wr v4 (soFar X G k b) ∧ Below w1.heap.size w1 wr) (fun _ _ v _ => (G.length - intOf v).toNat)
 case atStart => exact ⟨0, false, by omega, rfl, rfl, ⟨fun e => (by cases e), fun _ y hy => (by simp at hy)⟩, FilL.nil _ _, Below.refl _ _⟩
 case round =>
  obtain ⟨k, b, hk, rfl, rfl, hS, hF, hb⟩ := hrel
  obtain ⟨po4, c4, hv4⟩ := own_form hF
  subst hv4
  have HF := hid hF
  have HS := hid hS
  have HB := hid hb
  have hcb := HC1.out.below hb
  have b0 : wr.cell? ⟨w.heap.size, 0, none⟩ = some (sv s) := hcb.cell 0
  have b1 : wr.cell? ⟨w.heap.size, 1, none⟩ = some (.slice pe eb.length ce) := hcb.cell 1
  have b2 : wr.cell? ⟨w.heap.size, 2, none⟩ = some (.bool el) := hcb.cell 2
  clear hF hS hb hcb
  by_cases hlt : k < G.length
  ·have hlt' : (k : Int) < (G.length : Int) := by omega
   obtain ⟨g6, cc6, hv6, k0, k1, k2, _⟩ := (HF6.out.below HB.out).at hlt
   cases hv6
   obtain ⟨py, ny, cy, hyv⟩ := HGS.out _ (atL_mem hlt)
   have HY := hid hyv
   generalize hY : atL G k = Y at *
   have HYE := hid hY
   obtain ⟨yn, yv, yb, yl⟩ := Y
   simp only at k0 k1 k2 hyv
   subst hyv
   clear hY
   cases b
   ·cases hbb : bytesBefore X.1 (atL G k).1
    ·obtain ⟨hS2, hE2⟩ := sof_not HS.out hlt hbb
     have HS2 := hid hS2
     have HE2 := hid hE2
     clear hS2 hE2
     rw [HYE.out, HX.out.1, ← less_before] at hbb
     simp only at hbb
     go_wp2
     go_quiet (fail)
     obtain ⟨v5, w5, hrun, hF5, hg5⟩ := (HF.out.below (below_drewN wr nq)).push (atL G k) (by rw [HYE.out]; exact ⟨_, _, _, rfl⟩) (by have := @sof_len X G k false; have := HLG.out; omega) HB.out.size
     rw [HYE.out] at hrun hg5
     have HRUN := hid hrun
     have HF5 : Hid (FilL w1.heap.size w5 v5 (soFar X G (k + 1) false)) := hid (by rw [HE2.out]; exact hF5)
     have HG5 := hid (below_on_grown (below_on _ _ (below_on _ _ HB.out (below_drewN wr nq)) ((Below.refl _ _).alloc (Nat.le_refl _) _)) hg5 (fun b hb => (own_ge HF.out b hb).1))
     clear hrun hF5 hg5
     simp only at HRUN
     go_wp2_with (at_builtin; refine wpList_append_run _ _ 75 rfl rfl _ _ v5 rfl rfl HRUN.out ?_)
     go_roundw
     case rel => exact ⟨k + 1, false, by omega, rfl, by go_num, HS2.out, HF5.out, HG5.out⟩
     case measure => simp [intOf]; omega
    ·obtain ⟨hS2, hE2⟩ := sof_now HS.out hlt hbb
     have HS2 := hid hS2
     have HE2 := hid hE2
     clear hS2 hE2
     rw [HYE.out, HX.out.1, ← less_before] at hbb
     simp only at hbb
     go_wp2
     go_quiet (fail)
     obtain ⟨v5, w5, hrun, hF5, hg5⟩ := (HF.out.below (below_drewN wr nq)).push X ⟨_, _, _, HX.out.2.1⟩ (by have := @sof_len X G k false; have := HLG.out; omega) HB.out.size
     rw [HX.out.1, HX.out.2.1, HX.out.2.2] at hrun hg5
     have HRUN := hid hrun
     have hML : (soFar X G k false ++ [X]).length ≤ 1000000 := by rw [List.length_append]; have := @sof_len X G k false; have := HLG.out; simp; omega
     generalize hM : soFar X G k false ++ [X] = M at *
     obtain ⟨po5, c5, hv5⟩ := own_form hF5
     subst hv5
     have HRUN := hid hrun
     have HF5 := hid hF5
     have hB5 := (below_on_grown (below_on _ _ (below_on _ _ HB.out (below_drewN wr nq)) ((Below.refl _ _).alloc (Nat.le_refl _) _)) hg5 (fun b hb => (own_ge HF.out b hb).1))
     have HB5 := hid hB5
     obtain ⟨g7, cc7, hv7, m0, m1, m2, _⟩ := (HF6.out.below hB5).at hlt
     cases hv7
     rw [HYE.out] at m0 m1 m2
     simp only at m0 m1 m2
     obtain ⟨v8, w8, hrun8, hF8, hg8⟩ := hF5.push (atL G k) (by rw [HYE.out]; exact ⟨_, _, _, rfl⟩) hML hB5.size
     rw [HYE.out] at hrun8 hg8
     have HRUN8 := hid hrun8
     have HF8 : Hid (FilL w1.heap.size w8 v8 (soFar X G (k + 1) true)) := hid (by rw [HE2.out]; exact hF8)
     have HB8 := hid (below_on_grown (below_on _ _ HB5.out ((Below.refl _ _).alloc (Nat.le_refl _) _)) hg8 (fun b hb => (own_ge HF5.out b hb).1))
     clear hrun hF5 hg5 hB5 hrun8 hF8 hg8 hM hML
     simp only at HRUN HRUN8
     have t1 : True := trivial
     go_wp2_with (first
      | (at_builtin; have _t := t1; refine wpList_append_run _ _ 75 rfl rfl _ _ _ rfl rfl HRUN.out ?_; clear t1)
      | (at_builtin; refine wpList_append_run _ _ 75 rfl rfl _ _ v8 rfl rfl HRUN8.out ?_))
     go_roundw
     case rel => exact ⟨k + 1, true, by omega, rfl, by go_num, HS2.out, HF8.out, HB8.out⟩
     case measure => simp [intOf]; omega
   ·obtain ⟨hS2, hE2⟩ := sof_in HS.out hlt
    have HS2 := hid hS2
    have HE2 := hid hE2
    clear hS2 hE2
    go_wp2
    go_quiet (fail)
    obtain ⟨v5, w5, hrun, hF5, hg5⟩ := (HF.out.below (below_drewN wr nq)).push (atL G k) (by rw [HYE.out]; exact ⟨_, _, _, rfl⟩) (by have := @sof_len X G k true; have := HLG.out; omega) HB.out.size
    rw [HYE.out] at hrun hg5
    have HRUN := hid hrun
    have HF5 : Hid (FilL w1.heap.size w5 v5 (soFar X G (k + 1) true)) := hid (by rw [HE2.out]; exact hF5)
    have HG5 := hid (below_on_grown (below_on _ _ (below_on _ _ HB.out (below_drewN wr nq)) ((Below.refl _ _).alloc (Nat.le_refl _) _)) hg5 (fun b hb => (own_ge HF.out b hb).1))
    clear hrun hF5 hg5
    simp only at HRUN
    go_wp2_with (at_builtin; refine wpList_append_run _ _ 75 rfl rfl _ _ v5 rfl rfl HRUN.out ?_)
    go_roundw
    case rel => exact ⟨k + 1, true, by omega, rfl, by go_num, HS2.out, HF5.out, HG5.out⟩
    case measure => simp [intOf]; omega
  ·have hlt' : ¬ (k : Int) < (G.length : Int) := by omega
   have ek : k = G.length := by omega
   subst ek
   have HEN := hid (sof_end HS.out)
   cases b
   ·obtain ⟨v5, w5, hrun, hF5, hg5⟩ := HF.out.push X ⟨_, _, _, HX.out.2.1⟩ (by have := @sof_len X G G.length false; have := HLG.out; omega) HB.out.size
    rw [HX.out.1, HX.out.2.1, HX.out.2.2] at hrun hg5
    have HEN2 : Hid (gins X G = soFar X G G.length false ++ [X]) := hid (by rw [HEN.out]; rfl)
    generalize soFar X G G.length false ++ [X] = M at *
    obtain ⟨po5, c5, hv5⟩ := own_form hF5
    subst hv5
    have HRUN := hid hrun
    have HF5 : Hid (FilL w1.heap.size w5 _ (gput L s ⟨.slice pe eb.length ce, eb, el⟩)) := hid (by rw [HGP.out, HEN2.out]; exact hF5)
    have HG5 := hid (below_on_grown (below_on _ _ HB.out ((Below.refl _ _).alloc (Nat.le_refl _) _)) hg5 (fun b hb => (own_ge HF.out b hb).1))
    have HZ := hid (HEND.out w1 w5 _ (below_on _ _ ((Below.refl _ _).alloc (Nat.le_refl _) _) HB1.out) HG5.out HF5.out)
    have hq := (H.out.below (below_on _ _ (below_on _ _ ((Below.refl _ _).alloc (Nat.le_refl _) _) HB1.out) HG5.out))
    have cq1 : w5.cell? ⟨q, 1, none⟩ = some v := hq.c.cell 1
    have zq1 : w5.frozen? ⟨q, 1, none⟩ = false := hq.c.free 1
    clear hrun hF5 hg5 hq
    go_wp2_with (at_builtin; refine wpList_append_run _ _ 75 rfl rfl _ _ _ rfl rfl HRUN.out ?_)
    go_end0
    exact ⟨rfl, HZ.out⟩
   ·have HF5 : Hid (FilL w1.heap.size wr (.slice po4 (soFar X G G.length true).length c4) (gput L s ⟨.slice pe eb.length ce, eb, el⟩)) := hid (by rw [HGP.out, HEN.out]; exact HF.out)
    have HZ := hid (HEND.out w1 wr _ (below_on _ _ ((Below.refl _ _).alloc (Nat.le_refl _) _) HB1.out) HB.out HF5.out)
    have hq := (H.out.below (below_on _ _ (below_on _ _ ((Below.refl _ _).alloc (Nat.le_refl _) _) HB1.out) HB.out))
    have cq1 : wr.cell? ⟨q, 1, none⟩ = some v := hq.c.cell 1
    have zq1 : wr.frozen? ⟨q, 1, none⟩ = false := hq.c.free 1
    clear hq
    go_wp2
    go_end0
    exact ⟨rfl, HZ.out⟩
end Go.Proofs.YtfogkegmdgbecaaGreatDoor

/- Copies; what a change of the document's drives leaves; contracts of Delete and Read. -/
namespace Go.Proofs.YtfogkegmdgbecaaGreatDoor
open Go Go.RowKit

theorem grown_made {w w' : World} {o : Obj} (hg : (w.alloc o).grownBy w' (some w.heap.size)) : Below w.heap.size w w' :=
 below_on_grown ((Below.refl _ _).alloc (Nat.le_refl _) _) hg fun b hb => by cases hb; exact Nat.le_refl _
/-- append([]byte{}, b...) -/
theorem copyB {w : World} {po : Option Addr} {bs : List Nat} (h : BAt w po bs) (c : Nat) (hn : bs.length ≤ 1000000000) :
  ∃ po' c' w', (Builtin.append_ #[30, 30] 30 #[.slice (some ⟨w.heap.size, 0, none⟩) 0 0, .slice po bs.length c]).run Tryz.prog (w.alloc (.cells #[] 5)) = .ok (.slice po' bs.length c') w' ∧ w'.ownsRow w.heap.size 5 1 (.slice po' bs.length c') bs.length (bs.map u8) ∧ Below w.heap.size w w' := by
 have h0 : (w.alloc (.cells #[] 5)).ownsRow w.heap.size 5 1 (.slice (some ⟨w.heap.size, 0, none⟩) 0 0) 0 [] := World.ownsRow_made w #[] 0 (Nat.le_refl _) (by unfold maxLen; omega) (by simp)
 have hi5 : (Tryz.prog.info? 5).map (fun i => (i.zero, i.size, i.bytes)) = some (some (.int .u8 0), 1, 1) := by kernel_rfl
 obtain ⟨i0, hi0, hz0, hz1, hz2⟩ := info_parts hi5
 rcases h with ⟨rfl, rfl⟩ | ⟨a, rfl, h⟩
 ·refine ⟨some ⟨w.heap.size, 0, none⟩, 0, _, ?_, h0, (Below.refl _ _).alloc (Nat.le_refl _) _⟩
  simp [Builtin.append_, run_underlying Tryz.underlying30, sizeOf, typeInfo, hi0, Builtin.lenOf, Builtin.firstCells, storeCells]
 ·obtain ⟨v', w', hr, h3, h4, _, _⟩ := run_append_own_at (P := Tryz.prog) (w.alloc (.cells #[] 5)) w.heap.size 30 30 5 i0 (.int .u8 0) 1 1 Tryz.underlying30 hi0 hz0 hz1 hz2 rfl (by decide) _ 0 [] h0 a bs.length c (bs.map u8) (by simp) (fun j u hj => by
    have hjl : j < bs.length := by
     rcases Nat.lt_or_ge j bs.length with q | q
     ·exact q
     ·rw [List.getElem?_eq_none (by simpa using q)] at hj; cases hj
    have e : u = u8 (bs.getD j 0) := by simp [hjl] at hj; rw [← hj]; simp [List.getD, hjl]
    have hc := h j hjl
    rw [e]
    exact (World.cell?_of_block (((Below.refl w.heap.size w).alloc (Nat.le_refl _) _).block (a.add j).block (cell_lt' (by rw [hc]; simp)))).trans hc) (by intro u hu; simp at hu; obtain ⟨k, _, rfl⟩ := hu; rfl) (by unfold maxLen; omega) (by omega) (by rw [size_al]; omega)
  have h3' : w'.ownsRow w.heap.size 5 1 v' bs.length (bs.map u8) := by simpa using h3
  obtain ⟨po', c', rfl⟩ := own_form h3'
  exact ⟨po', c', w', hr, h3', grown_made h4⟩
/-- append([]File{}, l...) -/
theorem copyF {w : World} {B : Nat} {v : Value} {L : List (Nm × Ent)} (h : FilL B w v L) (hL : ∀ x ∈ L, ∃ po n c, x.2.v = .slice po n c) (hn : L.length ≤ 1000000) :
  ∃ g c' w', (Builtin.append_ #[75, 75] 75 #[.slice (some ⟨w.heap.size, 0, none⟩) 0 0, v]).run Tryz.prog (w.alloc (.cells #[] 134)) = .ok (.slice (some ⟨g, 0, none⟩) L.length c') w' ∧ FilL w.heap.size w' (.slice (some ⟨g, 0, none⟩) L.length c') L ∧ Below w.heap.size w w' := by
 have h0 : (w.alloc (.cells #[] 134)).ownsRow w.heap.size 134 3 (.slice (some ⟨w.heap.size, 0, none⟩) 0 0) 0 [] := World.ownsRow_made w #[] 0 (Nat.le_refl _) (by unfold maxLen; omega) (by simp)
 obtain ⟨i0, hi0, hz0, hz1, hz2⟩ := info_parts Tryz.infoFile
 rcases h.2 with ⟨rfl, hl0⟩ | ⟨g, cap, cur, rfl, hbg, hg, h1, hm, h3, h4⟩
 ·have : L = [] := List.eq_nil_of_length_eq_zero hl0
  subst this
  refine ⟨w.heap.size, 0, _, ?_, h0, (Below.refl _ _).alloc (Nat.le_refl _) _⟩
  simp [Builtin.append_, run_underlying Tryz.underlying75, sizeOf, typeInfo, hi0, Builtin.lenOf, Builtin.firstCells, storeCells]
 ·have hc : CAt w g cur 134 := hg
  obtain ⟨v', w', hr, k3, k4, k5, _⟩ := run_append_own_at (P := Tryz.prog) (w.alloc (.cells #[] 134)) w.heap.size 75 75 134 i0 _ 3 48 Tryz.underlying75 hi0 hz0 hz1 hz2 rfl (by decide) _ 0 [] h0 ⟨g, 0, none⟩ L.length cap (flat L) (by rw [flat_len]) (fun j u hj => by
   rw [add_none, Nat.zero_add]
   rw [World.cell?_of_block (((Below.refl w.heap.size w).alloc (Nat.le_refl _) _).block g hc.lt), hc.cell]
   have hjl : j < L.length * 3 := by
    rcases Nat.lt_or_ge j (L.length * 3) with q | q
    ·exact q
    ·rw [List.getElem?_eq_none (by rw [flat_len]; exact q)] at hj; cases hj
   rw [← hj, ← h4, List.getElem?_take, if_pos hjl]; simp) (fun u hu => by
   have : ∀ (M : List (Nm × Ent)), (∀ x ∈ M, ∃ po n c, x.2.v = .slice po n c) → ∀ u ∈ flat M, u.oneCell' = true := fun M => by
    induction M with
    | nil => intro _ u hu; cases hu
    | cons p r ih =>
     intro hM u hu
     simp only [flat, List.mem_cons] at hu
     rcases hu with rfl | rfl | rfl | hu
     ·rfl
     ·obtain ⟨po, n, c, e⟩ := hM p (by simp); rw [e]; rfl
     ·rfl
     ·exact ih (fun x hx => hM x (by simp [hx])) u hu
   exact this L hL u hu) (by unfold maxLen; omega) (by omega) (by rw [size_al]; omega)
  have k3' : FilL w.heap.size w' v' L := by unfold FilL; simpa using k3
  rcases k3'.2 with ⟨e, hl0⟩ | ⟨g2, cap2, cur2, rfl, _⟩
  ·exfalso
   have := (k5.1 e).1
   cases this
  ·exact ⟨g2, cap2, w', hr, k3', grown_made k4⟩
def RDone (w : World) (R : Nat → Prop) (q : Nat) (fu : Option Nat) (r : Nat × Pd × Fs) (e : Ending) (w' : World) : Prop :=
 e = .returned (.int .i64 (r.1 : Int)) ∧ ∃ R2, Grows w R R2 ∧ RfAt w' R2 q fu r.2.1 ∧ FuR w' R2 fu r.2.2 ∧ Only (fun b => R b ∨ fu = some b) w w'
section
variable {w w' : World} {R : Nat → Prop} {q : Nat} {v : Value} {fu : Option Nat} {d : Pd} {L : List (Nm × Ent)} {f : Fs}
theorem rdone_same (h : RfC w R q v fu d L) (hf : FuR w R fu f) {r : Nat × Pd × Fs} (n : Nat) (hr : r = (n, d, f)) (hb : Below w.heap.size w w') : RDone w R q fu r (.returned (.int .i64 (n : Int))) w' := by
 subst hr
 exact ⟨rfl, R, Grows.refl _ _, ⟨v, L, h.below hb⟩, hf.below hb, Only.of_below hb⟩
/-- What burns leaves. -/
structure Burnt (w0 w1 : World) (R : Nat → Prop) (q : Nat) (v : Value) (fu : Option Nat) (d : Pd) (L : List (Nm × Ent)) (f : Fs) : Prop where
 rf : RfC w1 R q v fu d L
 fz : FuR w1 R fu (burn f)
 on : Only (fun b => b = q ∨ fu = some b) w0 w1
theorem rdone_not {w0 : World} (hR : R q) (hb : Below w.heap.size w w0) (hlt : letsF f = false) (F2 : List (Nm × Fi)) (hB : Burnt w0 w' R q v fu d L f) : RDone w R q fu (d.chg f F2) (.returned (.int .i64 11)) w' := by
 unfold Pd.chg
 rw [hlt]
 exact ⟨rfl, R, Grows.refl _ _, ⟨v, L, hB.rf⟩, hB.fz, (Only.of_below hb).then hB.on (fun b _ (e : b = q ∨ fu = some b) => e.elim (fun e => Or.inl (by rw [e]; exact hR)) Or.inr)⟩
theorem FuR.grow (h : FuR w R fu f) (ho : Only (fun b => b = q) w w') (hR : R q) {R2 : Nat → Prop} (hG : ∀ b, R2 b → R b ∨ w.heap.size ≤ b) : FuR w' R2 fu f := by
 match fu, f, h with
 | none, none, _ => trivial
 | some p, some (n, g), h => exact ⟨h.1.keep (ho.block p h.1.lt fun e => h.2.1 (e ▸ hR)), fun hp => (hG p hp).elim h.2.1 (fun hle => by have := h.1.lt; omega), h.2.2⟩
/-- A drive's list is laid anew. -/
theorem RfC.relist (h : RfC w R q v fu d L) {W : World} (hb : Below w.heap.size w W) {v4 : Value} {L2 : List (Nm × Ent)} (hF : FilL w.heap.size W v4 L2) (hL : ∀ x ∈ L2, W.ownsRow 0 5 1 x.2.v x.2.b.length (x.2.b.map u8) ∧ ∀ b, x.2.v.ownBlock = some b → R b ∨ w.heap.size ≤ b) {F2 : List (Nm × Fi)} (hF2 : F2 = gmap Ent.fi L2) :
  RfC (W.setCell ⟨q, 1, none⟩ v4) (grw R w (W.setCell ⟨q, 1, none⟩ v4)) q v4 fu { d with F := F2 } L2 ∧ Only (fun b => b = q) w (W.setCell ⟨q, 1, none⟩ v4) := by
 have h1 := h.below hb
 refine ⟨?_, (Only.of_below hb).trans (Only.set _ _ _ rfl)⟩
 refine h1.setL v4 L2 (own_base hF (Nat.zero_le _)) (fun x hx => (hL x hx).1) (R2 := grw R w (W.setCell ⟨q, 1, none⟩ v4)) (fun b hb => Or.inl hb) (fun b hb' => Or.inr ?_) (fun x hx b hb' => ?_) (fun b hb' => ?_) hF2
 ·rw [setCell_size]; exact own_ge hF b hb'
 ·rcases (hL x hx).2 b hb' with hr | hr
  ·exact Or.inl hr
  ·exact Or.inr ⟨hr, by rw [setCell_size]; exact (own_ge (hL x hx).1 b hb').2⟩
 ·rcases hb' with hb' | hb'
  ·exact h1.lt b hb'
  ·rw [setCell_size] at hb'; exact hb'.2
theorem rdone_chg {w0 w1 : World} (h : RfC w R q v fu d L) (hb0 : Below w.heap.size w w0) (hlt : letsF f = true) (hB : Burnt w0 w1 R q v fu { d with ops := d.ops + 1 } L f) {W2 : World} {v4 : Value} {L2 : List (Nm × Ent)} {F2 : List (Nm × Fi)}
  (hr : RfC W2 (grw R w1 W2) q v4 fu { d with ops := d.ops + 1, F := F2 } L2 ∧ Only (fun b => b = q) w1 W2) : RDone w R q fu (d.chg f F2) (.returned (.int .i64 0)) W2 := by
 unfold Pd.chg
 rw [hlt]
 have hs : w.heap.size ≤ w1.heap.size := Nat.le_trans hb0.size hB.on.size
 refine ⟨rfl, grw R w1 W2, ⟨fun b hb => Or.inl hb, fun b hb => hb.imp id fun e => Nat.le_trans hs e.1⟩, ⟨v4, L2, hr.1⟩, hB.fz.grow hr.2 h.sp fun b hb => hb.imp id (·.1), ?_⟩
 exact ((Only.of_below hb0).then hB.on (fun b _ e => e.imp (fun e => e ▸ h.sp) id)).then hr.2 (fun b _ e => Or.inl (e ▸ h.sp))
theorem gget_fi (h : RfC w R q v fu d L) (s : Nm) : gget d.F s = (gget L s).map Ent.fi := by rw [h.fs, gget_map]
set_option maxHeartbeats 1000000 in
set_option maxRecDepth 100000 in
theorem rdelete_any (h : RfC w R q v fu d L) (hf : FuR w R fu f) (s : Nm) (hs : s.length ≤ maxLen) (ho : d.ops < 1000000000000) (hl : L.length < 999000) :
  Calls Tryz.prog 81 #[ptr q, sv s] w (RDone w R q fu (d.delete f s)) := by
 have H := hid h
 have HF := hid hf
 have HR := hid (fun (o : Obj) vn hv => ready_any (h.alloc o) (hf.alloc o) vn [s] hv (by simp) (by simpa using hs))
 have HA := hid (fun (o : Obj) => at_any (h.alloc o) s (by omega))
 have HBU := hid (fun (o : Obj) => burns_any (h.alloc o) (hf.alloc o) ho)
 have HGG := gget_fi h s
 have HB0 := hid (fun (o : Obj) => (Below.refl w.heap.size w).alloc (Nat.le_refl _) o)
 clear h hf
 by_cases ha : d.ans f [s] = 0
 ·rw [ha] at HR
  cases hi : idx L s with
  | none =>
   have HE : Hid (d.delete f s = (6, d, f)) := hid (by unfold Pd.delete; rw [if_neg (by omega), HGG, idx_miss hi]; rfl)
   have e : atI L s = -1 := by unfold atI; rw [hi]
   rw [e] at HA
   clear HGG
   go_enter Tryz.func81, Tryz.ntmps81
   go_wp2_with (first
    | (go_at_call 100; refine (HR.out _ _ (txt_one _ _ _ _ _ rfl)).mono ?_; rintro e w' ⟨rfl, hw'⟩; have hw2 := hw'.symm; subst hw2)
    | (go_at_call 95; refine (HA.out _).mono ?_; rintro e w' ⟨rfl, hw'⟩; have hw2 := hw'.symm; subst hw2))
   go_ret
   exact rdone_same H.out HF.out 6 HE.out (HB0.out _)
  | some i =>
   have HE : Hid (d.delete f s = d.chg f (gdel d.F s)) := hid (by unfold Pd.delete; rw [if_neg (by omega), HGG, (idx_get hi).2.2]; rfl)
   have e : atI L s = (i : Int) := by unfold atI; rw [hi]
   rw [e] at HA
   have hni : ¬ (i : Int) < 0 := by omega
   clear HGG
   cases hlt : letsF f
   ·rw [hlt] at HBU
    go_enter Tryz.func81, Tryz.ntmps81
    go_wp2_with (first
     | (go_at_call 100; refine (HR.out _ _ (txt_one _ _ _ _ _ rfl)).mono ?_; rintro e w' ⟨rfl, hw'⟩; have hw2 := hw'.symm; subst hw2)
     | (go_at_call 95; refine (HA.out _).mono ?_; rintro e w' ⟨rfl, hw'⟩; have hw2 := hw'.symm; subst hw2)
     | (go_at_call 101; refine (HBU.out _).mono ?_; rintro e w1 ⟨rfl, hr, hfz, hon, _⟩; have HBT := hid (Burnt.mk hr hfz hon); clear hr hfz hon))
    go_ret
    rw [HE.out]
    exact rdone_not H.out.sp (HB0.out _) hlt _ HBT.out
   ·rw [hlt] at HBU
    have HLT := hid hlt
    go_enter Tryz.func81, Tryz.ntmps81
    go_wp2_with (first
     | (go_at_call 100; refine (HR.out _ _ (txt_one _ _ _ _ _ rfl)).mono ?_; rintro e w' ⟨rfl, hw'⟩; have hw2 := hw'.symm; subst hw2)
     | (go_at_call 95; refine (HA.out _).mono ?_; rintro e w' ⟨rfl, hw'⟩; have hw2 := hw'.symm; subst hw2)
     | (go_at_call 101; refine (HBU.out _).mono ?_; rintro e w1 ⟨rfl, hr, hfz, hon, _⟩; have HBT := hid (Burnt.mk hr hfz hon); clear hr hfz hon)
     | (go_at_call 123; refine (without_any HBT.out.rf s (by omega)).mono ?_; rintro e w2 ⟨v2, rfl, hF2, hb2⟩
        obtain ⟨po2, c2, hv2⟩ := own_form hF2; subst hv2
        have hq2 := HBT.out.rf.below hb2
        have cq1 : w2.cell? ⟨q, 1, none⟩ = some v := hq2.c.cell 1
        have zq1 : w2.frozen? ⟨q, 1, none⟩ = false := hq2.c.free 1
        have HF2 := hid hF2; have HB2 := hid hb2; clear hF2 hb2 hq2))
    go_ret
    rw [HE.out]
    exact rdone_chg H.out (HB0.out _) HLT.out HBT.out (HBT.out.rf.relist HB2.out HF2.out (fun x hx => ⟨(HBT.out.rf.below HB2.out).by_ x (mem_del.1 hx).1, fun b hb => Or.inl (HBT.out.rf.rb x (mem_del.1 hx).1 b hb)⟩) (by rw [H.out.fs, gdel_map]))
 ·have HE : Hid (d.delete f s = (d.ans f [s], d, f)) := hid (by unfold Pd.delete; rw [if_pos ha])
  have ha' : ¬ ((d.ans f [s] : Nat) : Int) = 0 := by omega
  clear HGG
  generalize d.ans f [s] = n at *
  go_enter Tryz.func81, Tryz.ntmps81
  go_wp2_with (go_at_call 100; refine (HR.out _ _ (txt_one _ _ _ _ _ rfl)).mono ?_; rintro e w' ⟨rfl, hw'⟩; have hw2 := hw'.symm; subst hw2)
  go_ret
  exact rdone_same H.out HF.out n HE.out (HB0.out _)
end
end Go.Proofs.YtfogkegmdgbecaaGreatDoor

/- Contracts of Read and Sync of the document's drives. -/
namespace Go.Proofs.YtfogkegmdgbecaaGreatDoor
open Go Go.RowKit

theorem own_set {w : World} {B e s n g c : Nat} {xs : List Value} (h : w.ownsRow B e s (.slice (some ⟨g, 0, none⟩) n c) n xs) (k : Nat) (x : Value) : (w.setCell ⟨g, k, none⟩ x).ownsRow B e s (.slice (some ⟨g, 0, none⟩) n c) n (xs.set k x) := by
 rcases h with ⟨h1, h2⟩
 refine ⟨by rw [List.length_set]; exact h1, ?_⟩
 rcases h2 with ⟨h2, _⟩ | ⟨g', cap, cur, hv, hB, hb, h3, h4, h5, h6⟩
 ·cases h2
 ·cases hv
  have hc : CAt w g cur e := hb
  exact Or.inr ⟨g, c, cur.setIfInBounds k x, rfl, hB, hc.set k x, h3, h4, by simpa using h5, by rw [Array.toList_setIfInBounds, List.take_set, h6]⟩
theorem flat_set2 : ∀ (L : List (Nm × Ent)) (i : Nat) (b : Bool), i < L.length → (flat L).set (i * 3 + 2) (.bool b) = flat (L.set i ((atL L i).1, ⟨(atL L i).2.v, (atL L i).2.b, b⟩))
 | [], i, _, h => by simp at h
 | p :: r, 0, b, _ => by simp [flat, atL]
 | p :: r, i + 1, b, h => by
  have := flat_set2 r i b (by simpa using h)
  have e : (i + 1) * 3 + 2 = (i * 3 + 2) + 3 := by omega
  rw [e]
  show (sv p.1 :: p.2.v :: .bool p.2.l :: flat r).set (i * 3 + 2 + 3) (.bool b) = _
  simp [flat, atL] at this ⊢
  exact this
theorem flat_set1 : ∀ (L : List (Nm × Ent)) (i : Nat) (v : Value) (bs : List Nat), i < L.length → (flat L).set (i * 3 + 1) v = flat (L.set i ((atL L i).1, ⟨v, bs, (atL L i).2.l⟩))
 | [], i, _, _, h => by simp at h
 | p :: r, 0, v, bs, _ => by simp [flat, atL]
 | p :: r, i + 1, v, bs, h => by
  have := flat_set1 r i v bs (by simpa using h)
  have e : (i + 1) * 3 + 1 = (i * 3 + 1) + 3 := by omega
  rw [e]
  show (sv p.1 :: p.2.v :: .bool p.2.l :: flat r).set (i * 3 + 1 + 3) v = _
  simp [flat, atL] at this ⊢
  exact this
theorem set_put : ∀ {L : List (Nm × Ent)} {s : Nm} {i : Nat} (e : Ent), Srt L → idx L s = some i → L.set i (s, e) = gput L s e
 | [], _, _, _, _, h => by cases h
 | p :: r, s, i, e, hs, h => by
  have hs' := List.pairwise_cons.1 hs
  unfold idx at h
  by_cases ep : p.1 = s
  ·rw [if_pos ep] at h; cases h
   have h1 : gdel (p :: r) s = r := by
    unfold gdel
    rw [List.filter_cons_of_neg (by simp [ep]), List.filter_eq_self.2 fun y hy => by have := bb_ne (hs'.1 y hy); rw [ep] at this; simpa using fun e => this e.symm]
   unfold gput
   rw [h1]
   cases r with
   | nil => rfl
   | cons y t => have := hs'.1 y (by simp); rw [ep] at this; simp [gins, this]
  ·rw [if_neg ep] at h
   cases hi : idx r s with
   | none => rw [hi] at h; cases h
   | some j =>
    rw [hi] at h; cases h
    have ih := set_put e hs'.2 hi
    obtain ⟨h1, h2, h3⟩ := idx_get hi
    have hb : bytesBefore p.1 s = true := by rw [← h2]; exact hs'.1 _ (atL_mem h1)
    have hb2 : bytesBefore s p.1 = false := by
     cases hx : bytesBefore s p.1
     ·rfl
     ·have := bb_trans hb hx; rw [bb_irrefl] at this; cases this
    unfold gput
    have h4 : gdel (p :: r) s = p :: gdel r s := by unfold gdel; rw [List.filter_cons_of_pos (by simpa using ep)]
    rw [h4]
    show p :: r.set j (s, e) = gins (s, e) (p :: gdel r s)
    conv => rhs; unfold gins
    rw [if_neg (by simp [hb2]), ih]; rfl
section
variable {w w' : World} {R : Nat → Prop} {q : Nat} {v : Value} {fu : Option Nat} {d : Pd} {L : List (Nm × Ent)} {f : Fs}
/-- A cell of a drive's own row of files is written. -/
theorem RfC.setE {g c : Nat} (h : RfC w R q (.slice (some ⟨g, 0, none⟩) L.length c) fu d L) {i j : Nat} {x : Value} {y : Nm × Ent} (hf : (flat L).set (i * 3 + j) x = flat (L.set i y)) (hy : w.ownsRow 0 5 1 y.2.v y.2.b.length (y.2.b.map u8)) (hyR : ∀ b, y.2.v.ownBlock = some b → R b) {F2 : List (Nm × Fi)} (hF : F2 = gmap Ent.fi (L.set i y)) :
  RfC (w.setCell ⟨g, i * 3 + j, none⟩ x) R q (.slice (some ⟨g, 0, none⟩) L.length c) fu { d with F := F2 } (L.set i y) := by
 have hgq : g ≠ q := h.ne_q h.ow (by decide) g rfl
 have hcg : ∃ cs, CAt w g cs 134 := by
  rcases h.ow.2 with ⟨h2, _⟩ | ⟨g', cap, cur, hv, _, hb, _⟩
  ·cases h2
  ·cases hv; exact ⟨cur, hb⟩
 obtain ⟨cs, hcg⟩ := hcg
 have own : ∀ {n : Nat} {u : Value} {xs : List Value}, w.ownsRow 0 5 1 u n xs → (w.setCell ⟨g, i * 3 + j, none⟩ x).ownsRow 0 5 1 u n xs := fun {n u xs} ho => ownsRow_keep ho fun b hb => heap_setCell_ne _ _ _ _ (fun e => by
  rcases ho.2 with ⟨rfl, _⟩ | ⟨g2, cap, cur, rfl, _, hg2, _⟩
  ·cases hb
  ·cases hb
   have e' : g2 = g := e
   rw [e'] at hg2
   have h2 : w.heap[g]? = _ := hcg
   rw [h2] at hg2; cases hg2)
 have hmem : ∀ z ∈ L.set i y, z ∈ L ∨ z = y := fun z hz => List.mem_or_eq_of_mem_set hz
 refine ⟨h.c.keep (heap_setCell_ne _ _ _ _ (fun e => hgq e.symm)), ?_, hF, fun z hz => ?_, h.sp, h.rv, fun z hz b hb => ?_, fun b hb => by rw [setCell_size]; exact h.lt b hb⟩
 ·rw [List.length_set, ← hf]; exact own_set h.ow _ _
 ·rcases hmem z hz with hz | rfl
  ·exact own (h.by_ z hz)
  ·exact own hy
 ·rcases hmem z hz with hz | rfl
  ·exact h.rb z hz b hb
  ·exact hyR b hb
set_option maxHeartbeats 1000000 in
set_option maxRecDepth 100000 in
theorem rread_any (h : RfC w R q v fu d L) (hf : FuR w R fu f) (s : Nm) (hs : s.length ≤ maxLen) (hl : L.length < 999000) (hbn : ∀ x ∈ L, x.2.b.length ≤ 1000000000) :
  Calls Tryz.prog 51 #[ptr q, sv s] w (ReadAt w (d.readE f s) (d.readB f s)) := by
 have H := hid h
 have HR := hid (fun (o : Obj) vn hv => ready_any (h.alloc o) (hf.alloc o) vn [s] hv (by simp) (by simpa using hs))
 have HA := hid (fun (o : Obj) => at_any (h.alloc o) s (by omega))
 have HGG := gget_fi h s
 have HB0 := hid (fun (o : Obj) => (Below.refl w.heap.size w).alloc (Nat.le_refl _) o)
 have HBN := hid hbn
 have c1 : w.cell? ⟨q, 1, none⟩ = some v := h.c.cell 1
 have hql := h.c.lt
 clear h hf hbn
 by_cases ha : d.ans f [s] = 0
 ·rw [ha] at HR
  cases hi : idx L s with
  | none =>
   have HE : Hid (d.readE f s = 6 ∧ d.readB f s = []) := hid (by unfold Pd.readE Pd.readB; rw [if_neg (by omega), if_neg (by omega), HGG, idx_miss hi]; exact ⟨rfl, rfl⟩)
   have e : atI L s = -1 := by unfold atI; rw [hi]
   rw [e] at HA
   clear HGG
   go_enter Tryz.func51, Tryz.ntmps51
   go_wp2_with (first
    | (go_at_call 100; refine (HR.out _ _ (txt_one _ _ _ _ _ rfl)).mono ?_; rintro e w' ⟨rfl, hw'⟩; have hw2 := hw'.symm; subst hw2)
    | (go_at_call 95; refine (HA.out _).mono ?_; rintro e w' ⟨rfl, hw'⟩; have hw2 := hw'.symm; subst hw2))
   go_ret2
   rw [HE.out.1, HE.out.2]
   exact ⟨none, 0, rfl, World.ownsRow_nil _ _ _ _, HB0.out _⟩
  | some i =>
   obtain ⟨hi1, hi2, hi3⟩ := idx_get hi
   have HE : Hid (d.readE f s = 0 ∧ d.readB f s = (atL L i).2.b) := hid (by unfold Pd.readE Pd.readB; rw [if_neg (by omega), if_neg (by omega), HGG, hi3]; exact ⟨rfl, rfl⟩)
   have e : atI L s = (i : Int) := by unfold atI; rw [hi]
   rw [e] at HA
   have hni : ¬ (i : Int) < 0 := by omega
   have hni2 : (i : Int) < (L.length : Int) := by omega
   obtain ⟨g, cc, hv, _, k1, _⟩ := (H.out).at hi1
   subst hv
   obtain ⟨pe, ce, hpe⟩ := H.out.slice (atL_mem hi1)
   rw [hpe] at k1
   have hgl : g < w.heap.size := cell_lt' (a := ⟨g, i * 3 + 1, none⟩) (by rw [k1]; simp)
   have HAT : Hid (BAt w pe (atL L i).2.b) := hid (by have := H.out.by_ _ (atL_mem hi1); rw [hpe] at this; exact own_BAt this)
   have hbl := HBN.out _ (atL_mem hi1)
   have HCP := hid (fun (o : Obj) => copyB (HAT.out.keepB (HB0.out o)) ce hbl)
   clear HGG hpe hi2 hi3
   generalize (atL L i).2.b = bs at *
   go_enter Tryz.func51, Tryz.ntmps51
   go_wp2_with (first
    | (go_at_call 100; refine (HR.out _ _ (txt_one _ _ _ _ _ rfl)).mono ?_; rintro e w' ⟨rfl, hw'⟩; have hw2 := hw'.symm; subst hw2)
    | (go_at_call 95; refine (HA.out _).mono ?_; rintro e w' ⟨rfl, hw'⟩; have hw2 := hw'.symm; subst hw2
       obtain ⟨po', c', w5, hrun, how, hb5⟩ := HCP.out (.cells #[sv s] 9); rw [size_al] at hrun
       have HRUN := hid hrun; have HOW := hid how; have HB5 := hid hb5; clear hrun how hb5)
    | (at_builtin; refine wpList_append_run _ _ 30 rfl rfl _ _ _ rfl rfl HRUN.out ?_))
   go_ret2
   rw [HE.out.1, HE.out.2]
   exact ⟨po', c', rfl, own_base HOW.out (by rw [size_al]; omega), below_on _ _ (HB0.out _) HB5.out⟩
 ·have HE : Hid (d.readE f s = d.ans f [s] ∧ d.readB f s = []) := hid (by unfold Pd.readE Pd.readB; rw [if_pos ha, if_pos ha]; exact ⟨rfl, rfl⟩)
  have ha' : ¬ ((d.ans f [s] : Nat) : Int) = 0 := by omega
  clear HGG
  generalize d.ans f [s] = n at *
  go_enter Tryz.func51, Tryz.ntmps51
  go_wp2_with (go_at_call 100; refine (HR.out _ _ (txt_one _ _ _ _ _ rfl)).mono ?_; rintro e w' ⟨rfl, hw'⟩; have hw2 := hw'.symm; subst hw2)
  go_ret2
  rw [HE.out.1, HE.out.2]
  exact ⟨none, 0, rfl, World.ownsRow_nil _ _ _ _, HB0.out _⟩
end
end Go.Proofs.YtfogkegmdgbecaaGreatDoor
