/- Texts laid into one, cut to what is needed: the remark ahead of each part says what is proved there. -/
import Derived.Test.YtfogkegmdgbecaaGreatDoorPax
import Derived.Laws.OwnMore
import Derived.Test.YtfogkegmdgbecaaGreatDoorPav
/- The document's with: rising texts, with one more. -/
namespace Go.Proofs.YtfogkegmdgbecaaGreatDoor
open Go Go.RowKit Go.Shelf

theorem wth_at : ∀ (l : List Nm) (s : Nm) (n : Nat), n ≤ l.length → (∀ i, i < n → bytesBefore (l.getD i []) s = true) → (n < l.length → bytesBefore (l.getD n []) s = false) → wth l s = if n < l.length ∧ l.getD n [] = s then l else l.take n ++ [s] ++ l.drop n
 | [], s, n, hn, _, _ => by simp at hn; subst hn; simp [wth]
 | y :: r, s, 0, _, _, h2 => by
  have := h2 (by simp)
  simp only [List.getD_cons_zero] at this
  unfold wth; rw [if_neg (by simp [this])]
  by_cases e : y = s
  ·rw [if_pos e, if_pos ⟨by simp, by simpa using e⟩]
  ·rw [if_neg e, if_neg (fun h => e (by simpa using h.2))]; simp
 | y :: r, s, n + 1, hn, h1, h2 => by
  have h0 := h1 0 (by omega)
  simp only [List.getD_cons_zero] at h0
  have ih := wth_at r s n (by simpa using hn) (fun i hi => by have := h1 (i + 1) (by omega); simpa using this) (fun h => by have := h2 (by simp only [List.length_cons]; omega); simpa using this)
  unfold wth; rw [if_pos h0, ih]
  by_cases e : n < r.length ∧ r.getD n [] = s
  ·rw [if_pos e, if_pos ⟨by simp only [List.length_cons]; omega, by simpa using e.2⟩]
  ·rw [if_neg e, if_neg (fun h => e ⟨by have := h.1; simp only [List.length_cons] at this; omega, by simpa using h.2⟩)]; simp
/-- append(v, s...) of texts that lie anywhere, or of none. -/
theorem TxtL.app {B : Nat} {w : World} {v : Value} {ns : List Nm} (h : TxtL B w v ns) (po : Option Addr) (m c : Nat) (ms : List Nm) (hm : ms.length = m) (hx : (po = none ∧ m = 0 ∧ c = 0) ∨ ∃ b o, po = some ⟨b, o, none⟩ ∧ ∀ i, i < m → w.cell? ⟨b, o + i, none⟩ = some (sv (ms.getD i []))) (hn : ns.length + m ≤ 1000000000) (hB : B ≤ w.heap.size) :
  ∃ v' w', (Builtin.append_ #[32, 32] 32 #[v, .slice po m c]).run Tryz.prog w = .ok v' w' ∧ TxtL B w' v' (ns ++ ms) ∧ w.grownBy w' v.ownBlock ∧ (v'.ownBlock = v.ownBlock ∨ v'.ownBlock = some w.heap.size) := by
 obtain ⟨i0, hi0, hz0, hz1, hz2⟩ := info_parts Tryz.info9
 rcases hx with ⟨rfl, rfl, rfl⟩ | ⟨b, o, rfl, hc⟩
 ·refine ⟨v, w, run_append_owned_none (P := Tryz.prog) (w := w) B 32 32 9 i0 1 Tryz.underlying32 hi0 v ns.length (ns.map sv) h, ?_, ⟨rfl, rfl, rfl, Nat.le_refl _, fun _ _ _ => rfl⟩, .inl rfl⟩
  rw [List.length_eq_zero_iff.1 hm, List.append_nil]; exact h
 ·obtain ⟨v', w', hr, h3, h4, _, h5⟩ := run_append_own_at (P := Tryz.prog) w B 32 32 9 i0 (.string ⟨#[]⟩) 1 16 Tryz.underlying32 hi0 hz0 hz1 hz2 rfl (by decide) v ns.length (ns.map sv) h ⟨b, o, none⟩ m c (ms.map sv) (by simp [hm]) (fun j u hj => by
    rw [List.getElem?_map] at hj
    obtain ⟨x, hx, rfl⟩ := Option.map_eq_some_iff.1 hj
    have hjl : j < ms.length := (List.getElem?_eq_some_iff.1 hx).1
    rw [add_none, hc j (by omega), List.getD_eq_getElem?_getD, hx]; rfl) (by intro u hu; obtain ⟨x, _, rfl⟩ := List.mem_map.1 hu; rfl) (by unfold maxLen; omega) (by omega) hB
  refine ⟨v', w', hr, ?_, h4, h5⟩
  unfold TxtL
  rw [List.length_append, List.map_append, hm]; exact h3
theorem tx_new0 (w : World) : TxtL w.heap.size (w.alloc (.cells #[] 9)) (.slice (some ⟨w.heap.size, 0, none⟩) 0 0) [] :=
 ⟨rfl, Or.inr ⟨w.heap.size, 0, #[], rfl, Nat.le_refl _, (CAt.made w _ _), Nat.le_refl _, Nat.zero_le _, rfl, rfl⟩⟩
theorem tx_cells {B : Nat} {w : World} {g n c : Nat} {l : List Nm} (h : TxtL B w (.slice (some ⟨g, 0, none⟩) n c) l) : ∀ j, j < l.length → w.cell? ⟨g, j, none⟩ = some (sv (l.getD j [])) := fun j hj => by
 obtain ⟨g', c', e, _, _, hc⟩ := own_get h (by omega)
 cases e
 rw [hc j hj, List.getElem?_map, List.getElem?_eq_getElem hj, getD_in _ _ _ hj]; rfl
def WthAt (B : Nat) (w : World) (l : List Nm) (e : Ending) (w' : World) : Prop := ∃ po c, e = .returned (.slice po l.length c) ∧ TxtL B w' (.slice po l.length c) l ∧ Below w.heap.size w w'
/-- What the three appends make. -/
theorem with_runs {B : Nat} {w : World} {l : List Nm} (hl : l.length ≤ 1000000) (hB : B ≤ w.heap.size) (s : Nm) (n : Nat) (hn : n ≤ l.length) (p1 p2 : Option Addr) (m2 c1 c2 : Nat) (hm2 : m2 = l.length - n)
  (hx1 : ∀ W, Below w.heap.size w W → (p1 = none ∧ n = 0 ∧ c1 = 0) ∨ ∃ b o, p1 = some ⟨b, o, none⟩ ∧ ∀ i, i < n → W.cell? ⟨b, o + i, none⟩ = some (sv (l.getD i [])))
  (hx2 : ∀ W, Below w.heap.size w W → (p2 = none ∧ m2 = 0 ∧ c2 = 0) ∨ ∃ b o, p2 = some ⟨b, o, none⟩ ∧ ∀ i, i < m2 → W.cell? ⟨b, o + i, none⟩ = some (sv (l.getD (n + i) []))) :
  ∃ v1 w1 v2 w2 v3 w3, (Builtin.append_ #[32, 32] 32 #[.slice (some ⟨w.heap.size, 0, none⟩) 0 0, .slice p1 n c1]).run Tryz.prog (w.alloc (.cells #[] 9)) = .ok v1 w1 ∧
   (Builtin.append_ #[32, 32] 32 #[v1, .slice (some ⟨w1.heap.size, 0, none⟩) 1 1]).run Tryz.prog (w1.alloc (.cells #[sv s] 9)) = .ok v2 w2 ∧
   (Builtin.append_ #[32, 32] 32 #[v2, .slice p2 m2 c2]).run Tryz.prog w2 = .ok v3 w3 ∧ WthAt B w (l.take n ++ [s] ++ l.drop n) (.returned v3) w3 := by
 have b0 : Below w.heap.size w (w.alloc (.cells #[] 9)) := (Below.refl _ _).alloc (Nat.le_refl _) _
 have e1 : (l.take n).length = n := by rw [List.length_take]; omega
 obtain ⟨v1, w1, r1, t1, g1, o1⟩ := (tx_new0 w).app p1 n c1 (l.take n) e1 ((hx1 _ b0).imp_right (fun ⟨b, o, h1, h2⟩ => ⟨b, o, h1, fun i hi => by rw [h2 i hi, List.getD_eq_getElem?_getD, List.getD_eq_getElem?_getD, List.getElem?_take, if_pos hi]⟩)) (by simp; omega) (by simp)
 rw [List.nil_append] at t1
 have b1 : Below w.heap.size w w1 := below_on_grown b0 g1 (fun b hb => by cases hb; exact Nat.le_refl _)
 obtain ⟨v2, w2, r2, t2, g2, o2⟩ := t1.push s (by omega) b1.size
 have b2 : Below w.heap.size w w2 := below_on_grown (below_on _ _ b1 ((Below.refl _ _).alloc (Nat.le_refl _) _)) g2 (fun b hb => (own_ge t1 b hb).1)
 obtain ⟨v3, w3, r3, t3, g3, o3⟩ := t2.app p2 m2 c2 (l.drop n) (by rw [List.length_drop]; omega) ((hx2 _ b2).imp_right (fun ⟨b, o, h1, h2⟩ => ⟨b, o, h1, fun i hi => by rw [h2 i hi, List.getD_eq_getElem?_getD, List.getD_eq_getElem?_getD, List.getElem?_drop]⟩)) (by rw [List.length_append, e1]; simp; omega) b2.size
 have b3 : Below w.heap.size w w3 := below_on_grown b2 g3 (fun b hb => (own_ge t2 b hb).1)
 obtain ⟨po, c, rfl⟩ := own_form t3
 exact ⟨v1, w1, v2, w2, _, w3, r1, r2, r3, po, c, rfl, t3.base hB, b3⟩
set_option maxHeartbeats 2000000 in
set_option maxRecDepth 100000 in
theorem rwith_any {B : Nat} {w : World} {v : Value} {l : List Nm} (h : TxtL B w v l) (hl : l.length ≤ 1000000) (hB : B ≤ w.heap.size) (s : Nm) :
  Calls Tryz.prog 87 #[v, sv s] w (WthAt B w (wth l s)) := by
 have HW := hid (wth_at l s)
 obtain ⟨R, hR⟩ : ∃ R, wth l s = R := ⟨_, rfl⟩
 rw [hR] at HW ⊢
 clear hR
 have H := hid h
 rcases h.2 with ⟨rfl, h0⟩ | ⟨g, cap, cur, rfl, hBg, hg, hlc, _, _, _⟩
 ·have h0' : l = [] := List.length_eq_zero_iff.1 h0
  subst h0'
  obtain ⟨v1, w1, v2, w2, v3, w3, r1, r2, r3, hend⟩ := with_runs hl hB s 0 (Nat.le_refl _) none none 0 0 0 rfl (fun _ _ => .inl ⟨rfl, rfl, rfl⟩) (fun _ _ => .inl ⟨rfl, rfl, rfl⟩)
  have HR1 := hid r1
  have HR2 := hid r2
  have HR3 := hid r3
  have HE : Hid (WthAt B w R (.returned v3) w3) := hid (by rw [HW.out 0 (Nat.le_refl _) (fun i hi => absurd hi (Nat.not_lt_zero _)) (fun h => absurd h (Nat.not_lt_zero _)), if_neg (fun h => absurd h.1 (Nat.not_lt_zero _))]; exact hend)
  clear h r1 r2 r3 hend
  go_enter Tryz.func87, Tryz.ntmps87
  go_wp2
  go_loopw [5] (fun q wr => q = .int .i64 0 ∧ wr = w) (fun _ _ => 0)
  case atStart => exact ⟨rfl, rfl⟩
  case round =>
   obtain ⟨rfl, hw⟩ := hrel
   subst hw
   go_wp2_with (first
    | (at_builtin; refine wpList_append_run _ _ 32 rfl rfl _ _ v1 rfl rfl HR1.out ?_; clear HR1)
    | (at_builtin; refine wpList_append_run _ _ 32 rfl rfl _ _ v2 rfl rfl HR2.out ?_; clear HR2)
    | (at_builtin; refine wpList_append_run _ _ 32 rfl rfl _ _ v3 rfl rfl HR3.out ?_; clear HR3))
   go_ret
   exact HE.out
 ·have HCE := hid (tx_cells h)
  have hgl : g < w.heap.size := (own_ge h g rfl).2
  have HCB : Hid (∀ W, Below w.heap.size w W → ∀ j, j < l.length → W.cell? ⟨g, j, none⟩ = some (sv (l.getD j []))) := hid (fun W hb j hj => (World.cell?_of_block (a := ⟨g, j, none⟩) (hb.block g hgl)).trans (HCE.out j hj))
  have HSQ := hid (fun x => sv_eq x s)
  have hlc' : (l.length : Int) ≤ (cap : Int) := by omega
  have hlm : (l.length : Int) ≤ 1000000 := by omega
  have HRUN : Hid (∀ n, n ≤ l.length → ∃ v1 w1 v2 w2 v3 w3, (Builtin.append_ #[32, 32] 32 #[.slice (some ⟨w.heap.size, 0, none⟩) 0 0, .slice (some ⟨g, 0, none⟩) n cap]).run Tryz.prog (w.alloc (.cells #[] 9)) = .ok v1 w1 ∧
   (Builtin.append_ #[32, 32] 32 #[v1, .slice (some ⟨w1.heap.size, 0, none⟩) 1 1]).run Tryz.prog (w1.alloc (.cells #[sv s] 9)) = .ok v2 w2 ∧
   (Builtin.append_ #[32, 32] 32 #[v2, .slice (some ⟨g, n, none⟩) (l.length - n) (cap - n)]).run Tryz.prog w2 = .ok v3 w3 ∧ WthAt B w (l.take n ++ [s] ++ l.drop n) (.returned v3) w3) := hid (fun n hn =>
   with_runs hl hB s n hn _ _ _ _ _ rfl (fun W hb => .inr ⟨g, 0, rfl, fun i hi => by rw [Nat.zero_add]; exact HCB.out W hb i (by omega)⟩) (fun W hb => .inr ⟨g, n, rfl, fun i hi => HCB.out W hb (n + i) (by omega)⟩))
  have HBO := hid (Below.refl w.heap.size w)
  clear h hg
  go_enter Tryz.func87, Tryz.ntmps87
  go_wp2
  go_loopw [5] (fun q wr => ∃ n : Nat, n ≤ l.length ∧ q = .int .i64 (n : Int) ∧ wr = w ∧ ∀ i, i < n → bytesBefore (l.getD i []) s = true) (fun q _ => (1000001 - intOf q).toNat)
  case atStart => exact ⟨0, Nat.zero_le _, rfl, rfl, fun i hi => absurd hi (Nat.not_lt_zero _)⟩
  case round =>
   obtain ⟨n, hn, rfl, hw, hbf⟩ := hrel
   subst hw
   have HBF := hid hbf
   clear hbf
   have hn' : (n : Int) ≤ (l.length : Int) := by omega
   have hnc : (n : Int) ≤ (cap : Int) := by omega
   by_cases hlt : n < l.length
   ·have hlt' : (n : Int) < (l.length : Int) := by omega
    have z0 := HCE.out n hlt
    cases hbb : bytesBefore (l.getD n []) s with
    | true =>
     have HB2 : Hid (∀ i, i < n + 1 → bytesBefore (l.getD i []) s = true) := hid (fun i hi => if e : i = n then (by rw [e]; exact hbb) else HBF.out i (by omega))
     rw [← less_before] at hbb
     generalize l.getD n [] = y at z0 hbb
     go_wp2
     go_roundw
     case rel => exact ⟨n + 1, by omega, by go_num, by trivial, HB2.out⟩
     case measure => simp only [intOf]; omega
    | false =>
     have HWW := hid (HW.out n hn HBF.out (fun _ => hbb))
     rw [← less_before] at hbb
     by_cases he : l.getD n [] = s
     ·have HE := HWW.out
      rw [if_pos ⟨hlt, he⟩] at HE
      have HEND : Hid (WthAt B wr R (.returned (.slice (some ⟨g, 0, none⟩) l.length cap)) wr) := hid (by rw [HE]; exact ⟨_, _, rfl, H.out, HBO.out⟩)
      clear HE HWW
      rw [he] at z0 hbb
      go_wp2
      go_ret
      exact HEND.out
     ·have HE := HWW.out
      rw [if_neg (fun h => he h.2)] at HE
      obtain ⟨v1, w1, v2, w2, v3, w3, r1, r2, r3, hend⟩ := HRUN.out n hn
      have HR1 := hid r1
      have HR2 := hid r2
      have HR3 := hid r3
      have HEND : Hid (WthAt B wr R (.returned v3) w3) := hid (by rw [HE]; exact hend)
      have hne : (⟨(l.getD n []).toArray⟩ : ByteArray) ≠ ⟨s.toArray⟩ := fun e => he ((HSQ.out _).1 e)
      have hx2 := ba_ne hne
      have hys : (l.getD n [] == s) = false := beq_eq_false_iff_ne.2 he
      clear HE HWW r1 r2 r3 hend hne he HRUN
      generalize l.getD n [] = y at z0 hbb hx2 hys
      go_wp2_with (first
       | (at_builtin; refine wpList_append_run _ _ 32 rfl rfl _ _ v1 rfl rfl HR1.out ?_; clear HR1)
       | (at_builtin; refine wpList_append_run _ _ 32 rfl rfl _ _ v2 rfl rfl HR2.out ?_; clear HR2)
       | (at_builtin; refine wpList_append_run _ _ 32 rfl rfl _ _ v3 rfl rfl HR3.out ?_; clear HR3))
      go_ret
      exact HEND.out
   ·have hlt' : ¬ (n : Int) < (l.length : Int) := by omega
    have HE := HW.out n hn HBF.out (fun h => absurd h hlt)
    rw [if_neg (fun h => hlt h.1)] at HE
    by_cases hcn : cap = n
    ·have hcn' : (cap : Int) = (n : Int) := by omega
     obtain ⟨v1, w1, v2, w2, v3, w3, r1, r2, r3, hend⟩ := with_runs hl hB s n hn (some ⟨g, 0, none⟩) (some ⟨g, 0, none⟩) (l.length - n) cap (cap - n) rfl (fun W hb => .inr ⟨g, 0, rfl, fun i hi => by rw [Nat.zero_add]; exact HCB.out W hb i (by omega)⟩) (fun W hb => .inr ⟨g, 0, rfl, fun i hi => absurd hi (by omega)⟩)
     have HR1 := hid r1
     have HR2 := hid r2
     have HR3 := hid r3
     have HEND : Hid (WthAt B wr R (.returned v3) w3) := hid (by rw [HE]; exact hend)
     clear HE r1 r2 r3 hend HRUN hlt
     go_upto_region 7 with (first
      | (at_builtin; refine wpList_append_run _ _ 32 rfl rfl _ _ v1 rfl rfl HR1.out ?_; clear HR1))
     go_upto_region 8 with (first
      | (at_builtin; refine wpList_append_run _ _ 32 rfl rfl _ _ v2 rfl rfl HR2.out ?_; clear HR2))
     go_wp2_with (first
      | (at_builtin; refine wpList_append_run _ _ 32 rfl rfl _ _ v3 rfl rfl HR3.out ?_; clear HR3))
     go_ret
     exact HEND.out
    ·have hcn' : ¬ (cap : Int) = (n : Int) := by omega
     obtain ⟨v1, w1, v2, w2, v3, w3, r1, r2, r3, hend⟩ := with_runs hl hB s n hn (some ⟨g, 0, none⟩) (some ⟨g, n, none⟩) (l.length - n) cap (cap - n) rfl (fun W hb => .inr ⟨g, 0, rfl, fun i hi => by rw [Nat.zero_add]; exact HCB.out W hb i (by omega)⟩) (fun W hb => .inr ⟨g, n, rfl, fun i hi => absurd hi (by omega)⟩)
     have HR1 := hid r1
     have HR2 := hid r2
     have HR3 := hid r3
     have HEND : Hid (WthAt B wr R (.returned v3) w3) := hid (by rw [HE]; exact hend)
     clear HE r1 r2 r3 hend HRUN hlt
     go_upto_region 7 with (first
      | (at_builtin; refine wpList_append_run _ _ 32 rfl rfl _ _ v1 rfl rfl HR1.out ?_; clear HR1))
     go_upto_region 8 with (first
      | (at_builtin; refine wpList_append_run _ _ 32 rfl rfl _ _ v2 rfl rfl HR2.out ?_; clear HR2))
     go_wp2_with (first
      | (at_builtin; refine wpList_append_run _ _ 32 rfl rfl _ _ v3 rfl rfl HR3.out ?_; clear HR3))
     go_ret
     exact HEND.out
end Go.Proofs.YtfogkegmdgbecaaGreatDoor

/- The document's Names. -/
namespace Go.Proofs.YtfogkegmdgbecaaGreatDoor
open Go Go.RowKit Go.Shelf

/-- While drives are gone through: the names so far. -/
structure RNo (w1 : World) (X0 : FS) (s : Nm) (i : Nat) (v : Value) (W : World) : Prop where
 be : Below w1.heap.size w1 W
 ns : TxtL w1.heap.size W v (wths [] (nmA X0 s i))
 ok : ∀ j, j < i → (X0.d j).ans X0.f [] ≠ 11
structure RNi (w1 w6 : World) (L ns : List Nm) (j : Nat) (v : Value) (W : World) : Prop where
 be : Below w6.heap.size w6 W
 ns : TxtL w1.heap.size W v (wths L (ns.take j))
theorem take_one {ns : List Nm} {j : Nat} (hj : j < ns.length) : ns.take (j + 1) = ns.take j ++ [ns.getD j []] := by rw [List.take_add_one, List.getElem?_eq_getElem hj, getD_in _ _ _ hj]; rfl
section
variable {w w1 : World} {T : Nat → Prop} {k : Nat} {p : Nat → Nat} {X0 : FS}
set_option maxHeartbeats 4000000 in
set_option maxRecDepth 100000 in
theorem rfnames_any (h : RA w w1 T k p X0.d X0.f 0) {lv : Value} (hl : LsAt w1 T lv k p) (hk : k ≤ 1000) (hB : ∀ i, i < k → (X0.d i).F.length ≤ 50000) (s : Nm) :
  Calls Tryz.prog 25 #[lv, sv s] w1 (ListAt w1 (nmE k X0) (nmR k X0 s)) := by
 obtain ⟨lpo, lc, hlv⟩ := hl.form
 subst hlv
 have HD := hid (fun W => rdrives_any lpo k lc hk W)
 by_cases hck : ckD k = 0
 ·rw [decide_eq_true hck] at HD
  have hk16 : 1 ≤ k ∧ k ≤ 16 := by unfold ckD at hck; split at hck <;> simp_all
  have HLEN : Hid (∀ i, i ≤ k → (nmA X0 s i).length ≤ 50000 * i) := hid (fun i hi => nmA_len i (fun j hj => hB j (by omega)))
  have HFB : Hid (∀ W i, i < k → (X0.d i).ans X0.f [] = 11 → Below w1.heap.size w1 W → ListAt w1 (nmE k X0) (nmR k X0 s) (.returned (.tuple #[.slice none 0 0, .int .i64 11])) W) := hid (fun W i hi e hb => by
   have hE := nmE_brk hck hi e
   unfold nmR; rw [hE, if_neg (by decide)]
   exact ⟨none, 0, rfl, World.ownsRow_nil _ _ _ _, hb⟩)
  have HFO : Hid (∀ W v, RNo w1 X0 s k v W → ListAt w1 (nmE k X0) (nmR k X0 s) (.returned (.tuple #[v, .int .i64 0])) W) := hid (fun W v hr => by
   have hE := nmE_ok hck hr.ok
   obtain ⟨po, c, rfl⟩ := own_form hr.ns
   unfold nmR; rw [hE, if_pos rfl]
   exact ⟨po, c, rfl, hr.ns, hr.be⟩)
  generalize ListAt w1 (nmE k X0) (nmR k X0 s) = PP at *
  have H0 : Hid (RNo w1 X0 s 0 (.slice none 0 0) w1) := hid ⟨Below.refl _ _, World.ownsRow_nil _ _ _ _, fun j hj => absurd hj (Nat.not_lt_zero _)⟩
  obtain ⟨bl, hbl, hlc⟩ : ∃ bl, lpo = some ⟨bl, 0, none⟩ ∧ ∀ j, j < k → w1.cell? ⟨bl, j, none⟩ = some (ptr (p j)) := by
   rcases hl.ex with ⟨h0, _⟩ | ⟨h0, b, c, h1, h2, h3⟩
   ·omega
   ·cases h1; exact ⟨b, rfl, h3⟩
  subst hbl
  have HLS : Hid (∀ W, Below w1.heap.size w1 W → ∀ i, i < k → W.cell? ⟨bl, i, none⟩ = some (ptr (p i))) := hid (fun W hb i hi => (World.cell?_of_block (a := ⟨bl, i, none⟩) (hb.block bl (cell_lt2 (hlc 0 (by omega))))).trans (hlc i hi))
  have HLI : Hid (∀ W, Below w1.heap.size w1 W → ∀ i, i < k → Calls Tryz.prog 42 #[ptr (p i), sv s] W (ListAt W ((X0.d i).ans X0.f []) ((X0.d i).list X0.f s))) := hid (fun W hb i hi => (h.below hb).look hi fun fu S v L hd hf => rlist_any hd (by simpa [fAt] using hf) s (by rw [hd.lenF]; exact Nat.lt_of_le_of_lt (hB i hi) (by decide)))
  have HNN : Hid (∀ i, i < k → ((X0.d i).list X0.f s).length ≤ 50000) := hid (fun i hi => Nat.le_trans (list_lenF _ _ _) (hB i hi))
  have HLO : Hid (∀ i, ¬ (X0.d i).ans X0.f [] = 0 → (X0.d i).list X0.f s = []) := hid (fun i e => list_out e)
  have HCD : Hid (∀ i, (X0.d i).ans X0.f [] ≤ 13) := hid (fun i => ans_cd _ _ _)
  have HST : Hid (∀ i, nmA X0 s (i + 1) = nmA X0 s i ++ (X0.d i).list X0.f s) := hid (fun i => rfl)
  clear h hl hB hck hlc
  go_enter Tryz.func25, Tryz.ntmps25
  go_wp2_with (go_at_call 75; refine (HD.out _).mono ?_; rintro e w5 ⟨rfl, hw5⟩; have hw6 := hw5.symm; subst hw6)
  go_loopg [6, 7] k (fun gg o v wr => ∃ i : Nat, i ≤ k ∧ k - i ≤ gg ∧ v = .int .i64 (i : Int) ∧ RNo w1 X0 s i o wr)
  case atStart => exact ⟨0, Nat.zero_le _, by omega, rfl, H0.out⟩
  case round =>
   clear H0
   obtain ⟨i, hi, hgg, rfl, hI⟩ := hrel
   have HI := hid hI
   clear hI
   obtain ⟨opo, oc, hov⟩ := own_form HI.out.ns
   subst hov
   by_cases hlt : i < k
   ·have hlt' : (i : Int) < (k : Int) := by omega
    have hi2 : (i : Int) < 1000 := by omega
    have z0 := HLS.out wr HI.out.be i hlt
    have HL6 := hid (HLI.out wr HI.out.be i hlt)
    have hnn := HNN.out i hlt
    have hcd := HCD.out i
    have HL0 := hid (HLO.out i)
    have HS1 := hid (HST.out i)
    have hbr := HLEN.out i (by omega)
    have HBR := hid (fun W (e : (X0.d i).ans X0.f [] = 11) hb => HFB.out W i hlt e hb)
    have HOK := hid (fun (e : (X0.d i).ans X0.f [] ≠ 11) j (hj : j < i + 1) => if e2 : j = i then (by subst e2; exact e : (X0.d j).ans X0.f [] ≠ 11) else HI.out.ok j (by omega))
    have hwl := wths_len (nmA X0 s i) []
    simp only [List.length_nil, Nat.zero_add] at hwl
    obtain ⟨L, hL⟩ : ∃ L, wths [] (nmA X0 s i) = L := ⟨_, rfl⟩
    have HLL := hid hL
    rw [hL] at hwl
    have HN0 : Hid (TxtL w1.heap.size wr (.slice opo L.length oc) L) := hid (by have := HI.out.ns; rw [hL] at this; exact this)
    have HBE := hid HI.out.be
    rw [hL]
    clear hL HI
    obtain ⟨er, her⟩ : ∃ er, (X0.d i).ans X0.f [] = er := ⟨_, rfl⟩
    obtain ⟨ns, hns⟩ : ∃ ns, (X0.d i).list X0.f s = ns := ⟨_, rfl⟩
    rw [her] at HL6 HL0 HBR HOK hcd
    rw [hns] at HL6 HL0 HS1 hnn
    clear her hns
    have hL8 : L.length ≤ 800000 := by omega
    go_upto_region 8 with (go_at_call 42; refine HL6.out.mono ?_; rintro e w6 ⟨npo, nc, rfl, ht6, hb6⟩; have HT6 := hid ht6; have HB6 := hid hb6; clear ht6 hb6)
    by_cases q11 : er = 11
    ·subst q11
     go_wp2
     exact HBR.out w6 (by first | rfl | trivial) (below_on _ _ HBE.out HB6.out)
    ·have q11' : ((er : Int) == 11) = false := beq_eq_false_iff_ne.2 (by omega)
     have HI0 : Hid (RNi w1 w6 L ns 0 (.slice opo L.length oc) w6) := hid ⟨Below.refl _ _, HN0.out.below HB6.out⟩
     by_cases q0 : er = 0
     ·subst q0
      go_wp2
      go_loopg [6, 10] ns.length (fun gg o v wq => ∃ j : Nat, j ≤ ns.length ∧ ns.length - j ≤ gg ∧ v = .int .i64 (j : Int) ∧ RNi w1 w6 L ns j o wq)
      case atStart => exact ⟨0, Nat.zero_le _, by omega, rfl, HI0.out⟩
      case round =>
       clear HI0
       obtain ⟨j, hj, hgj, rfl, hI⟩ := hrel
       have HI := hid hI
       clear hI
       obtain ⟨qpo, qc, hqv⟩ := own_form HI.out.ns
       subst hqv
       by_cases hjt : j < ns.length
       ·have hjt' : (j : Int) < (ns.length : Int) := by omega
        have hj2 : (j : Int) < 1000000 := by omega
        obtain ⟨br, or_, hp, z1⟩ := (tx_of (HT6.out.below HI.out.be)).cell hjt
        subst hp
        have hM := wths_len (ns.take j) L
        rw [List.length_take] at hM
        have HWI := hid (rwith_any HI.out.ns (by omega) (Nat.le_trans (Nat.le_trans HBE.out.size HB6.out.size) HI.out.be.size) (ns.getD j []))
        have HTK : Hid (wth (wths L (ns.take j)) (ns.getD j []) = wths L (ns.take (j + 1))) := hid (by rw [take_one hjt, wths_app]; rfl)
        rw [HTK.out] at HWI
        have HBI := hid HI.out.be
        clear HI hM HTK
        generalize ns.getD j [] = y at z1 HWI
        obtain ⟨m, hm⟩ : ∃ m, (wths L (ns.take j)).length = m := ⟨_, rfl⟩
        rw [hm] at HWI ⊢
        clear hm
        go_wp2_with (go_at_call 87; refine HWI.out.mono ?_; rintro e w8 ⟨ypo, yc, rfl, ht8, hb8⟩; have HT8 := hid ht8; have HB8 := hid hb8; clear ht8 hb8)
        go_roundg (ns.length - (j + 1))
        case measure => omega
        case rel => exact ⟨j + 1, by omega, by omega, by go_num, below_on _ _ HBI.out HB8.out, HT8.out⟩
       ·have hjt' : ¬ (j : Int) < (ns.length : Int) := by omega
        have HEN : Hid (RNo w1 X0 s (i + 1) (.slice qpo (wths L (ns.take j)).length qc) wr) := hid ⟨below_on _ _ (below_on _ _ HBE.out HB6.out) HI.out.be, by
         have e : wths L (ns.take j) = wths [] (nmA X0 s (i + 1)) := by rw [HS1.out, wths_app, HLL.out, List.take_of_length_le (by omega)]
         rw [← e]; exact HI.out.ns, HOK.out (by decide)⟩
        clear HI
        generalize (wths L (ns.take j)).length = m at *
        go_wp2
        go_roundg (k - (i + 1))
        case measure => omega
        case rel => exact ⟨i + 1, by omega, by omega, by go_num, HEN.out⟩
     ·have q0' : ((er : Int) == 0) = false := beq_eq_false_iff_ne.2 (by omega)
      have hnil := HL0.out q0
      have HEN : Hid (RNo w1 X0 s (i + 1) (.slice opo L.length oc) w6) := hid ⟨below_on _ _ HBE.out HB6.out, by
       have e : L = wths [] (nmA X0 s (i + 1)) := by rw [HS1.out, wths_app, HLL.out, hnil]; rfl
       rw [← e]; exact HN0.out.below HB6.out, HOK.out q11⟩
      go_wp2
      go_loopg [6, 10] 1 (fun _ o v wq => o = .slice opo L.length oc ∧ v = .int .i64 0 ∧ wq = w6)
      case atStart => exact ⟨rfl, rfl, rfl⟩
      case round =>
       obtain ⟨rfl, rfl, hw⟩ := hrel
       subst hw
       go_wp2
       go_roundg (k - (i + 1))
       case measure => omega
       case rel => exact ⟨i + 1, by omega, by omega, by go_num, HEN.out⟩
   ·have hlt' : ¬ (i : Int) < (k : Int) := by omega
    have hik : i = k := by omega
    subst hik
    have HE := hid (HFO.out wr _ HI.out)
    clear HI
    generalize (wths [] (nmA X0 s i)).length = m at *
    go_wp2
    exact HE.out
 ·rw [decide_eq_false hck] at HD
  have HE : Hid (∀ W, Below w1.heap.size w1 W → ListAt w1 (nmE k X0) (nmR k X0 s) (.returned (.tuple #[.slice none 0 0, .int .i64 2])) W) := hid (fun W hb => by
   have hE : nmE k X0 = 2 := by unfold nmE; rw [if_pos hck]; unfold ckD at hck ⊢; split at hck; exact absurd rfl hck; rw [if_neg ‹_›]
   unfold nmR; rw [hE, if_neg (by decide)]
   exact ⟨none, 0, rfl, World.ownsRow_nil _ _ _ _, hb⟩)
  generalize ListAt w1 (nmE k X0) (nmR k X0 s) = PP at *
  clear h hl hB
  go_enter Tryz.func25, Tryz.ntmps25
  go_wp2_with (go_at_call 75; refine (HD.out _).mono ?_; rintro e w5 ⟨rfl, hw5⟩; have hw6 := hw5.symm; subst hw6)
  exact HE.out _ (Below.refl _ _)
end
end Go.Proofs.YtfogkegmdgbecaaGreatDoor

/- Read: all drives are asked for a file. -/
namespace Go.Proofs.YtfogkegmdgbecaaGreatDoor
open Go Go.RowKit Go.Shelf

theorem readE_cd (d : Pd) (f : Fs) (s : Nm) : d.readE f s ≤ 13 := by
 unfold Pd.readE; split
 ·exact ans_cd _ _ _
 ·split <;> omega
theorem ret_copy {fn : Func} {p u : Tmp} (h : fn.results = #[.cell p 115, .tmp u]) {R : Ending → World → Prop} {a : Act} {w : World} (g : Nat) (v : Value) (l : Value) (x : Value)
  (hd0 : a.defers = []) (hp : a.tmps.getD p undef = ptr g) (hv : a.tmps.getD u undef = x) (hg : w.heap[g]? = some (.cells #[v, l] 115)) (hR : R (.returned (.tuple #[.agg #[v, l], x])) w) : bodyPost Tryz.prog fn R .ret a w := by
 refine ⟨hd0, .tuple #[.agg #[v, l], x], ?_, hR⟩
 have hi : (Tryz.prog.info? 115).map (·.size) = some 2 := by kernel_rfl
 have hl := run_loadVar_row (P := Tryz.prog) w g _ _ #[v, l] _ _ hg Tryz.underlying115 rfl hi
 rw [results_cell_tmp h, hp, hv]
 simp [asAddr, hl]
def AskAt (W : World) (er : Nat) (bs : List Nat) (e : Ending) (W' : World) : Prop :=
 ∃ po c, e = .returned (.tuple #[.agg #[.int .i64 (er : Int), .slice po bs.length c], brk er]) ∧ W'.ownsRow W.heap.size 5 1 (.slice po bs.length c) bs.length (bs.map u8) ∧ Below W.heap.size W W'
theorem ask_any {W : World} {S : Nat → Prop} {p m : Nat} {fu : Option Nat} {d : Pd} {L : List (Nm × Ent)} {f : Fs} (hd : DrC W S p m fu d L) (hf : FuAt W S fu f) (s : Nm) (hs : s.length ≤ maxLen) : Calls Tryz.prog 74 #[ptr p, sv s] W (AskAt W (d.readE f s) (d.readB f s)) := by
 have HR := hid (read_any (hd.alloc (.cells #[.int .i64 0, .slice none 0 0] 115)) (hf.alloc (.cells #[.int .i64 0, .slice none 0 0] 115)) s hs)
 have hcd := readE_cd d f s
 have hC : CAt (W.alloc (.cells #[.int .i64 0, .slice none 0 0] 115)) W.heap.size #[.int .i64 0, .slice none 0 0] 115 := CAt.made _ _ _
 have HC := hid hC
 have HB0 : Hid (Below W.heap.size W (W.alloc (.cells #[.int .i64 0, .slice none 0 0] 115))) := (Below.refl _ _).alloc (Nat.le_refl _) _
 clear hd hf hC
 generalize d.readE f s = er at *
 generalize d.readB f s = bs at *
 have HBR := hid (fun W => breaks_any er W (by omega))
 go_enter Tryz.func74, Tryz.ntmps74
 go_wp2_with (first
  | (go_at_call 50; refine HR.out.mono ?_; rintro e w2 ⟨po, c, rfl, ho2, hb2⟩; have HO2 := hid ho2; have HC2 := hid (HC.out.below hb2); have HB2 := hid (below_on _ _ HB0.out hb2); clear ho2 hb2; have c0 : w2.cell? ⟨W.heap.size, 0, none⟩ = some (.int .i64 0) := HC2.out.cell 0; have c1 : w2.cell? ⟨W.heap.size, 1, none⟩ = some (.slice none 0 0) := HC2.out.cell 1; have y0 : w2.frozen? ⟨W.heap.size, 0, none⟩ = false := HC2.out.free 0; have y1 : w2.frozen? ⟨W.heap.size, 1, none⟩ = false := HC2.out.free 1)
  | (go_at_call 113; refine (HBR.out _).mono ?_; rintro e w' ⟨rfl, hw'⟩; have hw2 := hw'.symm; subst hw2))
 have hc3 : CAt ((w2.setCell ⟨W.heap.size, 0, none⟩ (.int .i64 (er : Int))).setCell ⟨W.heap.size, 1, none⟩ (.slice po bs.length c)) W.heap.size #[.int .i64 (er : Int), .slice po bs.length c] 115 := by
  have := (HC2.out.set 0 (.int .i64 (er : Int))).set 1 (.slice po bs.length c)
  simpa using this
 refine ret_copy rfl W.heap.size _ _ _ rfl rfl rfl hc3 ?_
 refine ⟨po, c, rfl, ownsRow_keep (own_base HO2.out (by simp)) fun b hb => ?_, (HB2.out.setCell (Nat.le_refl _) _).setCell (Nat.le_refl _) _⟩
 have hne : b ≠ W.heap.size := by have := (own_ge HO2.out b hb).1; simp at this; omega
 exact (heap_setCell_ne _ _ _ _ hne).trans (heap_setCell_ne _ _ _ _ hne)
/-- What is told of the first i of k copies, at g. -/
structure CpL (B : Nat) (W : World) (g k i : Nat) (E : Nat → Nat) (Bs : Nat → List Nat) : Prop where
 ex : ∃ cs, CAt W g cs 115 ∧ cs.size = k * 2 ∧ ∀ j, j < i → ∃ po c, cs[j * 2]? = some (.int .i64 (E j : Int)) ∧ cs[j * 2 + 1]? = some (.slice po (Bs j).length c) ∧ W.ownsRow B 5 1 (.slice po (Bs j).length c) (Bs j).length ((Bs j).map u8)
theorem own_tn {W W' : World} {B D n sz t : Nat} {v : Value} {xs : List Value} (h : W.ownsRow B t sz v n xs) (ht : Tn D W W') : W'.ownsRow B t sz v n xs := by
 refine ownsRow_keep h fun b hb => ?_
 rcases h.2 with ⟨rfl, _⟩ | ⟨g, cap, cur, rfl, _, hg, _⟩
 ·cases hb
 ·cases hb; exact ht.other hg rfl
theorem CpL.tn {B D : Nat} {W W' : World} {g k i : Nat} {E : Nat → Nat} {Bs : Nat → List Nat} (h : CpL B W g k i E Bs) (ht : Tn D W W') : CpL B W' g k i E Bs := by
 obtain ⟨cs, h1, h2, h3⟩ := h.ex
 exact ⟨cs, h1.tn ht, h2, fun j hj => by obtain ⟨po, c, a, b, o⟩ := h3 j hj; exact ⟨po, c, a, b, own_tn o ht⟩⟩
theorem CpL.below {B : Nat} {W W' : World} {g k i : Nat} {E : Nat → Nat} {Bs : Nat → List Nat} (h : CpL B W g k i E Bs) (hb : Below W.heap.size W W') : CpL B W' g k i E Bs := by
 obtain ⟨cs, h1, h2, h3⟩ := h.ex
 exact ⟨cs, h1.below hb, h2, fun j hj => by obtain ⟨po, c, a, b, o⟩ := h3 j hj; exact ⟨po, c, a, b, ownsRow_keep o fun x hx => hb.block x (own_ge o x hx).2⟩⟩
/-- A block that is no bytes is written. -/
theorem CpL.set' {B : Nat} {W : World} {g k i x y : Nat} {v : Value} {E : Nat → Nat} {Bs : Nat → List Nat} {cs : Array Value} {t : TypeId} (h : CpL B W g k i E Bs) (hx : CAt W x cs t) (ht : t ≠ 5) (hne : x ≠ g) : CpL B (W.setCell ⟨x, y, none⟩ v) g k i E Bs := by
 obtain ⟨cs', h1, h2, h3⟩ := h.ex
 refine ⟨cs', h1.keep (heap_setCell_ne _ _ _ _ (Ne.symm hne)), h2, fun j hj => ?_⟩
 obtain ⟨po, c, a, b, o⟩ := h3 j hj
 refine ⟨po, c, a, b, ownsRow_keep o fun z hz => heap_setCell_ne _ _ _ _ fun e => ?_⟩
 subst e
 rcases o.2 with ⟨e2, _⟩ | ⟨g2, cap, cur, e2, _, hg, _⟩
 ·rw [e2] at hz; cases hz
 ·rw [e2] at hz; cases hz
  unfold CAt at hx; rw [hg] at hx; cases hx; exact ht rfl
theorem CpL.next {B : Nat} {W : World} {g k i : Nat} {E : Nat → Nat} {Bs : Nat → List Nat} (h : CpL B W g k i E Bs) (hi : i < k) {po : Option Addr} {c : Nat} (ho : W.ownsRow B 5 1 (.slice po (Bs i).length c) (Bs i).length ((Bs i).map u8)) :
  CpL B ((W.setCell ⟨g, i * 2, none⟩ (.int .i64 (E i : Int))).setCell ⟨g, i * 2 + 1, none⟩ (.slice po (Bs i).length c)) g k (i + 1) E Bs := by
 obtain ⟨cs, h1, h2, h3⟩ := h.ex
 have kp : ∀ {v n xs}, W.ownsRow B 5 1 v n xs → ((W.setCell ⟨g, i * 2, none⟩ (.int .i64 (E i : Int))).setCell ⟨g, i * 2 + 1, none⟩ (.slice po (Bs i).length c)).ownsRow B 5 1 v n xs := fun {v n xs} o => ownsRow_keep o fun z hz => by
  have hne : z ≠ g := fun e => by
   subst e
   rcases o.2 with ⟨e2, _⟩ | ⟨g2, cap, cur, e2, _, hg, _⟩
   ·rw [e2] at hz; cases hz
   ·rw [e2] at hz; cases hz
    unfold CAt at h1; rw [hg] at h1; cases h1
  exact (heap_setCell_ne _ _ _ _ hne).trans (heap_setCell_ne _ _ _ _ hne)
 refine ⟨_, (h1.set _ _).set _ _, by simp [h2], fun j hj => ?_⟩
 by_cases e : j = i
 ·subst e
  refine ⟨po, c, ?_, ?_, kp ho⟩
  ·rw [Array.getElem?_setIfInBounds_ne (by omega), Array.getElem?_setIfInBounds_self_of_lt (by omega)]
  ·rw [Array.getElem?_setIfInBounds_self_of_lt (by simp; omega)]
 ·obtain ⟨po', c', a, b, o⟩ := h3 j (by omega)
  refine ⟨po', c', ?_, ?_, kp o⟩
  ·rw [Array.getElem?_setIfInBounds_ne (by omega), Array.getElem?_setIfInBounds_ne (by omega)]; exact a
  ·rw [Array.getElem?_setIfInBounds_ne (by omega), Array.getElem?_setIfInBounds_ne (by omega)]; exact b
theorem infoCp : (Tryz.prog.info? 115).map (fun i => (i.zero, i.size, i.bytes)) = some (some (.agg #[.int .i64 0, .slice none 0 0]), 2, 32) := by kernel_rfl
theorem make_copies (k : Nat) (hn : k ≤ 1000) (w : World) :
  ∃ cs : Array Value, cs.size = k * 2 ∧ (Instr.makeSlice 54 (.int .i64 (k : Int)) (.int .i64 (k : Int))).run Tryz.prog w = .ok (.slice (some ⟨w.heap.size, 0, none⟩) k k) (w.alloc (.cells cs 115)) := by
 obtain ⟨i0, hi, hz0, hz1, hz2⟩ := info_parts infoCp
 have h := run_make (P := Tryz.prog) w 54 115 i0 (.agg #[.int .i64 0, .slice none 0 0]) Tryz.underlying54 hi hz0 .i64 .i64 k k (by omega) (Int.le_refl _) (by rw [hz2]; omega) (by omega)
 refine ⟨_, ?_, h⟩
 rw [hz1]
 simp [madeCells]
end Go.Proofs.YtfogkegmdgbecaaGreatDoor
