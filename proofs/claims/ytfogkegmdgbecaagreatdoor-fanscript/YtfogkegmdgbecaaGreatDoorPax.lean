/- Texts laid into one, cut to what is needed: the remark ahead of each part says what is proved there. -/
import Derived.Test.YtfogkegmdgbecaaGreatDoorPaw
import Derived.Test.YtfogkegmdgbecaaGreatDoorPav
import Derived.Maps.AppendAt
/- The document's Clean. (Written by tools/gen_Yk.py.) -/
namespace Go.Proofs.YtfogkegmdgbecaaGreatDoor
open Go Go.RowKit Go.Shelf

def Bc (k i : Nat) (d : Nat → Pd) : Prop := ∀ j, j < k → i ≤ j → Bnd 800000 800000000 (d j) ∧ ∀ x ∈ (d j).F, okNm x.1 = true
theorem Bc.set {k i : Nat} {d : Nat → Pd} (h : Bc k i d) (x : Pd) : Bc k (i + 1) (upd d i x) := fun j hj hi => by rw [upd_ne _ _ (by omega)]; exact h j hj (by omega)
theorem clD_out {s : Nm} {m i n : Nat} {X : FS} (h : (X.d i).ans X.f [] = 11) : delD (clnN s) (m + 1) i n X = (true, n, X) := by rw [delD, if_pos (show (clnN s i (X.d i) X.f).1 = 11 from h)]
theorem clD_brk {s : Nm} {m i n : Nat} {X : FS} (h : ¬ (X.d i).ans X.f [] = 11) (h2 : (delL ((X.d i).list X.f (tmpN s)) (X.d i) X.f n).1 = true) : delD (clnN s) (m + 1) i n X = (true, (delL ((X.d i).list X.f (tmpN s)) (X.d i) X.f n).2.1, ⟨upd X.d i (delL ((X.d i).list X.f (tmpN s)) (X.d i) X.f n).2.2.1, (delL ((X.d i).list X.f (tmpN s)) (X.d i) X.f n).2.2.2⟩) := by
 rw [delD, if_neg (show ¬ (clnN s i (X.d i) X.f).1 = 11 from h), if_pos (show (delL (clnN s i (X.d i) X.f).2 (X.d i) X.f n).1 = true from h2)]; rfl
theorem clD_on {s : Nm} {m i n : Nat} {X : FS} (h : ¬ (X.d i).ans X.f [] = 11) (h2 : (delL ((X.d i).list X.f (tmpN s)) (X.d i) X.f n).1 = false) : delD (clnN s) (m + 1) i n X = delD (clnN s) m (i + 1) (delL ((X.d i).list X.f (tmpN s)) (X.d i) X.f n).2.1 ⟨upd X.d i (delL ((X.d i).list X.f (tmpN s)) (X.d i) X.f n).2.2.1, (delL ((X.d i).list X.f (tmpN s)) (X.d i) X.f n).2.2.2⟩ := by
 rw [delD, if_neg (show ¬ (clnN s i (X.d i) X.f).1 = 11 from h), if_neg (show ¬ (delL (clnN s i (X.d i) X.f).2 (X.d i) X.f n).1 = true from by simp only [clnN]; rw [h2]; simp)]; rfl
theorem list_lenF (d : Pd) (f : Fs) (s : Nm) : (d.list f s).length ≤ d.F.length := by
 unfold Pd.list namesOf; split
 ·rw [List.length_map]; exact List.length_filter_le _ _
 ·simp
theorem list_okF {d : Pd} {f : Fs} {s : Nm} (h : ∀ x ∈ d.F, okNm x.1 = true) : ∀ x ∈ d.list f s, x.length ≤ 512 := fun x hx => by
 unfold Pd.list namesOf at hx; split at hx
 ·obtain ⟨y, hy, rfl⟩ := List.mem_map.1 hx
  exact ok_len (h y (List.mem_filter.1 hy).1)
 ·simp at hx
theorem list_out {d : Pd} {f : Fs} {s : Nm} (h : ¬ d.ans f [] = 0) : d.list f s = [] := by unfold Pd.list; rw [if_neg h]
theorem RI.join {w w1 W W2 : World} {T T' : Nat → Prop} {k : Nat} {p : Nat → Nat} {d2 : Nat → Pd} {f2 : Fs} (hg : Grows w1 T T') (ho : Only T w1 W) (h2 : RI w W T' k p d2 f2 W2) : RI w w1 T k p d2 f2 W2 := by
 obtain ⟨T2, hg2, hr2⟩ := h2.ex
 have hs := ho.size
 exact ⟨⟨T2, ⟨fun b hb => hg2.1 b (hg.1 b hb), fun b hb => (hg2.2 b hb).elim (hg.2 b) (fun hl => .inr (by omega))⟩, hr2⟩, ho.then h2.on (fun b hb ht => (hg.2 b ht).elim id (fun hl => by omega))⟩
structure RCo (w w1 : World) (T : Nat → Prop) (k : Nat) (p : Nat → Nat) (s : Nm) (R : Bool × Nat × FS) (i n : Nat) (W : World) : Prop where
 ex : ∃ Y, R = delD (clnN s) (k - i) i n Y ∧ RI w w1 T k p Y.d Y.f W ∧ Bc k i Y.d
/-- While what is listed of drive i is deleted: it goes on (0), or it is broken (11). -/
structure RCi (w w1 : World) (T : Nat → Prop) (k : Nat) (p : Nat → Nat) (d : Nat → Pd) (i : Nat) (L : List Nm) (R : Bool × Nat × Pd × Fs) (j n e : Nat) (W : World) : Prop where
 ex : ∃ dj fj, (e = 0 ∧ R = delL (L.drop j) dj fj n ∨ e = 11 ∧ R = (true, n, dj, fj)) ∧ RI w w1 T k p (upd d i dj) fj W ∧ Bnd 800000 (800000000 + j) dj
theorem tx_of {B : Nat} {w : World} {po : Option Addr} {c : Nat} {ns : List Nm} (h : TxtL B w (.slice po ns.length c) ns) : TxO w po ns := by
 rcases h.2 with ⟨h1, h0⟩ | ⟨g, cap, cur, h1, _, hg, h2, _, h3, h4⟩
 ·exact .inl (List.length_eq_zero_iff.1 h0)
 ·cases h1
  refine .inr ⟨g, 0, rfl, fun i hi => ?_⟩
  have hc : CAt w g cur 9 := hg
  rw [Nat.zero_add, hc.cell]
  have e : cur.toList[i]? = (ns.map sv)[i]? := by rw [← h4, List.getElem?_take, if_pos (by omega)]
  rw [← Array.getElem?_toList, e, List.getElem?_map, List.getElem?_eq_getElem hi, getD_in _ _ _ hi]; rfl
section
variable {w w1 : World} {T : Nat → Prop} {k : Nat} {p : Nat → Nat} {X0 : FS}
set_option maxHeartbeats 4000000 in
set_option maxRecDepth 100000 in
theorem rfclean_any (h : RA w w1 T k p X0.d X0.f 0) {lv : Value} (hl : LsAt w1 T lv k p) (hk : k ≤ 1000) (hB : ∀ i, i < k → Bnd 800000 800000000 (X0.d i)) (hO : ∀ i, i < k → ∀ x ∈ (X0.d i).F, okNm x.1 = true) (s : Nm) (hs : s.length ≤ 1000) :
  Calls Tryz.prog 23 #[lv, sv s] w1 (RDC w w1 T k p (clnR k s X0).1 (clnR k s X0).2.1 (clnR k s X0).2.2) := by
 obtain ⟨lpo, lc, hlv⟩ := hl.form
 subst hlv
 have HD := hid (fun W => rdrives_any lpo k lc hk W)
 have HSD := hid (fun W => rstaged_any s W hs)
 unfold clnR
 by_cases hck : ckD k = 0
 ·rw [if_neg (by omega)]
  rw [decide_eq_true hck] at HD
  have hk16 : 1 ≤ k ∧ k ≤ 16 := by unfold ckD at hck; split at hck <;> simp_all
  obtain ⟨R, hR⟩ : ∃ R, delD (clnN s) k 0 0 X0 = R := ⟨_, rfl⟩
  rw [hR]
  have HFB : Hid (∀ W d f n, RI w w1 T k p d f W → R = (true, n, ⟨d, f⟩) → RDC w w1 T k p (if R.1 then 11 else 0) (if R.1 then 0 else R.2.1) R.2.2 (.returned (.tuple #[.int .i64 0, .int .i64 11])) W) := hid (fun W d f n h e => by rw [e]; exact ⟨rfl, h.done⟩)
  have HFO : Hid (∀ W d f n, RI w w1 T k p d f W → R = (false, n, ⟨d, f⟩) → RDC w w1 T k p (if R.1 then 11 else 0) (if R.1 then 0 else R.2.1) R.2.2 (.returned (.tuple #[.int .i64 (n : Int), .int .i64 0])) W) := hid (fun W d f n h e => by rw [e]; exact ⟨rfl, h.done⟩)
  have H0 : Hid (RCo w w1 T k p s R 0 0 w1) := hid ⟨X0, hR.symm, RI.start h, fun j hj _ => ⟨hB j hj, hO j hj⟩⟩
  generalize RDC w w1 T k p (if R.1 then 11 else 0) (if R.1 then 0 else R.2.1) R.2.2 = PP at *
  obtain ⟨bl, hbl, hnl, hlc⟩ : ∃ bl, lpo = some ⟨bl, 0, none⟩ ∧ ¬ T bl ∧ ∀ j, j < k → w1.cell? ⟨bl, j, none⟩ = some (ptr (p j)) := by
   rcases hl.ex with ⟨h0, _⟩ | ⟨h0, b, c, h1, h2, h3⟩
   ·omega
   ·cases h1; exact ⟨b, rfl, h2, h3⟩
  subst hbl
  have HLS : Hid (∀ W d f, RI w w1 T k p d f W → ∀ i, i < k → W.cell? ⟨bl, i, none⟩ = some (ptr (p i))) := hid (fun W d f hx i hi => (World.cell?_of_block (a := ⟨bl, i, none⟩) (hx.on.block bl (cell_lt2 (hlc 0 (by omega))) hnl)).trans (hlc i hi))
  clear h hl hB hO hR hck hnl hlc
  go_enter Tryz.func23, Tryz.ntmps23
  go_wp2_with (go_at_call 75; refine (HD.out _).mono ?_; rintro e w5 ⟨rfl, hw5⟩; have hw6 := hw5.symm; subst hw6)
  go_loopg [6, 7] k (fun gg q v wr => ∃ i n : Nat, i ≤ k ∧ k - i ≤ gg ∧ n ≤ 800000 * i ∧ q = .int .i64 (n : Int) ∧ v = .int .i64 (i : Int) ∧ RCo w w1 T k p s R i n wr)
  case atStart => exact ⟨0, 0, Nat.zero_le _, by omega, Nat.le_refl _, rfl, rfl, H0.out⟩
  case round =>
   clear H0
   obtain ⟨i, n, hi, hgg, hni, rfl, rfl, hI⟩ := hrel
   obtain ⟨Y, hRi, hX, hBg⟩ := hI.ex
   clear hI
   by_cases hlt : i < k
   ·have hlt' : (i : Int) < (k : Int) := by omega
    have hi2 : (i : Int) < 1000 := by omega
    rw [show k - i = (k - (i + 1)) + 1 by omega] at hRi
    obtain ⟨T', hg, hra⟩ := hX.ex
    have z0 := HLS.out wr _ _ hX i hlt
    have HLI : Hid (∀ W', Below wr.heap.size wr W' → Calls Tryz.prog 42 #[ptr (p i), sv (tmpN s)] W' (ListAt W' ((Y.d i).ans Y.f []) ((Y.d i).list Y.f (tmpN s)))) := hid (fun W' hb => (hra.below hb).look hlt fun fu S v L hd hf => rlist_any hd (by simpa [fAt] using hf) (tmpN s) (by rw [hd.lenF]; exact Nat.lt_of_le_of_lt (hBg i hlt (Nat.le_refl _)).1.1 (by decide)))
    have HCC : Hid (∀ W', Below wr.heap.size wr W' → W'.cell? ⟨bl, i, none⟩ = some (ptr (p i))) := hid (fun W' hb => HLS.out _ _ _ (hX.below hb) i hlt)
    have HAO := hid (fun e => hRi.trans (clD_out e))
    have HAB := hid (fun e e2 => hRi.trans (clD_brk e e2))
    have HAN := hid (fun e e2 => hRi.trans (clD_on e e2))
    have HBC := hid (fun x => hBg.set x)
    have hnn := list_lenF (Y.d i) Y.f (tmpN s)
    have hF8 := (hBg i hlt (Nat.le_refl _)).1.1
    have HOK : Hid (∀ x ∈ (Y.d i).list Y.f (tmpN s), x.length ≤ 512) := hid (list_okF (hBg i hlt (Nat.le_refl _)).2)
    have HNL : Hid (¬ (Y.d i).ans Y.f [] = 0 → (Y.d i).list Y.f (tmpN s) = []) := hid (fun e => list_out e)
    have HBD := hid (hBg i hlt (Nat.le_refl _)).1
    have HRA := hid hra
    have HGR := hid hg
    have HXX := hid hX
    have hcd := ans_cd (Y.d i) Y.f []
    have hnl2 : ((Y.d i).list Y.f (tmpN s)).length ≤ 800000 := by omega
    clear hRi hBg hra hg hX hnn hF8
    obtain ⟨er, her⟩ : ∃ er, (Y.d i).ans Y.f [] = er := ⟨_, rfl⟩
    obtain ⟨ns, hns⟩ : ∃ ns, (Y.d i).list Y.f (tmpN s) = ns := ⟨_, rfl⟩
    rw [her] at HLI HAO HAB HAN HNL hcd
    rw [hns] at HLI HAB HAN HOK HNL hnl2
    clear her hns
    go_wp2_with fail
    go_region_held3 (fun w' => w'.cell? ⟨bl, i, none⟩ = some (ptr (p i))) (first | exact hc6 | exact HCC.out _ (Below.refl _ _) | exact HCC.out _ (below_drewN _ _)) (first
     | (go_at_call 84; refine (HSD.out _).mono ?_; rintro e w' ⟨rfl, hw'⟩; have hw2 := hw'.symm; subst hw2)
     | (go_at_call 42; (first | refine (HLI.out _ (below_drewN _ _)).mono ?_ | refine (HLI.out _ (Below.refl _ _)).mono ?_); rintro e w6 ⟨npo, nc, rfl, ht6, hb6⟩; have hb7 : Below wr.heap.size wr w6 := (by first | exact hb6 | exact below_on _ _ (below_drewN _ _) hb6); have HB6 := hid hb7; have HT6 := hid ht6; have hc6 := HCC.out _ hb7; clear ht6 hb6 hb7))
    clear hc6 HCC HLI z0
    have HX6 : Hid (RI w w6 T' k p Y.d Y.f w6) := hid (RI.start (HRA.out.below HB6.out))
    have HJ6 : Hid (∀ d2 f2 W2, RI w w6 T' k p d2 f2 W2 → RI w w1 T k p d2 f2 W2) := hid (fun d2 f2 W2 h2 => RI.join HGR.out ((HXX.out.below HB6.out).on) h2)
    have HTX : Hid (∀ d2 f2 W2, RI w w6 T' k p d2 f2 W2 → TxO W2 npo ns) := hid (fun d2 f2 W2 h2 => h2.tx (tx_of HT6.out) (fun a e _ hT => by
     have hl := HRA.out.lt _ hT
     subst e
     have h5 : wr.heap.size ≤ a.block := (own_ge HT6.out a.block rfl).1
     omega))
    by_cases q11 : er = 11
    ·subst q11
     have HE := hid (HAO.out rfl)
     go_wp2
     go_loopg [6, 9, 10] 1 (fun _ q x v wq => q = .int .i64 (n : Int) ∧ x = .int .i64 11 ∧ v = .int .i64 0 ∧ wq = w6)
     case atStart => exact ⟨rfl, rfl, rfl, rfl⟩
     case round =>
      obtain ⟨rfl, rfl, rfl, hw⟩ := hrel
      subst hw
      go_wp2
      exact HFB.out _ _ _ _ (HJ6.out _ _ _ HX6.out) HE.out
    ·have q11' : ((er : Int) == 11) = false := beq_eq_false_iff_ne.2 (by omega)
     obtain ⟨E, hE⟩ : ∃ E, delL ns (Y.d i) Y.f n = E := ⟨_, rfl⟩
     rw [hE] at HAB HAN
     have HI0 : Hid (RCi w w6 T' k p Y.d i ns E 0 n 0 w6) := hid ⟨Y.d i, Y.f, .inl ⟨rfl, hE.symm⟩, by rw [upd_id]; exact HX6.out, HBD.out⟩
     have HEM : Hid (¬ er = 0 → E = (false, n, Y.d i, Y.f)) := hid (fun e => by rw [← hE, HNL.out e]; rfl)
     obtain ⟨b1, m1, d1, f1⟩ := E
     clear hE
     by_cases q0 : er = 0
     ·subst q0
      have HLN : Hid (∀ j, j < ns.length → (ns.getD j []).length ≤ 512) := hid (fun j hj => HOK.out _ (by rw [getD_in _ _ _ hj]; exact List.getElem_mem hj))
      have HGE : Hid (∀ j (hj : j < ns.length), ns.drop j = ns.getD j [] :: ns.drop (j + 1)) := hid (fun j hj => by rw [getD_in _ _ _ hj]; exact List.drop_eq_getElem_cons hj)
      go_wp2
      go_loopg [6, 9, 10] ns.length (fun gg q x v wq => ∃ j m e : Nat, j ≤ ns.length ∧ ns.length - j ≤ gg ∧ m ≤ n + j ∧ q = .int .i64 (m : Int) ∧ x = .int .i64 (e : Int) ∧ v = .int .i64 (j : Int) ∧ RCi w w6 T' k p Y.d i ns (b1, m1, d1, f1) j m e wq)
      case atStart => exact ⟨0, n, 0, Nat.zero_le _, by omega, Nat.le_refl _, rfl, rfl, rfl, HI0.out⟩
      case round =>
       clear HI0
       obtain ⟨j, m, e0, hj, hgj, hm, rfl, rfl, rfl, hI⟩ := hrel
       obtain ⟨dj, fj, hcase, hX, hBj⟩ := hI.ex
       clear hI
       rcases hcase with ⟨rfl, hRj⟩ | ⟨rfl, hRj⟩
       ·by_cases hjt : j < ns.length
        ·have hjt' : (j : Int) < (ns.length : Int) := by omega
         have hj2 : (j : Int) < 1000000 := by omega
         have hm2 : (m : Int) < 1000000000 := by omega
         have z0 := HLS.out wr _ _ (HJ6.out _ _ _ hX) i hlt
         obtain ⟨br, or_, hp, z1⟩ := (HTX.out _ _ wr hX).cell hjt
         subst hp
         rw [HGE.out j hjt] at hRj
         have HDE : Hid (∀ W', Below wr.heap.size wr W' → Calls Tryz.prog 81 #[ptr (p i), sv (ns.getD j [])] W' fun e W2 => e = .returned (.int .i64 ((dj.delete fj (ns.getD j [])).1 : Int)) ∧ RI w w6 T' k p (upd Y.d i (dj.delete fj (ns.getD j [])).2.1) (dj.delete fj (ns.getD j [])).2.2 W2) := hid (fun W' hb => by
          have hc := (hX.below hb).delete hlt (by rw [upd_same]; exact hBj.mono (by omega) (by omega)) (ns.getD j []) (by have := HLN.out j hjt; unfold maxLen; omega)
          rw [upd_same, upd_upd] at hc
          exact hc)
         have HSC : Hid (∀ W d f, RI w w6 T' k p d f W → W.cell? ⟨bl, i, none⟩ = some (ptr (p i)) ∧ W.cell? ⟨br, or_ + j, none⟩ = some (sv (ns.getD j []))) := hid (fun W d f hx => ⟨HLS.out W _ _ (HJ6.out _ _ _ hx) i hlt, by
          obtain ⟨b', o', e', h'⟩ := (HTX.out _ _ W hx).cell hjt
          cases e'; exact h'⟩)
         have HCC : Hid (∀ W', Below wr.heap.size wr W' → W'.cell? ⟨bl, i, none⟩ = some (ptr (p i)) ∧ W'.cell? ⟨br, or_ + j, none⟩ = some (sv (ns.getD j []))) := hid (fun W' hb => HSC.out _ _ _ (hX.below hb))
         have HGA := hid (fun hh => hRj.trans (delL_go (r := ns.drop (j + 1)) (s := ns.getD j []) (d := dj) (f := fj) (n := m) hh))
         have HGS := hid (fun hh => hRj.trans (delL_stop (r := ns.drop (j + 1)) (s := ns.getD j []) (d := dj) (f := fj) (n := m) hh))
         have HB1 := hid (bnd_delete hBj fj (ns.getD j []))
         clear hRj hX hBj
         generalize ns.getD j [] = t at *
         generalize dj.delete fj t = ew at *
         obtain ⟨e1, d2, f2⟩ := ew
         dsimp only at *
         go_wp2_with fail
         go_region_held3 (fun w' => w'.cell? ⟨bl, i, none⟩ = some (ptr (p i)) ∧ w'.cell? ⟨br, or_ + j, none⟩ = some (sv t)) (first | exact hc6 | exact HCC.out _ (Below.refl _ _) | exact HCC.out _ (below_drewN _ _)) (first | (go_at_call 81; (first | refine (HDE.out _ (below_drewN _ _)).mono ?_ | refine (HDE.out _ (Below.refl _ _)).mono ?_); rintro e w8 ⟨rfl, hx8⟩; have HX8 := hid hx8; have hc6 := HSC.out _ _ _ hx8; clear hx8))
         clear hc6 z0 z1 HDE HSC HCC
         by_cases r1 : e1 = 11
         ·subst r1
          have HE := hid (HGS.out rfl)
          clear HGA HGS
          go_wp2
          go_roundg (ns.length - (j + 1))
          case measure => omega
          case rel => exact ⟨j + 1, m, 11, by omega, by omega, by omega, by go_num, rfl, by go_num, ⟨d2, f2, .inr ⟨rfl, HE.out⟩, HX8.out, HB1.out.mono (by omega) (by omega)⟩⟩
         ·have r1' : ((e1 : Int) == 11) = false := beq_eq_false_iff_ne.2 (by omega)
          have HE := hid (HGA.out r1)
          clear HGA HGS
          by_cases r0 : e1 = 0
          ·subst r0
           go_wp2
           go_roundg (ns.length - (j + 1))
           case measure => omega
           case rel => exact ⟨j + 1, m + 1, 0, by omega, by omega, by omega, by go_num, rfl, by go_num, ⟨d2, f2, .inl ⟨rfl, HE.out⟩, HX8.out, HB1.out.mono (by omega) (by omega)⟩⟩
          ·have r0' : ((e1 : Int) == 0) = false := beq_eq_false_iff_ne.2 (by omega)
           have he := HE.out
           rw [if_neg r0] at he
           have HE2 := hid he
           clear he HE
           go_wp2
           go_roundg (ns.length - (j + 1))
           case measure => omega
           case rel => exact ⟨j + 1, m, 0, by omega, by omega, by omega, by go_num, rfl, by go_num, ⟨d2, f2, .inl ⟨rfl, HE2.out⟩, HX8.out, HB1.out.mono (by omega) (by omega)⟩⟩
        ·have hjt' : ¬ (j : Int) < (ns.length : Int) := by omega
         have he : (b1, m1, d1, f1) = (false, m, dj, fj) := by rw [hRj, List.drop_of_length_le (by omega)]; rfl
         cases he
         have HXX2 := hid (HJ6.out _ _ _ hX)
         have HE := hid (HAN.out (by decide) rfl)
         clear hRj hX hBj
         go_wp2
         go_roundg (k - (i + 1))
         case measure => omega
         case rel => exact ⟨i + 1, _, by omega, by omega, by omega, by go_num, by go_num, ⟨⟨upd Y.d i _, _⟩, HE.out, HXX2.out, HBC.out _⟩⟩
       ·cases hRj
        have HXX2 := hid (HJ6.out _ _ _ hX)
        have HE := hid (HAB.out (by decide) rfl)
        clear hX hBj
        go_wp2
        exact HFB.out _ _ _ _ HXX2.out HE.out
     ·have q0' : ((er : Int) == 0) = false := beq_eq_false_iff_ne.2 (by omega)
      have he := HEM.out q0
      cases he
      have HE := hid (HAN.out q11 rfl)
      have HXX2 := hid (HJ6.out _ _ _ HX6.out)
      go_wp2
      go_loopg [6, 9, 10] 1 (fun _ q x v wq => q = .int .i64 (n : Int) ∧ x = .int .i64 (er : Int) ∧ v = .int .i64 0 ∧ wq = w6)
      case atStart => exact ⟨rfl, rfl, rfl, rfl⟩
      case round =>
       obtain ⟨rfl, rfl, rfl, hw⟩ := hrel
       subst hw
       go_wp2
       go_roundg (k - (i + 1))
       case measure => omega
       case rel => exact ⟨i + 1, n, by omega, by omega, by omega, by go_num, by go_num, ⟨⟨upd Y.d i _, _⟩, HE.out, by dsimp only; rw [upd_id]; exact HXX2.out, HBC.out _⟩⟩
   ·have hlt' : ¬ (i : Int) < (k : Int) := by omega
    have hik : i = k := by omega
    have hE : R = (false, n, Y) := by rw [hRi, hik, Nat.sub_self]; rfl
    have HE := hid (HFO.out wr _ _ n hX hE)
    clear hRi hX hBg hE
    go_wp2
    exact HE.out
 ·rw [if_pos hck, show ckD k = 2 from by unfold ckD at hck ⊢; split at hck; exact absurd rfl hck; rw [if_neg ‹_›]]
  rw [decide_eq_false hck] at HD
  have HH := hid h
  clear h hl hB hO
  go_enter Tryz.func23, Tryz.ntmps23
  go_wp2_with (go_at_call 75; refine (HD.out _).mono ?_; rintro e w5 ⟨rfl, hw5⟩; have hw6 := hw5.symm; subst hw6)
  go_ret2
  exact ⟨rfl, (RI.start HH.out).done⟩
end
end Go.Proofs.YtfogkegmdgbecaaGreatDoor

/- slices.Compact of texts: as mathematics. -/
namespace Go.Proofs.YtfogkegmdgbecaaGreatDoor
open Go Go.RowKit Go.Shelf

/-- What is left of a list where of equal neighbours one stays: the rest, after its last text x. -/
def cmpF : Nm → List Nm → List Nm
 | _, [] => []
 | x, y :: r => if y = x then cmpF x r else y :: cmpF y r
def cmpL : List Nm → List Nm
 | [] => []
 | x :: r => x :: cmpF x r
theorem cmpF_snoc : ∀ (x : Nm) (l : List Nm) (y : Nm), cmpF x (l ++ [y]) = if y = (x :: l).getLast (by simp) then cmpF x l else cmpF x l ++ [y]
 | x, [], y => by by_cases h : y = x <;> simp [cmpF, h]
 | x, z :: r, y => by
  have e : (x :: z :: r).getLast (by simp) = (z :: r).getLast (by simp) := List.getLast_cons (by simp)
  simp only [List.cons_append, cmpF]
  by_cases h : z = x
  ·subst h
   rw [if_pos rfl, if_pos rfl, cmpF_snoc z r y, e]
  ·rw [if_neg h, if_neg h, cmpF_snoc z r y, e]
   split <;> rfl
theorem cmpL_snoc (x : Nm) (l : List Nm) (y : Nm) : cmpL (x :: l ++ [y]) = if y = (x :: l).getLast (by simp) then cmpL (x :: l) else cmpL (x :: l) ++ [y] := by
 simp only [List.cons_append, cmpL]
 rw [cmpF_snoc]
 split <;> rfl
/-- One text more of a list. -/
theorem cmpL_take (l : List Nm) (k : Nat) (h0 : 0 < k) (hk : k < l.length) : cmpL (l.take (k + 1)) = if l.getD k [] = l.getD (k - 1) [] then cmpL (l.take k) else cmpL (l.take k) ++ [l.getD k []] := by
 have e1 : l.take (k + 1) = l.take k ++ [l[k]] := by rw [List.take_add_one, List.getElem?_eq_getElem hk]; rfl
 cases l with
 | nil => simp at hk
 | cons x r =>
  obtain ⟨j, rfl⟩ : ∃ j, k = j + 1 := ⟨k - 1, by omega⟩
  rw [e1]
  simp only [List.take_succ_cons]
  rw [cmpL_snoc]
  have e2 : (x :: r.take j).getLast (by simp) = (x :: r).getD (j + 1 - 1) [] := by
   rw [List.getLast_eq_getElem]
   simp only [List.length_cons, List.length_take, Nat.add_sub_cancel]
   simp at hk
   rw [getD_in _ _ _ (by simp; omega)]
   have hm : min j r.length = j := by omega
   simp only [hm]
   cases j with
   | zero => rfl
   | succ j => simp
  rw [e2, getD_in _ _ _ hk]
end Go.Proofs.YtfogkegmdgbecaaGreatDoor

/- Names of all drives, as mathematics: sorted and compacted, or put in one by one. -/
namespace Go.Proofs.YtfogkegmdgbecaaGreatDoor
open Go Go.RowKit Go.Shelf

def wth : List Nm → Nm → List Nm
 | [], s => [s]
 | y :: r, s => if bytesBefore y s then y :: wth r s else if y = s then y :: r else s :: y :: r
def SSrt (l : List Nm) : Prop := l.Pairwise fun a b => bytesBefore a b = true
theorem wth_mem : ∀ (l : List Nm) (s x : Nm), x ∈ wth l s ↔ x = s ∨ x ∈ l
 | [], s, x => by simp [wth]
 | y :: r, s, x => by
  unfold wth; split
  ·rw [List.mem_cons, wth_mem r s x, List.mem_cons]
   exact ⟨fun h => h.elim (fun h => .inr (.inl h)) (fun h => h.elim .inl (fun h => .inr (.inr h))), fun h => h.elim (fun h => .inr (.inl h)) (fun h => h.elim .inl (fun h => .inr (.inr h)))⟩
  ·split
   ·rename_i e; subst e; simp
   ·rw [List.mem_cons]
theorem wth_srt : ∀ (l : List Nm) (s : Nm), SSrt l → SSrt (wth l s)
 | [], s, _ => by simp [wth, SSrt]
 | y :: r, s, h => by
  obtain ⟨h1, h2⟩ := List.pairwise_cons.1 h
  unfold wth; split
  ·rename_i hb
   refine List.pairwise_cons.2 ⟨fun x hx => ?_, wth_srt r s h2⟩
   rcases (wth_mem r s x).1 hx with rfl | hx
   ·exact hb
   ·exact h1 x hx
  ·rename_i hb
   split
   ·exact h
   ·rename_i hne
    have hsy : bytesBefore s y = true := (bb_total hne).elim (fun h => absurd h hb) id
    refine List.pairwise_cons.2 ⟨fun x hx => ?_, h⟩
    rcases List.mem_cons.1 hx with rfl | hx
    ·exact hsy
    ·exact bb_trans hsy (h1 x hx)
theorem wth_len (l : List Nm) (s : Nm) : (wth l s).length ≤ l.length + 1 := by
 induction l with
 | nil => simp [wth]
 | cons y r ih =>
  unfold wth; split
  ·simp only [List.length_cons]; omega
  ·split <;> simp only [List.length_cons] <;> omega
def wths (l : List Nm) (xs : List Nm) : List Nm := xs.foldl wth l
theorem wths_mem : ∀ (xs l : List Nm) (x : Nm), x ∈ wths l xs ↔ x ∈ l ∨ x ∈ xs
 | [], l, x => by simp [wths]
 | y :: r, l, x => by
  show x ∈ wths (wth l y) r ↔ _
  rw [wths_mem r (wth l y) x, wth_mem, List.mem_cons]
  exact ⟨fun h => h.elim (fun h => h.elim (fun h => .inr (.inl h)) .inl) (fun h => .inr (.inr h)), fun h => h.elim (fun h => .inl (.inr h)) (fun h => h.elim (fun h => .inl (.inl h)) .inr)⟩
theorem wths_srt : ∀ (xs l : List Nm), SSrt l → SSrt (wths l xs)
 | [], _, h => h
 | y :: r, l, h => wths_srt r (wth l y) (wth_srt l y h)
theorem wths_len : ∀ (xs l : List Nm), (wths l xs).length ≤ l.length + xs.length
 | [], l => by simp [wths]
 | y :: r, l => by
  have h1 := wths_len r (wth l y)
  have h2 := wth_len l y
  show (wths (wth l y) r).length ≤ _
  simp only [List.length_cons]; omega
theorem wths_app (l xs ys : List Nm) : wths l (xs ++ ys) = wths (wths l xs) ys := by unfold wths; rw [List.foldl_append]
theorem cmpF_mem : ∀ (x : Nm) (l : List Nm) (z : Nm), (z = x ∨ z ∈ cmpF x l) ↔ (z = x ∨ z ∈ l)
 | x, [], z => by simp [cmpF]
 | x, y :: r, z => by
  unfold cmpF; split
  ·rename_i e; subst e
   rw [cmpF_mem y r z, List.mem_cons]
   exact ⟨fun h => h.elim .inl (fun h => .inr (.inr h)), fun h => h.elim .inl (fun h => h.elim .inl .inr)⟩
  ·have := cmpF_mem y r z
   rw [List.mem_cons, List.mem_cons]
   exact ⟨fun h => h.elim .inl (fun h => .inr (this.1 h)), fun h => h.elim .inl (fun h => .inr (this.2 h))⟩
theorem cmpL_mem (l : List Nm) (z : Nm) : z ∈ cmpL l ↔ z ∈ l := by
 cases l with
 | nil => simp [cmpL]
 | cons x r => unfold cmpL; rw [List.mem_cons, List.mem_cons]; exact cmpF_mem x r z
theorem cmpF_srt : ∀ (x : Nm) (l : List Nm), (x :: l).Pairwise (fun a b => decide (a ≤ b) = true) → SSrt (x :: cmpF x l)
 | x, [], _ => by simp [cmpF, SSrt]
 | x, y :: r, h => by
  obtain ⟨h1, h2⟩ := List.pairwise_cons.1 h
  unfold cmpF; split
  ·rename_i e; subst e; exact cmpF_srt y r h2
  ·rename_i hne
   have hxy : bytesBefore x y = true := by
    have := h1 y (by simp)
    rw [bb_lt]
    exact Std.lt_of_le_of_ne (by simpa using this) (fun e => hne e.symm)
   have ih := cmpF_srt y r h2
   refine List.pairwise_cons.2 ⟨fun z hz => ?_, ih⟩
   rcases List.mem_cons.1 hz with rfl | hz
   ·exact hxy
   ·exact bb_trans hxy ((List.pairwise_cons.1 ih).1 z hz)
theorem cmpL_srt (l : List Nm) (h : l.Pairwise (fun a b => decide (a ≤ b) = true)) : SSrt (cmpL l) := by
 cases l with
 | nil => simp [cmpL, SSrt]
 | cons x r => exact cmpF_srt x r h
theorem ssrt_ext {L M : List Nm} (hL : SSrt L) (hM : SSrt M) (h : ∀ s, s ∈ L ↔ s ∈ M) : L = M := by
 have nd : ∀ (K : List Nm), SSrt K → K.Nodup := fun K hK => List.Pairwise.imp (R := fun (p q : Nm) => bytesBefore p q = true) (fun {a b} h => bb_ne h) hK
 refine List.Perm.eq_of_pairwise (le := fun (p q : Nm) => bytesBefore p q = true) (fun a b _ _ h1 h2 => ?_) hL hM ((List.perm_ext_iff_of_nodup (nd L hL) (nd M hM)).2 h)
 have := bb_trans h1 h2; rw [bb_irrefl] at this; cases this
theorem names_one (l : List Nm) : cmpL (l.mergeSort fun x y => decide (x ≤ y)) = wths [] l := by
 refine ssrt_ext (cmpL_srt _ (List.pairwise_mergeSort (fun a b c h1 h2 => ?_) (fun a b => ?_) l)) (wths_srt l [] (by simp [SSrt])) (fun s => ?_)
 ·simp only [decide_eq_true_eq] at *; exact Std.le_trans h1 h2
 ·have := Std.le_total (a := a) (b := b); simpa [Bool.or_eq_true] using this
 ·rw [cmpL_mem, wths_mem]; simp [(List.mergeSort_perm l _).mem_iff]
/-- All names, drive by drive; what Names answers. -/
def nmA (X : FS) (s : Nm) : Nat → List Nm
 | 0 => []
 | n + 1 => nmA X s n ++ (X.d n).list X.f s
def nmE (k : Nat) (X : FS) : Nat := if ckD k ≠ 0 then ckD k else if (List.range k).any fun j => (X.d j).ans X.f [] == 11 then 11 else 0
def nmR (k : Nat) (X : FS) (s : Nm) : List Nm := if nmE k X = 0 then wths [] (nmA X s k) else []
theorem nmE_brk {k : Nat} {X : FS} (hk : ckD k = 0) {j : Nat} (hj : j < k) (h : (X.d j).ans X.f [] = 11) : nmE k X = 11 := by
 unfold nmE; rw [if_neg (by omega), if_pos (List.any_eq_true.2 ⟨j, List.mem_range.2 hj, by simp [h]⟩)]
theorem nmE_ok {k : Nat} {X : FS} (hk : ckD k = 0) (h : ∀ j, j < k → (X.d j).ans X.f [] ≠ 11) : nmE k X = 0 := by
 unfold nmE; rw [if_neg (by omega), if_neg]
 intro ha
 obtain ⟨j, hj, h2⟩ := List.any_eq_true.1 ha
 exact h j (List.mem_range.1 hj) (by simpa using h2)
theorem nmA_len {X : FS} {s : Nm} {a : Nat} : ∀ k, (∀ j, j < k → (X.d j).F.length ≤ a) → (nmA X s k).length ≤ a * k
 | 0, _ => by simp [nmA]
 | n + 1, h => by
  have h1 := nmA_len (X := X) (s := s) n (fun j hj => h j (by omega))
  have h2 := Nat.le_trans (list_lenF (X.d n) X.f s) (h n (by omega))
  unfold nmA; rw [List.length_append, Nat.mul_succ]; omega
end Go.Proofs.YtfogkegmdgbecaaGreatDoor

/- The statements' own functions: some drives (some), the same file for each (each). -/
namespace Go.Proofs.YtfogkegmdgbecaaGreatDoor
open Go Go.RowKit Go.Shelf

/-- append(v, x), the new row of k cells just made. -/
theorem own_push {t T : TypeId} {k bytes B n : Nat} {z : Value} {w : World} {v : Value} {xs : List Value} (hT : Tryz.prog.underlying T = some (.slice t)) (hi : (Tryz.prog.info? t).map (fun i => (i.zero, i.size, i.bytes)) = some (some z, k, bytes)) (hz : z.cells.size = k) (hk : 0 < k)
  (h : w.ownsRow B t k v n xs) (cs : Array Value) (hcs : cs.size = k) (h1 : ∀ u ∈ cs.toList, u.oneCell' = true) (hn : n ≤ 100000) (hby : bytes ≤ 1000) (hB : B ≤ w.heap.size) :
  ∃ v' w', (Builtin.append_ #[T, T] T #[v, .slice (some ⟨w.heap.size, 0, none⟩) 1 1]).run Tryz.prog (w.alloc (.cells cs t)) = .ok v' w' ∧ w'.ownsRow B t k v' (n + 1) (xs ++ cs.toList) ∧ Only (fun b => v.ownBlock = some b) w w' ∧ (v'.ownBlock = v.ownBlock ∨ ∃ b, v'.ownBlock = some b ∧ w.heap.size ≤ b) ∧ w'.heap[w.heap.size]? = some (.cells cs t (0, 0)) := by
 obtain ⟨i0, hi0, hz0, hz1, hz2⟩ := info_parts hi
 have hc : CAt (w.alloc (.cells cs t)) w.heap.size cs t := CAt.made w _ _
 have h2 : (w.alloc (.cells cs t)).ownsRow B t k v n xs := h.kept (World.grownBy_alloc w _ none) (by
  cases hv : v.ownBlock
  ·exact Or.inl rfl
  ·exact Or.inr (by simp))
 obtain ⟨v', w', hr, h3, h4, _, h5⟩ := run_append_own_at (P := Tryz.prog) (w.alloc (.cells cs t)) B T T t i0 z k bytes hT hi0 hz0 hz1 hz2 hz hk v n xs h2 ⟨w.heap.size, 0, none⟩ 1 1 cs.toList (by simp [hcs]) (fun j u hj => by
   rw [add_none, hc.cell]
   simpa using hj) h1 (by unfold maxLen; omega) (Nat.le_trans (Nat.mul_le_mul (show n + 1 ≤ 100001 by omega) hby) (by decide)) (by rw [size_al]; omega)
 have hne : v.ownBlock ≠ some w.heap.size := fun e => by have := (own_ge h _ e).2; omega
 refine ⟨v', w', hr, h3, ?_, ?_, ?_⟩
 ·refine (Only.alloc (S := fun b => v.ownBlock = some b) w (.cells cs t)).then (Only.of_grown (S := fun b => v.ownBlock = some b) h4 (fun k hk _ => hk)) (fun _ _ h => h)
 ·rcases h5 with h5 | h5
  ·exact .inl h5
  ·exact .inr ⟨_, h5, by rw [size_al]; omega⟩
 ·exact (h4.block _ (by rw [size_al]; omega) (fun e => hne e.symm)).trans hc
theorem Tryz.infoDp : (Tryz.prog.info? 38).map (fun i => (i.zero, i.size, i.bytes)) = some (some (.pointer none), 1, 8) := by kernel_rfl
theorem Tryz.infoFr : (Tryz.prog.info? 45).map (fun i => (i.zero, i.size, i.bytes)) = some (some (.slice none 0 0), 1, 24) := by kernel_rfl
theorem own_get {w : World} {B n : Nat} {t : TypeId} {v : Value} {xs : List Value} (h : w.ownsRow B t 1 v n xs) (h0 : 0 < n) : ∃ g c, v = .slice (some ⟨g, 0, none⟩) n c ∧ n ≤ c ∧ B ≤ g ∧ ∀ j, j < n → w.cell? ⟨g, j, none⟩ = xs[j]? := by
 rcases h.2 with ⟨rfl, h0'⟩ | ⟨g, cap, cur, rfl, hB, hg, h1, _, h3, h4⟩
 ·omega
 have hc : CAt w g cur t := hg
 refine ⟨g, cap, rfl, h1, hB, fun j hj => ?_⟩
 rw [hc.cell, ← h4, List.getElem?_take, if_pos (by omega)]
 simp
/-- While some goes on. -/
structure SmI (w w1 wr : World) (T : Nat → Prop) (n i : Nat) (p : Nat → Nat) (v : Value) : Prop where
 fa : FA w wr T i p (fun _ => fresh n) none 0
 ow : wr.ownsRow w1.heap.size 38 1 v i ((List.range i).map fun j => ptr (p j))
 nt : ∀ b, v.ownBlock = some b → ¬ T b
 ge : ∀ b, T b → w1.heap.size ≤ b
 be : Below w1.heap.size w1 wr
 ww : w.heap.size ≤ w1.heap.size
 zz : i = 0 → v = .slice none 0 0
theorem SmI.new {w w1 wr w2 : World} {T : Nat → Prop} {n i q : Nat} {p : Nat → Nat} {v : Value} (h : SmI w w1 wr T n i p v) (hd : DrAt w2 (fun b => wr.heap.size ≤ b ∧ b < w2.heap.size) q none (fresh n)) (hb : Below wr.heap.size wr w2) (hi : i ≤ 1000) :
  ∃ v' w', (Builtin.append_ #[23, 23] 23 #[v, .slice (some ⟨w2.heap.size, 0, none⟩) 1 1]).run Tryz.prog (w2.alloc (.cells #[ptr q] 38)) = .ok v' w' ∧ ∃ T' p', SmI w w1 w' T' n (i + 1) p' v' := by
 obtain ⟨T', hg, hf⟩ := h.fa.more hd hb
 have e : upd (fun _ => fresh n) i (fresh n) = fun _ => fresh n := by funext j; unfold upd; split <;> rfl
 rw [e] at hf
 have how : w2.ownsRow w1.heap.size 38 1 v i ((List.range i).map fun j => ptr (p j)) := ownsRow_keep h.ow fun b hv => hb.block b (own_ge h.ow b hv).2
 obtain ⟨v', w', hr, h1, h2, h3, _⟩ := own_push (T := 23) Tryz.underlying23 Tryz.infoDp rfl (by decide) how #[ptr q] rfl (by simp [ptr, Value.oneCell']) (by omega) (by decide) (Nat.le_trans h.be.size hb.size)
 have hnt : ∀ b, v.ownBlock = some b → ¬ T' b := fun b hv ht => (hg.2 b ht).elim (h.nt b hv) (fun hl => by have := (own_ge h.ow b hv).2; omega)
 refine ⟨v', w', hr, T', upd p i q, hf.only h2 (fun b hb' hv => ?_) (fun b ht hv => hnt b hv ht), ?_, fun b hv ht => ?_, fun b ht => ?_, ?_, h.ww, fun e => by omega⟩
 ·have := (own_ge h.ow b hv).1; have := h.ww; omega
 ·rw [List.range_succ, List.map_append]
  have : (List.range i).map (fun j => ptr (upd p i q j)) = (List.range i).map fun j => ptr (p j) := List.map_congr_left fun j hj => by rw [upd_ne _ _ (by have := List.mem_range.1 hj; omega)]
  rw [this]
  simp only [List.map_cons, List.map_nil, upd_same]
  exact h1
 ·rcases h3 with h3 | ⟨c, h3, hc⟩
  ·exact hnt b (h3 ▸ hv) ht
  ·rw [h3] at hv; cases hv
   have := hf.lt _ ht; omega
 ·exact (hg.2 b ht).elim (h.ge b) (fun hl => Nat.le_trans h.be.size hl)
 ·refine ⟨h2.os.trans (hb.os.trans h.be.os), h2.tape.trans (hb.tape.trans h.be.tape), h2.output.trans (hb.output.trans h.be.output), Nat.le_trans h.be.size (Nat.le_trans hb.size h2.size), fun b hb' => ?_⟩
  have l1 : b < wr.heap.size := Nat.lt_of_lt_of_le hb' h.be.size
  exact (h2.block b (Nat.lt_of_lt_of_le l1 hb.size) (fun hv => by have := (own_ge h.ow b hv).1; omega)).trans ((hb.block b l1).trans (h.be.block b hb'))
/-- What some answers. -/
def SomeAt (w w1 : World) (n size : Nat) (e : Ending) (w' : World) : Prop :=
 ∃ v p T, e = .returned (.tuple #[v, .bool true]) ∧ FA w w' T n p (fun _ => fresh size) none 0 ∧ LsAt w' T v n p ∧ Below w1.heap.size w1 w' ∧ (∀ b, T b → w1.heap.size ≤ b)
theorem SmI.done {w w1 wr : World} {T : Nat → Prop} {n i : Nat} {p : Nat → Nat} {v : Value} (h : SmI w w1 wr T n i p v) : SomeAt w w1 i n (.returned (.tuple #[v, .bool true])) wr := by
 refine ⟨v, p, T, rfl, h.fa, ⟨?_⟩, h.be, h.ge⟩
 rcases Nat.eq_zero_or_pos i with rfl | hi
 ·exact .inl ⟨rfl, h.zz rfl⟩
 ·obtain ⟨g, c, rfl, _, _, hc⟩ := own_get h.ow hi
  exact .inr ⟨hi, g, c, rfl, h.nt g rfl, fun j hj => by rw [hc j hj]; simp [hj]⟩
/-- While each goes on: rows of one file each. -/
structure EaI (w1 wr : World) (T : Nat → Prop) (x : FlV) (i : Nat) (v : Value) (rows : List RowV) : Prop where
 ow : wr.ownsRow w1.heap.size 45 1 v i (rows.map RowV.v)
 fl : rows.map RowV.fl = List.replicate i [x.fl]
 ok : ∀ r ∈ rows, r.ok wr (fun b => T b ∨ v.ownBlock = some b)
 xo : x.ok wr (fun b => T b ∨ v.ownBlock = some b)
 be : Below w1.heap.size w1 wr
 ln : rows.length = i
 Tl : ∀ b, T b → b < w1.heap.size
theorem EaI.next {w1 wr : World} {T : Nat → Prop} {x : FlV} {i : Nat} {v : Value} {rows : List RowV} (h : EaI w1 wr T x i v rows) (hi : i ≤ 1000) :
  ∃ v' w', (Builtin.append_ #[31, 31] 31 #[v, .slice (some ⟨wr.heap.size + 1, 0, none⟩) 1 1]).run Tryz.prog ((wr.alloc (.cells #[sv x.nm, x.bv] 47)).alloc (.cells #[.slice (some ⟨wr.heap.size, 0, none⟩) 1 1] 45)) = .ok v' w' ∧ ∃ rows', EaI w1 w' T x (i + 1) v' rows' := by
 have hb : Below wr.heap.size wr (wr.alloc (.cells #[sv x.nm, x.bv] 47)) := (Below.refl _ _).alloc (Nat.le_refl _) _
 have hc : CAt (wr.alloc (.cells #[sv x.nm, x.bv] 47)) wr.heap.size #[sv x.nm, x.bv] 47 := CAt.made _ _ _
 have hs : (wr.alloc (.cells #[sv x.nm, x.bv] 47)).heap.size = wr.heap.size + 1 := size_al _ _
 have hT := h.Tl
 have hbs := h.be.size
 generalize wr.alloc (.cells #[sv x.nm, x.bv] 47) = w2 at *
 have how : w2.ownsRow w1.heap.size 45 1 v i (rows.map RowV.v) := ownsRow_keep h.ow fun b hv => hb.block b (own_ge h.ow b hv).2
 obtain ⟨v', w', hr, h1, h2, h3, _⟩ := own_push (T := 31) Tryz.underlying31 Tryz.infoFr rfl (by decide) how #[.slice (some ⟨wr.heap.size, 0, none⟩) 1 1] rfl (by simp [Value.oneCell']) (by omega) (by decide) (by omega)
 rw [hs] at hr
 have hob : ∀ b, v.ownBlock = some b → w1.heap.size ≤ b ∧ b < wr.heap.size := fun b hv => own_ge h.ow b hv
 have hk2 : ∀ b, b < wr.heap.size → ¬ (T b ∨ v.ownBlock = some b) → w'.heap[b]? = wr.heap[b]? := fun b hb' hn => (h2.block b (by omega) (fun hv => hn (.inr hv))).trans (hb.block b hb')
 have hT2 : ∀ b, b < wr.heap.size → (T b ∨ v'.ownBlock = some b) → (T b ∨ v.ownBlock = some b) := fun b hb' ht => by
  rcases ht with ht | ht
  ·exact .inl ht
  ·rcases h3 with h3 | ⟨c, h3, hc⟩
   ·exact .inr (h3 ▸ ht)
   ·rw [h3] at ht; cases ht; omega
 have hxo := h.xo.keep hk2 hT2
 refine ⟨v', w', hr, rows ++ [⟨some ⟨wr.heap.size, 0, none⟩, 1, [x]⟩], ?_, ?_, fun r hr' => ?_, hxo, ?_, by simp [h.ln], hT⟩
 ·rw [List.map_append]; exact h1
 ·rw [List.map_append, h.fl, List.replicate_succ']; rfl
 ·rcases List.mem_append.1 hr' with hr' | hr'
  ·exact (h.ok r hr').keep hk2 hT2
  ·simp at hr'; subst hr'
   have hne : ¬ v.ownBlock = some wr.heap.size := fun hv => by have := (hob _ hv).2; omega
   have hc' : CAt w' wr.heap.size #[sv x.nm, x.bv] 47 := hc.keep (h2.block _ (by omega) hne)
   refine ⟨.inr ⟨wr.heap.size, 0, rfl, fun ht => ?_, fun j hj => ?_⟩, fun y hy => ?_, Nat.le_refl _⟩
   ·rcases ht with ht | ht
    ·have := hT _ ht; omega
    ·rcases h3 with h3 | ⟨c, h3, hc⟩
     ·exact hne (h3 ▸ ht)
     ·rw [h3] at ht; cases ht; omega
   ·have : j = 0 := by simp at hj; omega
    subst this
    exact ⟨hc'.cell 0, hc'.cell 1⟩
   ·simp at hy; subst hy; exact hxo
 ·refine ⟨h2.os.trans (hb.os.trans h.be.os), h2.tape.trans (hb.tape.trans h.be.tape), h2.output.trans (hb.output.trans h.be.output), by have := h2.size; omega, fun b hb' => ?_⟩
  exact (h2.block b (by omega) (fun hv => by have := (hob b hv).1; omega)).trans ((hb.block b (by omega)).trans (h.be.block b hb'))
/-- What each answers. -/
def EachAt (w1 : World) (T : Nat → Prop) (x : FlV) (n : Nat) (e : Ending) (w' : World) : Prop :=
 ∃ fv : FsV, e = .returned fv.v ∧ fv.ok w' T ∧ fv.l.map RowV.fl = List.replicate n [x.fl] ∧ Below w1.heap.size w1 w'
theorem EaI.done {w1 wr : World} {T : Nat → Prop} {x : FlV} {i : Nat} {v : Value} {rows : List RowV} (h : EaI w1 wr T x i v rows) (hi : 0 < i) : EachAt w1 T x i (.returned v) wr := by
 obtain ⟨g, c, rfl, _, hg, hc⟩ := own_get h.ow hi
 refine ⟨⟨some ⟨g, 0, none⟩, c, rows⟩, by rw [FsV.v, h.ln], ⟨.inr ⟨g, 0, rfl, fun ht => by have := h.Tl _ ht; omega, fun j hj => ?_⟩, fun r hr => (h.ok r hr).keep (fun _ _ _ => rfl) (fun _ _ ht => .inl ht)⟩, h.fl, h.be⟩
 have hj' : j < rows.length := hj
 rw [Nat.zero_add, hc j (by have := h.ln; omega), getD_in _ _ _ hj]
 simp [hj']
end Go.Proofs.YtfogkegmdgbecaaGreatDoor
