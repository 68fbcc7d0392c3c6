/- Texts laid into one: the remark ahead of each part says what is proved there. -/
import Derived.Test.YtelkijiphhoacaaDoorLaa
import Derived.Test.YtelkijiphhoacaaDoorLab
import Derived.Test.YtelkijiphhoacaaDoorLac
import Derived.Test.YtelkijiphhoacaaDoorLad
import Derived.Test.YtelkijiphhoacaaDoorLae
import Derived.Test.YtelkijiphhoacaaDoorLaf
import Derived.Test.YtelkijiphhoacaaDoorLag
import Derived.Test.YtelkijiphhoacaaDoorLah
import Derived.Test.YtelkijiphhoacaaDoorLai
import Derived.Test.YtelkijiphhoacaaDoorLaj
import Derived.Test.YtelkijiphhoacaaDoorLak
import Derived.Test.YtelkijiphhoacaaDoorLal
import Derived.Test.YtelkijiphhoacaaDoorLam
import Derived.Test.YtelkijiphhoacaaDoorLan
import Derived.Test.YtelkijiphhoacaaDoorLao
import Derived.Test.YtelkijiphhoacaaDoorLap
import Derived.Test.YtelkijiphhoacaaDoorLaq
import Derived.Test.YtelkijiphhoacaaDoorLar
import Derived.Test.YtelkijiphhoacaaDoorLas
import Derived.Test.YtelkijiphhoacaaDoorLat
import Derived.Test.YtelkijiphhoacaaDoorLau
import Derived.Test.YtelkijiphhoacaaDoorLav
import Derived.Test.YtelkijiphhoacaaDoorRaa
import Derived.Test.YtelkijiphhoacaaDoorRac
/- The record's Check and the journal's, of texts and lists of any size (after the texts of the same contracts for bounded ones). -/
namespace Go.Proofs.YtelkijiphhoacaaDoor.G
open Go Go.RowKit
open Go Go.RowKit

set_option maxRecDepth 100000 in
set_option maxHeartbeats 1000000 in
theorem same_9 (r s : Rv) (hr : r.ok) (hs : s.ok) (ps qs : Ps) (w : World) (hp : PL w r.pv ps) (hq : PL w s.pv qs) (h0 : (r.id.toList == s.id.toList) = true) (h1 : (r.time == s.time) = true) (h2 : (r.mark == s.mark) = true) (h3 : (r.size == s.size) = true) (h4 : (r.etag.toList == s.etag.toList) = true) (h5 : (r.k == s.k) = true) (h6 : (r.m == s.m) = true) (h7 : (r.data.toList == s.data.toList) = true) (h8 : decide (r.sum = s.sum) = true) (h9 : decide (ps = qs) = false) : Calls Tryd.prog 30 #[.agg r.cs, .agg s.cs] w fun e w' => e = .returned (.bool (decide (r.rc ps = s.rc qs))) ∧ Below w.heap.size w w' := by
  have HD : Hid (decide (r.rc ps = s.rc qs) = false) := rc_ne (by rintro ⟨k0, k1, k2, k3, k4, k5, k6, k7, k8, k9, k10⟩; rw [k9] at h9; cases h9)
  have HR := hid hr
  have HS := hid hs
  have HP := hid hp
  have HQ := hid hq
  have hsum := eqSum hr.sl hs.sl
  rw [h8] at hsum
  clear h8
  have H9 := hid h9
  clear h9
  clear hr hs hp hq
  generalize decide (r.rc ps = s.rc qs) = dd at *
  go_enter Tryd.func30, Tryd.ntmps30
  go_wp2_with (first
    | ((with_reducible refine wpList_boxR rfl _ rfl s.cs ?_ ?_); exact rfl; intro w2 g2 hc2 hb2 hg2; have HA := hid (HA0.out.below HR.out hb2); have HC := hid (RBox.mk' HS.out hc2); have a0 := HA.out.c0; have b0 := HC.out.c0; have a1 := HA.out.c1; have b1 := HC.out.c1; have a2 := HA.out.c2; have b2 := HC.out.c2; have a3 := HA.out.c3; have b3 := HC.out.c3; have a4 := HA.out.c4; have b4 := HC.out.c4; have a5 := HA.out.c5; have b5 := HC.out.c5; have a6 := HA.out.c6; have b6 := HC.out.c6; have a7 := HA.out.c7; have b7 := HC.out.c7; have a40 := HA.out.c40; have b40 := HC.out.c40; have HB := hid (below_on HB0.out hb2); have HP2 := hid ((HP.out.below HB0.out).below hb2); have HQ2 := hid ((HQ.out.below HB0.out).below hb2); clear hc2 hb2 HA0)
    | ((with_reducible refine wpList_boxR rfl _ rfl r.cs ?_ ?_); exact rfl; intro w1 g1 hc1 hb1 hg1; have HA0 := hid (RBox.mk' HR.out hc1); have HB0 := hid hb1; clear hc1 hb1)
    | ((with_reducible refine wpList_load_at 57 _ rfl ?_ g1 8 ?_ (sumC r.sum) (.array 32 5) ?_ underD rfl ?_ ?_); exact rfl; exact rfl; exact HA.out.cs; (rw [sumC_size, HR.out.sl]; exact sizeD))
    | ((with_reducible refine wpList_load_at 57 _ rfl ?_ g2 8 ?_ (sumC s.sum) (.array 32 5) ?_ underD rfl ?_ ?_); exact rfl; exact rfl; exact HC.out.cs; (rw [sumC_size, HS.out.sl]; exact sizeD))
    | (go_at_call 49; refine (equal_any _ _ ps qs _ HP2.out HQ2.out).mono ?_; rintro e w3 ⟨rfl, hb3⟩; rw [H9.out]; replace HA := hid (HA.out.below HR.out hb3); replace HC := hid (HC.out.below HS.out hb3); have a41' := HA.out.c41; have b41' := HC.out.c41; replace HB := hid (below_on HB.out hb3); clear hb3))
  go_ret
  exact ⟨by rw [HD.out]; rfl, HB.out⟩
set_option maxRecDepth 100000 in
set_option maxHeartbeats 1000000 in
theorem same_10 (r s : Rv) (hr : r.ok) (hs : s.ok) (ps qs : Ps) (w : World) (hp : PL w r.pv ps) (hq : PL w s.pv qs) (h0 : (r.id.toList == s.id.toList) = true) (h1 : (r.time == s.time) = true) (h2 : (r.mark == s.mark) = true) (h3 : (r.size == s.size) = true) (h4 : (r.etag.toList == s.etag.toList) = true) (h5 : (r.k == s.k) = true) (h6 : (r.m == s.m) = true) (h7 : (r.data.toList == s.data.toList) = true) (h8 : decide (r.sum = s.sum) = true) (h9 : decide (ps = qs) = true) (h10 : (r.up.toList == s.up.toList) = false) : Calls Tryd.prog 30 #[.agg r.cs, .agg s.cs] w fun e w' => e = .returned (.bool (decide (r.rc ps = s.rc qs))) ∧ Below w.heap.size w w' := by
  have HD : Hid (decide (r.rc ps = s.rc qs) = false) := rc_ne (by rintro ⟨k0, k1, k2, k3, k4, k5, k6, k7, k8, k9, k10⟩; rw [k10] at h10; cases h10)
  have HR := hid hr
  have HS := hid hs
  have HP := hid hp
  have HQ := hid hq
  have hsum := eqSum hr.sl hs.sl
  rw [h8] at hsum
  clear h8
  have H9 := hid h9
  clear h9
  clear hr hs hp hq
  generalize decide (r.rc ps = s.rc qs) = dd at *
  go_enter Tryd.func30, Tryd.ntmps30
  go_wp2_with (first
    | ((with_reducible refine wpList_boxR rfl _ rfl s.cs ?_ ?_); exact rfl; intro w2 g2 hc2 hb2 hg2; have HA := hid (HA0.out.below HR.out hb2); have HC := hid (RBox.mk' HS.out hc2); have a0 := HA.out.c0; have b0 := HC.out.c0; have a1 := HA.out.c1; have b1 := HC.out.c1; have a2 := HA.out.c2; have b2 := HC.out.c2; have a3 := HA.out.c3; have b3 := HC.out.c3; have a4 := HA.out.c4; have b4 := HC.out.c4; have a5 := HA.out.c5; have b5 := HC.out.c5; have a6 := HA.out.c6; have b6 := HC.out.c6; have a7 := HA.out.c7; have b7 := HC.out.c7; have a40 := HA.out.c40; have b40 := HC.out.c40; have a41 := HA.out.c41; have b41 := HC.out.c41; have HB := hid (below_on HB0.out hb2); have HP2 := hid ((HP.out.below HB0.out).below hb2); have HQ2 := hid ((HQ.out.below HB0.out).below hb2); clear hc2 hb2 HA0)
    | ((with_reducible refine wpList_boxR rfl _ rfl r.cs ?_ ?_); exact rfl; intro w1 g1 hc1 hb1 hg1; have HA0 := hid (RBox.mk' HR.out hc1); have HB0 := hid hb1; clear hc1 hb1)
    | ((with_reducible refine wpList_load_at 57 _ rfl ?_ g1 8 ?_ (sumC r.sum) (.array 32 5) ?_ underD rfl ?_ ?_); exact rfl; exact rfl; exact HA.out.cs; (rw [sumC_size, HR.out.sl]; exact sizeD))
    | ((with_reducible refine wpList_load_at 57 _ rfl ?_ g2 8 ?_ (sumC s.sum) (.array 32 5) ?_ underD rfl ?_ ?_); exact rfl; exact rfl; exact HC.out.cs; (rw [sumC_size, HS.out.sl]; exact sizeD))
    | (go_at_call 49; refine (equal_any _ _ ps qs _ HP2.out HQ2.out).mono ?_; rintro e w3 ⟨rfl, hb3⟩; rw [H9.out]; replace HA := hid (HA.out.below HR.out hb3); replace HC := hid (HC.out.below HS.out hb3); have a41' := HA.out.c41; have b41' := HC.out.c41; replace HB := hid (below_on HB.out hb3); clear hb3))
  go_ret
  exact ⟨by rw [HD.out]; rfl, HB.out⟩
open Go Go.RowKit

set_option maxRecDepth 100000 in
set_option maxHeartbeats 1000000 in
theorem same_11 (r s : Rv) (hr : r.ok) (hs : s.ok) (ps qs : Ps) (w : World) (hp : PL w r.pv ps) (hq : PL w s.pv qs) (h0 : (r.id.toList == s.id.toList) = true) (h1 : (r.time == s.time) = true) (h2 : (r.mark == s.mark) = true) (h3 : (r.size == s.size) = true) (h4 : (r.etag.toList == s.etag.toList) = true) (h5 : (r.k == s.k) = true) (h6 : (r.m == s.m) = true) (h7 : (r.data.toList == s.data.toList) = true) (h8 : decide (r.sum = s.sum) = true) (h9 : decide (ps = qs) = true) (h10 : (r.up.toList == s.up.toList) = true) : Calls Tryd.prog 30 #[.agg r.cs, .agg s.cs] w fun e w' => e = .returned (.bool (decide (r.rc ps = s.rc qs))) ∧ Below w.heap.size w w' := by
  have HD : Hid (decide (r.rc ps = s.rc qs) = true) := decide_eq_true ((rc_eq r s ps qs).2 ⟨h0, h1, h2, h3, h4, h5, h6, h7, h8, h9, h10⟩)
  have HR := hid hr
  have HS := hid hs
  have HP := hid hp
  have HQ := hid hq
  have hsum := eqSum hr.sl hs.sl
  rw [h8] at hsum
  clear h8
  have H9 := hid h9
  clear h9
  clear hr hs hp hq
  generalize decide (r.rc ps = s.rc qs) = dd at *
  go_enter Tryd.func30, Tryd.ntmps30
  go_wp2_with (first
    | ((with_reducible refine wpList_boxR rfl _ rfl s.cs ?_ ?_); exact rfl; intro w2 g2 hc2 hb2 hg2; have HA := hid (HA0.out.below HR.out hb2); have HC := hid (RBox.mk' HS.out hc2); have a0 := HA.out.c0; have b0 := HC.out.c0; have a1 := HA.out.c1; have b1 := HC.out.c1; have a2 := HA.out.c2; have b2 := HC.out.c2; have a3 := HA.out.c3; have b3 := HC.out.c3; have a4 := HA.out.c4; have b4 := HC.out.c4; have a5 := HA.out.c5; have b5 := HC.out.c5; have a6 := HA.out.c6; have b6 := HC.out.c6; have a7 := HA.out.c7; have b7 := HC.out.c7; have a40 := HA.out.c40; have b40 := HC.out.c40; have a41 := HA.out.c41; have b41 := HC.out.c41; have HB := hid (below_on HB0.out hb2); have HP2 := hid ((HP.out.below HB0.out).below hb2); have HQ2 := hid ((HQ.out.below HB0.out).below hb2); clear hc2 hb2 HA0)
    | ((with_reducible refine wpList_boxR rfl _ rfl r.cs ?_ ?_); exact rfl; intro w1 g1 hc1 hb1 hg1; have HA0 := hid (RBox.mk' HR.out hc1); have HB0 := hid hb1; clear hc1 hb1)
    | ((with_reducible refine wpList_load_at 57 _ rfl ?_ g1 8 ?_ (sumC r.sum) (.array 32 5) ?_ underD rfl ?_ ?_); exact rfl; exact rfl; exact HA.out.cs; (rw [sumC_size, HR.out.sl]; exact sizeD))
    | ((with_reducible refine wpList_load_at 57 _ rfl ?_ g2 8 ?_ (sumC s.sum) (.array 32 5) ?_ underD rfl ?_ ?_); exact rfl; exact rfl; exact HC.out.cs; (rw [sumC_size, HS.out.sl]; exact sizeD))
    | (go_at_call 49; refine (equal_any _ _ ps qs _ HP2.out HQ2.out).mono ?_; rintro e w3 ⟨rfl, hb3⟩; rw [H9.out]; replace HA := hid (HA.out.below HR.out hb3); replace HC := hid (HC.out.below HS.out hb3); have a41' := HA.out.c41; have b41' := HC.out.c41; replace HB := hid (below_on HB.out hb3); clear hb3))
  go_ret
  exact ⟨by rw [HD.out]; rfl, HB.out⟩
open Go Go.RowKit

theorem same_any (r s : Rv) (hr : r.ok) (hs : s.ok) (ps qs : Ps) (w : World) (hp : PL w r.pv ps) (hq : PL w s.pv qs) : Calls Tryd.prog 30 #[.agg r.cs, .agg s.cs] w fun e w' => e = .returned (.bool (decide (r.rc ps = s.rc qs))) ∧ Below w.heap.size w w' := by
  cases h0 : (r.id.toList == s.id.toList)
  · exact same_0 r s hr hs ps qs w hp hq h0
  cases h1 : (r.time == s.time)
  · exact same_1 r s hr hs ps qs w hp hq h0 h1
  cases h2 : (r.mark == s.mark)
  · exact same_2 r s hr hs ps qs w hp hq h0 h1 h2
  cases h3 : (r.size == s.size)
  · exact same_3 r s hr hs ps qs w hp hq h0 h1 h2 h3
  cases h4 : (r.etag.toList == s.etag.toList)
  · exact same_4 r s hr hs ps qs w hp hq h0 h1 h2 h3 h4
  cases h5 : (r.k == s.k)
  · exact same_5 r s hr hs ps qs w hp hq h0 h1 h2 h3 h4 h5
  cases h6 : (r.m == s.m)
  · exact same_6 r s hr hs ps qs w hp hq h0 h1 h2 h3 h4 h5 h6
  cases h7 : (r.data.toList == s.data.toList)
  · exact same_7 r s hr hs ps qs w hp hq h0 h1 h2 h3 h4 h5 h6 h7
  cases h8 : decide (r.sum = s.sum)
  · exact same_8 r s hr hs ps qs w hp hq h0 h1 h2 h3 h4 h5 h6 h7 h8
  cases h9 : decide (ps = qs)
  · exact same_9 r s hr hs ps qs w hp hq h0 h1 h2 h3 h4 h5 h6 h7 h8 h9
  cases h10 : (r.up.toList == s.up.toList)
  · exact same_10 r s hr hs ps qs w hp hq h0 h1 h2 h3 h4 h5 h6 h7 h8 h9 h10
  exact same_11 r s hr hs ps qs w hp hq h0 h1 h2 h3 h4 h5 h6 h7 h8 h9 h10
open Go Go.RowKit

theorem isEmpty_lst (u : ByteArray) : u.toList.isEmpty = (lst u).isEmpty := by
  unfold lst; rw [ByteArray.toList_eq]; cases u.data.toList <;> simp
theorem km_eq (k m : Int) : (inR k 1 16 && inR m 1 (16 - k)) = (inR k 1 15 && inR m 1 15 && decide (k + m ≤ 16)) := by
  unfold inR; rw [Bool.eq_iff_iff]; simp; omega
theorem okRc_vers (r : Rv) (ps : Ps) (hm : r.mark = false) (hl : r.sum.length = 32) : okRc (r.rc ps) = (okId (lst r.id) && inR r.time 0 1048576 && versOk r ps) := by
  unfold okRc Rv.rc versOk upOk
  simp only [hm, Bool.false_eq_true, if_false, hl, decide_true, Bool.and_true, isEmpty_lst]
  congr 1
  have := km_eq r.k r.m
  generalize inR r.size 0 65536 = a at *
  generalize okTag (lst r.etag) = b at *
  generalize okData (lst r.data) = c at *
  generalize okParts ps r.size = d at *
  generalize ((lst r.up).isEmpty || okId (lst r.up)) = e at *
  cases a <;> cases b <;> simp_all [← Bool.and_assoc]
def mkR (id : ByteArray) (time : Int) : Rv := ⟨id, time, true, 0, ⟨#[]⟩, 0, 0, ⟨#[]⟩, zeroD, .slice none 0 0, ⟨#[]⟩⟩
theorem mkR_ok {id : ByteArray} {time : Int} (h : id.size ≤ 9223372036854775807) : (mkR id time).ok := ⟨rfl, by simp [mkR, zeroD], h, by simp [mkR, ByteArray.size], by simp [mkR, ByteArray.size], by simp [mkR, ByteArray.size]⟩
theorem okRc_mark (r : Rv) (ps : Ps) (hm : r.mark = true) : okRc (r.rc ps) = (okId (lst r.id) && inR r.time 0 1048576 && decide (r.rc ps = (mkR r.id r.time).rc [])) := by
  unfold okRc Rv.rc mkR
  simp only [hm, if_true]
  congr 1
  rw [Bool.eq_iff_iff]
  simp [lst_nil]
  constructor
  · rintro ⟨⟨⟨⟨⟨⟨⟨h1, h2⟩, h3⟩, h4⟩, h5⟩, h6⟩, h7⟩, h8⟩; exact ⟨h1, h2, h3, h4, h5, h6, h7, h8⟩
  · rintro ⟨h1, h2, h3, h4, h5, h6, h7, h8⟩; exact ⟨⟨⟨⟨⟨⟨⟨h1, h2⟩, h3⟩, h4⟩, h5⟩, h6⟩, h7⟩, h8⟩
theorem built_mark (id : ByteArray) (time : Int) : Tryd.prog.built 60 [(0, .string id), (1, i64 time), (2, .bool true)] = some (mkR id time).cs := by kernel_rfl
theorem PL.nil (w : World) : PL w (.slice none 0 0) [] := ⟨none, 0, rfl, Nat.le_refl _, by simp, Or.inl rfl⟩
theorem underRec : Tryd.prog.underlying 60 = some (.struct (Tryd.prog.fieldsOf 60)) := by kernel_rfl
theorem RBox.whole {w : World} {g : Nat} {r : Rv} (h : RBox w g r) : ∀ j v, r.cs[j]? = some v → w.cell? ⟨g, 0 + j, none⟩ = some v := fun j v hv => by rw [Nat.zero_add, h.at_.cell, hv]
theorem wpList_build_want {ops : Array Oper} {rest : List Oper} {o : Oper} {a : Act} {w : World} {Q : Exit → Act → World → Prop} (t : TypeId) (parts : Array (Nat × Operand)) (ho : o.op = .build t parts) (hw : Region.wanted o (yielded ops a.tmps) = true) (cs : Array Value)
    (hf : Tryd.prog.built t (parts.toList.map fun (i, x) => (i, a.eval x)) = some cs) (h : wpList Tryd.prog ops Q rest (a.put o.dst (.agg cs)) w) : wpList Tryd.prog ops Q (o :: rest) a w := by
  rw [← Array.toList_map] at hf
  exact BigFrame.wpList_want hw fun _ hK => wp_build t parts ho (by rw [hf]; rfl) (hK _ _ (by rw [hf]; exact h))
set_option maxRecDepth 100000 in
set_option maxHeartbeats 1000000 in
theorem check_0 (r : Rv) (hr : r.ok) (ps : Ps) (w : World) (hp : PL w r.pv ps) (h0 : okId (lst r.id) = false) : Calls Tryd.prog 34 #[.agg r.cs] w fun e w' => e = .returned (i64 2) ∧ Below w.heap.size w w' := by
  have HR := hid hr
  have HP := hid hp
  have H0 := hid h0
  clear hr hp h0
  go_enter Tryd.func34, Tryd.ntmps34
  go_wp2_with (first
    | ((with_reducible refine wpList_boxR rfl _ rfl r.cs ?_ ?_); exact rfl; intro w1 g1 hc1 hb1 hg1; have HA := hid (RBox.mk' HR.out hc1); have HB := hid hb1; have HP1 := hid (HP.out.below hb1); have c0 := HA.out.c0; have c1 := HA.out.c1; have c2 := HA.out.c2; clear hc1 hb1)
    | (go_at_call 57; refine (isID_any _ _ (by have := HR.out.i; omega)).mono ?_; rintro e w2 ⟨rfl, hb2⟩; rw [H0.out]; replace HA := hid (HA.out.below HR.out hb2); replace HP1 := hid (HP1.out.below hb2); replace HB := hid (below_on HB.out hb2); clear c0 c1 c2; have c0 := HA.out.c0; have c1 := HA.out.c1; have c2 := HA.out.c2; clear hb2))
  go_ret
  exact ⟨rfl, HB.out⟩
set_option maxRecDepth 100000 in
set_option maxHeartbeats 1000000 in
theorem check_1 (r : Rv) (hr : r.ok) (ps : Ps) (w : World) (hp : PL w r.pv ps) (h0 : okId (lst r.id) = true) (h1 : inR r.time 0 1048576 = false) : Calls Tryd.prog 34 #[.agg r.cs] w fun e w' => e = .returned (i64 2) ∧ Below w.heap.size w w' := by
  have HR := hid hr
  have HP := hid hp
  have H0 := hid h0
  have H1 := hid h1
  clear hr hp h0 h1
  go_enter Tryd.func34, Tryd.ntmps34
  go_wp2_with (first
    | ((with_reducible refine wpList_boxR rfl _ rfl r.cs ?_ ?_); exact rfl; intro w1 g1 hc1 hb1 hg1; have HA := hid (RBox.mk' HR.out hc1); have HB := hid hb1; have HP1 := hid (HP.out.below hb1); have c0 := HA.out.c0; have c1 := HA.out.c1; have c2 := HA.out.c2; clear hc1 hb1)
    | (go_at_call 57; refine (isID_any _ _ (by have := HR.out.i; omega)).mono ?_; rintro e w2 ⟨rfl, hb2⟩; rw [H0.out]; replace HA := hid (HA.out.below HR.out hb2); replace HP1 := hid (HP1.out.below hb2); replace HB := hid (below_on HB.out hb2); clear c0 c1 c2; have c0 := HA.out.c0; have c1 := HA.out.c1; have c2 := HA.out.c2; clear hb2)
    | (go_at_call 36; refine (between_any _ _ _ _).mono ?_; rintro e w' ⟨rfl, hw'⟩; rw [H1.out]; have hw2 := hw'.symm; subst hw2))
  go_ret
  exact ⟨rfl, HB.out⟩
set_option maxRecDepth 100000 in
set_option maxHeartbeats 1000000 in
theorem check_mt (r : Rv) (hr : r.ok) (ps : Ps) (w : World) (hp : PL w r.pv ps) (h0 : okId (lst r.id) = true) (h1 : inR r.time 0 1048576 = true) (hm : r.mark = true) (h3 : decide (r.rc ps = (mkR r.id r.time).rc []) = true) : Calls Tryd.prog 34 #[.agg r.cs] w fun e w' => e = .returned (i64 0) ∧ Below w.heap.size w w' := by
  have HR := hid hr
  have HP := hid hp
  have H0 := hid h0
  have H1 := hid h1
  have H3 := hid h3
  clear hr hp h0 h1 h3
  go_enter Tryd.func34, Tryd.ntmps34
  go_wp2_with (first
    | ((with_reducible refine wpList_boxR rfl _ rfl r.cs ?_ ?_); exact rfl; intro w1 g1 hc1 hb1 hg1; have HA := hid (RBox.mk' HR.out hc1); have HB := hid hb1; have HP1 := hid (HP.out.below hb1); have c0 := HA.out.c0; have c1 := HA.out.c1; have c2 := HA.out.c2; rw [hm] at c2; clear hc1 hb1)
    | (go_at_call 57; refine (isID_any _ _ (by have := HR.out.i; omega)).mono ?_; rintro e w2 ⟨rfl, hb2⟩; rw [H0.out]; replace HA := hid (HA.out.below HR.out hb2); replace HP1 := hid (HP1.out.below hb2); replace HB := hid (below_on HB.out hb2); clear c0 c1 c2; have c0 := HA.out.c0; have c1 := HA.out.c1; have c2 := HA.out.c2; rw [hm] at c2; clear hb2)
    | (go_at_call 36; refine (between_any _ _ _ _).mono ?_; rintro e w' ⟨rfl, hw'⟩; rw [H1.out]; have hw2 := hw'.symm; subst hw2)
    | ((with_reducible refine wpList_load_at 60 _ rfl ?_ g1 0 ?_ r.cs (.struct (Tryd.prog.fieldsOf 60)) ?_ underRec rfl ?_ ?_); exact rfl; exact rfl; exact HA.out.whole; (rw [HR.out.size]; exact sizeR))
    | ((with_reducible refine wpList_build_want 60 _ rfl ?_ (mkR r.id r.time).cs ?_ ?_); exact rfl; exact built_mark r.id r.time)
    | (go_at_call 30; refine (same_any r (mkR r.id r.time) HR.out (mkR_ok HR.out.i) ps [] _ HP1.out (PL.nil _)).mono ?_; rintro e w3 ⟨rfl, hb3⟩; rw [H3.out]; replace HA := hid (HA.out.below HR.out hb3); replace HB := hid (below_on HB.out hb3); clear c0 c1 c2; have c0 := HA.out.c0; have c1 := HA.out.c1; have c2 := HA.out.c2; rw [hm] at c2; clear hb3))
  go_ret
  exact ⟨rfl, HB.out⟩
set_option maxRecDepth 100000 in
set_option maxHeartbeats 1000000 in
theorem check_vt (r : Rv) (hr : r.ok) (ps : Ps) (w : World) (hp : PL w r.pv ps) (h0 : okId (lst r.id) = true) (h1 : inR r.time 0 1048576 = true) (hm : r.mark = false) (h3 : versOk r ps = true) : Calls Tryd.prog 34 #[.agg r.cs] w fun e w' => e = .returned (i64 0) ∧ Below w.heap.size w w' := by
  have HR := hid hr
  have HP := hid hp
  have H0 := hid h0
  have H1 := hid h1
  have H3 := hid h3
  clear hr hp h0 h1 h3
  go_enter Tryd.func34, Tryd.ntmps34
  go_wp2_with (first
    | ((with_reducible refine wpList_boxR rfl _ rfl r.cs ?_ ?_); exact rfl; intro w1 g1 hc1 hb1 hg1; have HA := hid (RBox.mk' HR.out hc1); have HB := hid hb1; have HP1 := hid (HP.out.below hb1); have c0 := HA.out.c0; have c1 := HA.out.c1; have c2 := HA.out.c2; rw [hm] at c2; clear hc1 hb1)
    | (go_at_call 57; refine (isID_any _ _ (by have := HR.out.i; omega)).mono ?_; rintro e w2 ⟨rfl, hb2⟩; rw [H0.out]; replace HA := hid (HA.out.below HR.out hb2); replace HP1 := hid (HP1.out.below hb2); replace HB := hid (below_on HB.out hb2); clear c0 c1 c2; have c0 := HA.out.c0; have c1 := HA.out.c1; have c2 := HA.out.c2; rw [hm] at c2; clear hb2)
    | (go_at_call 36; refine (between_any _ _ _ _).mono ?_; rintro e w' ⟨rfl, hw'⟩; rw [H1.out]; have hw2 := hw'.symm; subst hw2)
    | ((with_reducible refine wpList_load_at 60 _ rfl ?_ g1 0 ?_ r.cs (.struct (Tryd.prog.fieldsOf 60)) ?_ underRec rfl ?_ ?_); exact rfl; exact rfl; exact HA.out.whole; (rw [HR.out.size]; exact sizeR))
    | (go_at_call 58; refine (isVersion_any r HR.out ps _ HP1.out).mono ?_; rintro e w4 ⟨rfl, hb4⟩; rw [H3.out]; replace HB := hid (below_on HB.out hb4); clear hb4))
  go_ret
  exact ⟨rfl, HB.out⟩
set_option maxRecDepth 100000 in
set_option maxHeartbeats 1000000 in
theorem check_mf (r : Rv) (hr : r.ok) (ps : Ps) (w : World) (hp : PL w r.pv ps) (h0 : okId (lst r.id) = true) (h1 : inR r.time 0 1048576 = true) (hm : r.mark = true) (h3 : decide (r.rc ps = (mkR r.id r.time).rc []) = false) : Calls Tryd.prog 34 #[.agg r.cs] w fun e w' => e = .returned (i64 2) ∧ Below w.heap.size w w' := by
  have HR := hid hr
  have HP := hid hp
  have H0 := hid h0
  have H1 := hid h1
  have H3 := hid h3
  clear hr hp h0 h1 h3
  go_enter Tryd.func34, Tryd.ntmps34
  go_wp2_with (first
    | ((with_reducible refine wpList_boxR rfl _ rfl r.cs ?_ ?_); exact rfl; intro w1 g1 hc1 hb1 hg1; have HA := hid (RBox.mk' HR.out hc1); have HB := hid hb1; have HP1 := hid (HP.out.below hb1); have c0 := HA.out.c0; have c1 := HA.out.c1; have c2 := HA.out.c2; rw [hm] at c2; clear hc1 hb1)
    | (go_at_call 57; refine (isID_any _ _ (by have := HR.out.i; omega)).mono ?_; rintro e w2 ⟨rfl, hb2⟩; rw [H0.out]; replace HA := hid (HA.out.below HR.out hb2); replace HP1 := hid (HP1.out.below hb2); replace HB := hid (below_on HB.out hb2); clear c0 c1 c2; have c0 := HA.out.c0; have c1 := HA.out.c1; have c2 := HA.out.c2; rw [hm] at c2; clear hb2)
    | (go_at_call 36; refine (between_any _ _ _ _).mono ?_; rintro e w' ⟨rfl, hw'⟩; rw [H1.out]; have hw2 := hw'.symm; subst hw2)
    | ((with_reducible refine wpList_load_at 60 _ rfl ?_ g1 0 ?_ r.cs (.struct (Tryd.prog.fieldsOf 60)) ?_ underRec rfl ?_ ?_); exact rfl; exact rfl; exact HA.out.whole; (rw [HR.out.size]; exact sizeR))
    | ((with_reducible refine wpList_build_want 60 _ rfl ?_ (mkR r.id r.time).cs ?_ ?_); exact rfl; exact built_mark r.id r.time)
    | (go_at_call 30; refine (same_any r (mkR r.id r.time) HR.out (mkR_ok HR.out.i) ps [] _ HP1.out (PL.nil _)).mono ?_; rintro e w3 ⟨rfl, hb3⟩; rw [H3.out]; replace HA := hid (HA.out.below HR.out hb3); replace HB := hid (below_on HB.out hb3); clear c0 c1 c2; have c0 := HA.out.c0; have c1 := HA.out.c1; have c2 := HA.out.c2; rw [hm] at c2; clear hb3))
  go_ret
  exact ⟨rfl, HB.out⟩
set_option maxRecDepth 100000 in
set_option maxHeartbeats 1000000 in
theorem check_vf (r : Rv) (hr : r.ok) (ps : Ps) (w : World) (hp : PL w r.pv ps) (h0 : okId (lst r.id) = true) (h1 : inR r.time 0 1048576 = true) (hm : r.mark = false) (h3 : versOk r ps = false) : Calls Tryd.prog 34 #[.agg r.cs] w fun e w' => e = .returned (i64 2) ∧ Below w.heap.size w w' := by
  have HR := hid hr
  have HP := hid hp
  have H0 := hid h0
  have H1 := hid h1
  have H3 := hid h3
  clear hr hp h0 h1 h3
  go_enter Tryd.func34, Tryd.ntmps34
  go_wp2_with (first
    | ((with_reducible refine wpList_boxR rfl _ rfl r.cs ?_ ?_); exact rfl; intro w1 g1 hc1 hb1 hg1; have HA := hid (RBox.mk' HR.out hc1); have HB := hid hb1; have HP1 := hid (HP.out.below hb1); have c0 := HA.out.c0; have c1 := HA.out.c1; have c2 := HA.out.c2; rw [hm] at c2; clear hc1 hb1)
    | (go_at_call 57; refine (isID_any _ _ (by have := HR.out.i; omega)).mono ?_; rintro e w2 ⟨rfl, hb2⟩; rw [H0.out]; replace HA := hid (HA.out.below HR.out hb2); replace HP1 := hid (HP1.out.below hb2); replace HB := hid (below_on HB.out hb2); clear c0 c1 c2; have c0 := HA.out.c0; have c1 := HA.out.c1; have c2 := HA.out.c2; rw [hm] at c2; clear hb2)
    | (go_at_call 36; refine (between_any _ _ _ _).mono ?_; rintro e w' ⟨rfl, hw'⟩; rw [H1.out]; have hw2 := hw'.symm; subst hw2)
    | ((with_reducible refine wpList_load_at 60 _ rfl ?_ g1 0 ?_ r.cs (.struct (Tryd.prog.fieldsOf 60)) ?_ underRec rfl ?_ ?_); exact rfl; exact rfl; exact HA.out.whole; (rw [HR.out.size]; exact sizeR))
    | (go_at_call 58; refine (isVersion_any r HR.out ps _ HP1.out).mono ?_; rintro e w4 ⟨rfl, hb4⟩; rw [H3.out]; replace HB := hid (below_on HB.out hb4); clear hb4))
  go_ret
  exact ⟨rfl, HB.out⟩
theorem check_any (r : Rv) (hr : r.ok) (ps : Ps) (w : World) (hp : PL w r.pv ps) : Calls Tryd.prog 34 #[.agg r.cs] w fun e w' => e = .returned (i64 (if okRc (r.rc ps) = true then 0 else 2)) ∧ Below w.heap.size w w' := by
  cases hm : r.mark
  · rw [okRc_vers r ps hm hr.sl]
    cases h0 : okId (lst r.id)
    · exact check_0 r hr ps w hp h0
    cases h1 : inR r.time 0 1048576
    · exact check_1 r hr ps w hp h0 h1
    cases h3 : versOk r ps
    · exact check_vf r hr ps w hp h0 h1 hm h3
    · exact check_vt r hr ps w hp h0 h1 hm h3
  · rw [okRc_mark r ps hm]
    cases h0 : okId (lst r.id)
    · exact check_0 r hr ps w hp h0
    cases h1 : inR r.time 0 1048576
    · exact check_1 r hr ps w hp h0 h1
    cases h3 : decide (r.rc ps = (mkR r.id r.time).rc [])
    · exact check_mf r hr ps w hp h0 h1 hm h3
    · exact check_mt r hr ps w hp h0 h1 hm h3
end Go.Proofs.YtelkijiphhoacaaDoor.G
