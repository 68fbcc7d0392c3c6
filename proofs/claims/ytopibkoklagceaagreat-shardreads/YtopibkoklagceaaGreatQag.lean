/- Texts laid into one, cut to what is needed: the remark ahead of each part says what is proved there. -/
import Derived.Test.YtopibkoklagceaaGreatQad
import Derived.Test.YtopibkoklagceaaGreatQae
import Derived.Test.YtopibkoklagceaaGreatQaf
import Derived.Test.YtopibkoklagceaaGreatQab
import Derived.Deep.MidRow
import Derived.Laws.Tables
import Derived.Laws.Rows
import Derived.ChangeArms
import Derived.ChangeSlices
import Derived.OpenShut
import Derived.Lib.SlBytesConst
import Derived.Deep.Cut
/- Contract of Same of package record, some cases. (Written by tools/gen_Vn.py.) -/
namespace Go.Proofs.YtopibkoklagceaaGreat
open Go Go.RowKit

set_option maxRecDepth 100000 in
set_option maxHeartbeats 1000000 in
theorem same_9 (r s : Rv) (hr : r.ok) (hs : s.ok) (ps qs : Ps) (w : World) (hp : PL w r.pv ps) (hq : PL w s.pv qs) (h0 : (r.id.toList == s.id.toList) = true) (h1 : (r.time == s.time) = true) (h2 : (r.mark == s.mark) = true) (h3 : (r.size == s.size) = true) (h4 : (r.etag.toList == s.etag.toList) = true) (h5 : (r.k == s.k) = true) (h6 : (r.m == s.m) = true) (h7 : (r.data.toList == s.data.toList) = true) (h8 : decide (r.sum = s.sum) = true) (h9 : decide (ps = qs) = false) : Calls Tryz.prog 82 #[.agg r.cs, .agg s.cs] w fun e w' => e = .returned (.bool (decide (r.rc ps = s.rc qs))) ∧ Below w.heap.size w w' := by
 have HD : Hid (decide (r.rc ps = s.rc qs) = false) := rc_ne (by rintro ⟨k0, k1, k2, k3, k4, k5, k6, k7, k8, k9, k10⟩; rw [k9] at h9; cases h9)
 have HR := hid hr
 have HS := hid hs
 have HP := hid hp
 have HQ := hid hq
 have hsum := eqSum hr.sl hs.sl
 rw [h8] at hsum
 clear h8
 have H9 := hid h9
 clear h9
 clear hr hs hp hq
 generalize decide (r.rc ps = s.rc qs) = dd at *
 go_enter Tryz.func82, Tryz.ntmps82
 go_wp2_with (first
  | ((with_reducible refine wpList_boxR rfl _ rfl s.cs ?_ ?_); exact rfl; intro w2 g2 hc2 hb2 hg2; have HA := hid (HA0.out.below HR.out hb2); have HC := hid (RBox.mk' HS.out hc2); have a0 := HA.out.c0; have b0 := HC.out.c0; have a1 := HA.out.c1; have b1 := HC.out.c1; have a2 := HA.out.c2; have b2 := HC.out.c2; have a3 := HA.out.c3; have b3 := HC.out.c3; have a4 := HA.out.c4; have b4 := HC.out.c4; have a5 := HA.out.c5; have b5 := HC.out.c5; have a6 := HA.out.c6; have b6 := HC.out.c6; have a7 := HA.out.c7; have b7 := HC.out.c7; have a40 := HA.out.c40; have b40 := HC.out.c40; have HB := hid (below_on HB0.out hb2); have HP2 := hid ((HP.out.below HB0.out).below hb2); have HQ2 := hid ((HQ.out.below HB0.out).below hb2); clear hc2 hb2 HA0)
  | ((with_reducible refine wpList_boxR rfl _ rfl r.cs ?_ ?_); exact rfl; intro w1 g1 hc1 hb1 hg1; have HA0 := hid (RBox.mk' HR.out hc1); have HB0 := hid hb1; clear hc1 hb1)
  | ((with_reducible refine wpList_load_at 37 _ rfl ?_ g1 8 ?_ (sumC r.sum) (.array 32 5) ?_ underD rfl ?_ ?_); exact rfl; exact rfl; exact HA.out.cs; (rw [sumC_size, HR.out.sl]; exact sizeD))
  | ((with_reducible refine wpList_load_at 37 _ rfl ?_ g2 8 ?_ (sumC s.sum) (.array 32 5) ?_ underD rfl ?_ ?_); exact rfl; exact rfl; exact HC.out.cs; (rw [sumC_size, HS.out.sl]; exact sizeD))
  | (go_at_call 105; refine (equal_any _ _ ps qs _ HP2.out HQ2.out).mono ?_; rintro e w3 ⟨rfl, hb3⟩; rw [H9.out]; replace HA := hid (HA.out.below HR.out hb3); replace HC := hid (HC.out.below HS.out hb3); have a41' := HA.out.c41; have b41' := HC.out.c41; replace HB := hid (below_on HB.out hb3); clear hb3))
 go_ret
 exact ⟨by rw [HD.out]; rfl, HB.out⟩
set_option maxRecDepth 100000 in
set_option maxHeartbeats 1000000 in
theorem same_10 (r s : Rv) (hr : r.ok) (hs : s.ok) (ps qs : Ps) (w : World) (hp : PL w r.pv ps) (hq : PL w s.pv qs) (h0 : (r.id.toList == s.id.toList) = true) (h1 : (r.time == s.time) = true) (h2 : (r.mark == s.mark) = true) (h3 : (r.size == s.size) = true) (h4 : (r.etag.toList == s.etag.toList) = true) (h5 : (r.k == s.k) = true) (h6 : (r.m == s.m) = true) (h7 : (r.data.toList == s.data.toList) = true) (h8 : decide (r.sum = s.sum) = true) (h9 : decide (ps = qs) = true) (h10 : (r.up.toList == s.up.toList) = false) : Calls Tryz.prog 82 #[.agg r.cs, .agg s.cs] w fun e w' => e = .returned (.bool (decide (r.rc ps = s.rc qs))) ∧ Below w.heap.size w w' := by
 have HD : Hid (decide (r.rc ps = s.rc qs) = false) := rc_ne (by rintro ⟨k0, k1, k2, k3, k4, k5, k6, k7, k8, k9, k10⟩; rw [k10] at h10; cases h10)
 have HR := hid hr
 have HS := hid hs
 have HP := hid hp
 have HQ := hid hq
 have hsum := eqSum hr.sl hs.sl
 rw [h8] at hsum
 clear h8
 have H9 := hid h9
 clear h9
 clear hr hs hp hq
 generalize decide (r.rc ps = s.rc qs) = dd at *
 go_enter Tryz.func82, Tryz.ntmps82
 go_wp2_with (first
  | ((with_reducible refine wpList_boxR rfl _ rfl s.cs ?_ ?_); exact rfl; intro w2 g2 hc2 hb2 hg2; have HA := hid (HA0.out.below HR.out hb2); have HC := hid (RBox.mk' HS.out hc2); have a0 := HA.out.c0; have b0 := HC.out.c0; have a1 := HA.out.c1; have b1 := HC.out.c1; have a2 := HA.out.c2; have b2 := HC.out.c2; have a3 := HA.out.c3; have b3 := HC.out.c3; have a4 := HA.out.c4; have b4 := HC.out.c4; have a5 := HA.out.c5; have b5 := HC.out.c5; have a6 := HA.out.c6; have b6 := HC.out.c6; have a7 := HA.out.c7; have b7 := HC.out.c7; have a40 := HA.out.c40; have b40 := HC.out.c40; have a41 := HA.out.c41; have b41 := HC.out.c41; have HB := hid (below_on HB0.out hb2); have HP2 := hid ((HP.out.below HB0.out).below hb2); have HQ2 := hid ((HQ.out.below HB0.out).below hb2); clear hc2 hb2 HA0)
  | ((with_reducible refine wpList_boxR rfl _ rfl r.cs ?_ ?_); exact rfl; intro w1 g1 hc1 hb1 hg1; have HA0 := hid (RBox.mk' HR.out hc1); have HB0 := hid hb1; clear hc1 hb1)
  | ((with_reducible refine wpList_load_at 37 _ rfl ?_ g1 8 ?_ (sumC r.sum) (.array 32 5) ?_ underD rfl ?_ ?_); exact rfl; exact rfl; exact HA.out.cs; (rw [sumC_size, HR.out.sl]; exact sizeD))
  | ((with_reducible refine wpList_load_at 37 _ rfl ?_ g2 8 ?_ (sumC s.sum) (.array 32 5) ?_ underD rfl ?_ ?_); exact rfl; exact rfl; exact HC.out.cs; (rw [sumC_size, HS.out.sl]; exact sizeD))
  | (go_at_call 105; refine (equal_any _ _ ps qs _ HP2.out HQ2.out).mono ?_; rintro e w3 ⟨rfl, hb3⟩; rw [H9.out]; replace HA := hid (HA.out.below HR.out hb3); replace HC := hid (HC.out.below HS.out hb3); have a41' := HA.out.c41; have b41' := HC.out.c41; replace HB := hid (below_on HB.out hb3); clear hb3))
 go_ret
 exact ⟨by rw [HD.out]; rfl, HB.out⟩
end Go.Proofs.YtopibkoklagceaaGreat

/- Contract of Same of package record, some cases. (Written by tools/gen_Vn.py.) -/
namespace Go.Proofs.YtopibkoklagceaaGreat
open Go Go.RowKit

set_option maxRecDepth 100000 in
set_option maxHeartbeats 1000000 in
theorem same_11 (r s : Rv) (hr : r.ok) (hs : s.ok) (ps qs : Ps) (w : World) (hp : PL w r.pv ps) (hq : PL w s.pv qs) (h0 : (r.id.toList == s.id.toList) = true) (h1 : (r.time == s.time) = true) (h2 : (r.mark == s.mark) = true) (h3 : (r.size == s.size) = true) (h4 : (r.etag.toList == s.etag.toList) = true) (h5 : (r.k == s.k) = true) (h6 : (r.m == s.m) = true) (h7 : (r.data.toList == s.data.toList) = true) (h8 : decide (r.sum = s.sum) = true) (h9 : decide (ps = qs) = true) (h10 : (r.up.toList == s.up.toList) = true) : Calls Tryz.prog 82 #[.agg r.cs, .agg s.cs] w fun e w' => e = .returned (.bool (decide (r.rc ps = s.rc qs))) ∧ Below w.heap.size w w' := by
 have HD : Hid (decide (r.rc ps = s.rc qs) = true) := decide_eq_true ((rc_eq r s ps qs).2 ⟨h0, h1, h2, h3, h4, h5, h6, h7, h8, h9, h10⟩)
 have HR := hid hr
 have HS := hid hs
 have HP := hid hp
 have HQ := hid hq
 have hsum := eqSum hr.sl hs.sl
 rw [h8] at hsum
 clear h8
 have H9 := hid h9
 clear h9
 clear hr hs hp hq
 generalize decide (r.rc ps = s.rc qs) = dd at *
 go_enter Tryz.func82, Tryz.ntmps82
 go_wp2_with (first
  | ((with_reducible refine wpList_boxR rfl _ rfl s.cs ?_ ?_); exact rfl; intro w2 g2 hc2 hb2 hg2; have HA := hid (HA0.out.below HR.out hb2); have HC := hid (RBox.mk' HS.out hc2); have a0 := HA.out.c0; have b0 := HC.out.c0; have a1 := HA.out.c1; have b1 := HC.out.c1; have a2 := HA.out.c2; have b2 := HC.out.c2; have a3 := HA.out.c3; have b3 := HC.out.c3; have a4 := HA.out.c4; have b4 := HC.out.c4; have a5 := HA.out.c5; have b5 := HC.out.c5; have a6 := HA.out.c6; have b6 := HC.out.c6; have a7 := HA.out.c7; have b7 := HC.out.c7; have a40 := HA.out.c40; have b40 := HC.out.c40; have a41 := HA.out.c41; have b41 := HC.out.c41; have HB := hid (below_on HB0.out hb2); have HP2 := hid ((HP.out.below HB0.out).below hb2); have HQ2 := hid ((HQ.out.below HB0.out).below hb2); clear hc2 hb2 HA0)
  | ((with_reducible refine wpList_boxR rfl _ rfl r.cs ?_ ?_); exact rfl; intro w1 g1 hc1 hb1 hg1; have HA0 := hid (RBox.mk' HR.out hc1); have HB0 := hid hb1; clear hc1 hb1)
  | ((with_reducible refine wpList_load_at 37 _ rfl ?_ g1 8 ?_ (sumC r.sum) (.array 32 5) ?_ underD rfl ?_ ?_); exact rfl; exact rfl; exact HA.out.cs; (rw [sumC_size, HR.out.sl]; exact sizeD))
  | ((with_reducible refine wpList_load_at 37 _ rfl ?_ g2 8 ?_ (sumC s.sum) (.array 32 5) ?_ underD rfl ?_ ?_); exact rfl; exact rfl; exact HC.out.cs; (rw [sumC_size, HS.out.sl]; exact sizeD))
  | (go_at_call 105; refine (equal_any _ _ ps qs _ HP2.out HQ2.out).mono ?_; rintro e w3 ⟨rfl, hb3⟩; rw [H9.out]; replace HA := hid (HA.out.below HR.out hb3); replace HC := hid (HC.out.below HS.out hb3); have a41' := HA.out.c41; have b41' := HC.out.c41; replace HB := hid (below_on HB.out hb3); clear hb3))
 go_ret
 exact ⟨by rw [HD.out]; rfl, HB.out⟩
end Go.Proofs.YtopibkoklagceaaGreat

/- Contract of Same of package record, some cases. (Written by tools/gen_Vn.py.) -/
namespace Go.Proofs.YtopibkoklagceaaGreat
open Go Go.RowKit

theorem same_any (r s : Rv) (hr : r.ok) (hs : s.ok) (ps qs : Ps) (w : World) (hp : PL w r.pv ps) (hq : PL w s.pv qs) : Calls Tryz.prog 82 #[.agg r.cs, .agg s.cs] w fun e w' => e = .returned (.bool (decide (r.rc ps = s.rc qs))) ∧ Below w.heap.size w w' := by
 cases h0 : (r.id.toList == s.id.toList)
 ·exact same_0 r s hr hs ps qs w hp hq h0
 cases h1 : (r.time == s.time)
 ·exact same_1 r s hr hs ps qs w hp hq h0 h1
 cases h2 : (r.mark == s.mark)
 ·exact same_2 r s hr hs ps qs w hp hq h0 h1 h2
 cases h3 : (r.size == s.size)
 ·exact same_3 r s hr hs ps qs w hp hq h0 h1 h2 h3
 cases h4 : (r.etag.toList == s.etag.toList)
 ·exact same_4 r s hr hs ps qs w hp hq h0 h1 h2 h3 h4
 cases h5 : (r.k == s.k)
 ·exact same_5 r s hr hs ps qs w hp hq h0 h1 h2 h3 h4 h5
 cases h6 : (r.m == s.m)
 ·exact same_6 r s hr hs ps qs w hp hq h0 h1 h2 h3 h4 h5 h6
 cases h7 : (r.data.toList == s.data.toList)
 ·exact same_7 r s hr hs ps qs w hp hq h0 h1 h2 h3 h4 h5 h6 h7
 cases h8 : decide (r.sum = s.sum)
 ·exact same_8 r s hr hs ps qs w hp hq h0 h1 h2 h3 h4 h5 h6 h7 h8
 cases h9 : decide (ps = qs)
 ·exact same_9 r s hr hs ps qs w hp hq h0 h1 h2 h3 h4 h5 h6 h7 h8 h9
 cases h10 : (r.up.toList == s.up.toList)
 ·exact same_10 r s hr hs ps qs w hp hq h0 h1 h2 h3 h4 h5 h6 h7 h8 h9 h10
 exact same_11 r s hr hs ps qs w hp hq h0 h1 h2 h3 h4 h5 h6 h7 h8 h9 h10
end Go.Proofs.YtopibkoklagceaaGreat

/- Contract of Check of package record. -/
namespace Go.Proofs.YtopibkoklagceaaGreat
open Go Go.RowKit

theorem isEmpty_lst (u : ByteArray) : u.toList.isEmpty = (lst u).isEmpty := by
 unfold lst; rw [ByteArray.toList_eq]; cases u.data.toList <;> simp
theorem km_eq (k m : Int) : (inR k 1 16 && inR m 1 (16 - k)) = (inR k 1 15 && inR m 1 15 && decide (k + m ≤ 16)) := by
 unfold inR; rw [Bool.eq_iff_iff]; simp; omega
theorem okRc_vers (r : Rv) (ps : Ps) (hm : r.mark = false) (hl : r.sum.length = 32) : okRc (r.rc ps) = (okId (lst r.id) && inR r.time 0 1048576 && versOk r ps) := by
 unfold okRc Rv.rc versOk upOk
 simp only [hm, Bool.false_eq_true, if_false, hl, decide_true, Bool.and_true, isEmpty_lst]
 congr 1
 have := km_eq r.k r.m
 generalize inR r.size 0 65536 = a at *
 generalize okTag (lst r.etag) = b at *
 generalize okData (lst r.data) = c at *
 generalize okParts ps r.size = d at *
 generalize ((lst r.up).isEmpty || okId (lst r.up)) = e at *
 cases a <;> cases b <;> simp_all [← Bool.and_assoc]
def mkR (id : ByteArray) (time : Int) : Rv := ⟨id, time, true, 0, ⟨#[]⟩, 0, 0, ⟨#[]⟩, zeroD, .slice none 0 0, ⟨#[]⟩⟩
theorem mkR_ok {id : ByteArray} {time : Int} (h : id.size ≤ 100000) : (mkR id time).ok := ⟨rfl, by simp [mkR, zeroD], h, by simp [mkR, ByteArray.size], by simp [mkR, ByteArray.size], by simp [mkR, ByteArray.size]⟩
theorem okRc_mark (r : Rv) (ps : Ps) (hm : r.mark = true) : okRc (r.rc ps) = (okId (lst r.id) && inR r.time 0 1048576 && decide (r.rc ps = (mkR r.id r.time).rc [])) := by
 unfold okRc Rv.rc mkR
 simp only [hm, if_true]
 congr 1
 rw [Bool.eq_iff_iff]
 simp [lst_nil]
 constructor
 ·rintro ⟨⟨⟨⟨⟨⟨⟨h1, h2⟩, h3⟩, h4⟩, h5⟩, h6⟩, h7⟩, h8⟩; exact ⟨h1, h2, h3, h4, h5, h6, h7, h8⟩
 ·rintro ⟨h1, h2, h3, h4, h5, h6, h7, h8⟩; exact ⟨⟨⟨⟨⟨⟨⟨h1, h2⟩, h3⟩, h4⟩, h5⟩, h6⟩, h7⟩, h8⟩
theorem built_mark (id : ByteArray) (time : Int) : Tryz.prog.built 40 [(0, .string id), (1, i64 time), (2, .bool true)] = some (mkR id time).cs := by kernel_rfl
theorem PL.nil (w : World) : PL w (.slice none 0 0) [] := ⟨none, 0, rfl, Nat.le_refl _, by simp, Or.inl rfl⟩
theorem underRec : Tryz.prog.underlying 40 = some (.struct (Tryz.prog.fieldsOf 40)) := by kernel_rfl
theorem RBox.whole {w : World} {g : Nat} {r : Rv} (h : RBox w g r) : ∀ j v, r.cs[j]? = some v → w.cell? ⟨g, 0 + j, none⟩ = some v := fun j v hv => by rw [Nat.zero_add, h.at_.cell, hv]
theorem wpList_build_want {ops : Array Oper} {rest : List Oper} {o : Oper} {a : Act} {w : World} {Q : Exit → Act → World → Prop} (t : TypeId) (parts : Array (Nat × Operand)) (ho : o.op = .build t parts) (hw : Region.wanted o (yielded ops a.tmps) = true) (cs : Array Value)
  (hf : Tryz.prog.built t (parts.toList.map fun (i, x) => (i, a.eval x)) = some cs) (h : wpList Tryz.prog ops Q rest (a.put o.dst (.agg cs)) w) : wpList Tryz.prog ops Q (o :: rest) a w := by
 rw [← Array.toList_map] at hf
 exact BigFrame.wpList_want hw fun _ hK => wp_build t parts ho (by rw [hf]; rfl) (hK _ _ (by rw [hf]; exact h))
set_option maxRecDepth 100000 in
set_option maxHeartbeats 1000000 in
theorem check_0 (r : Rv) (hr : r.ok) (ps : Ps) (w : World) (hp : PL w r.pv ps) (h0 : okId (lst r.id) = false) : Calls Tryz.prog 57 #[.agg r.cs] w fun e w' => e = .returned (i64 2) ∧ Below w.heap.size w w' := by
 have HR := hid hr
 have HP := hid hp
 have H0 := hid h0
 clear hr hp h0
 go_enter Tryz.func57, Tryz.ntmps57
 go_wp2_with (first
  | ((with_reducible refine wpList_boxR rfl _ rfl r.cs ?_ ?_); exact rfl; intro w1 g1 hc1 hb1 hg1; have HA := hid (RBox.mk' HR.out hc1); have HB := hid hb1; have HP1 := hid (HP.out.below hb1); have c0 := HA.out.c0; have c1 := HA.out.c1; have c2 := HA.out.c2; clear hc1 hb1)
  | (go_at_call 80; refine (isID_any _ _ (by have := HR.out.i; omega)).mono ?_; rintro e w2 ⟨rfl, hb2⟩; rw [H0.out]; replace HA := hid (HA.out.below HR.out hb2); replace HP1 := hid (HP1.out.below hb2); replace HB := hid (below_on HB.out hb2); clear c0 c1 c2; have c0 := HA.out.c0; have c1 := HA.out.c1; have c2 := HA.out.c2; clear hb2))
 go_ret
 exact ⟨rfl, HB.out⟩
set_option maxRecDepth 100000 in
set_option maxHeartbeats 1000000 in
theorem check_1 (r : Rv) (hr : r.ok) (ps : Ps) (w : World) (hp : PL w r.pv ps) (h0 : okId (lst r.id) = true) (h1 : inR r.time 0 1048576 = false) : Calls Tryz.prog 57 #[.agg r.cs] w fun e w' => e = .returned (i64 2) ∧ Below w.heap.size w w' := by
 have HR := hid hr
 have HP := hid hp
 have H0 := hid h0
 have H1 := hid h1
 clear hr hp h0 h1
 go_enter Tryz.func57, Tryz.ntmps57
 go_wp2_with (first
  | ((with_reducible refine wpList_boxR rfl _ rfl r.cs ?_ ?_); exact rfl; intro w1 g1 hc1 hb1 hg1; have HA := hid (RBox.mk' HR.out hc1); have HB := hid hb1; have HP1 := hid (HP.out.below hb1); have c0 := HA.out.c0; have c1 := HA.out.c1; have c2 := HA.out.c2; clear hc1 hb1)
  | (go_at_call 80; refine (isID_any _ _ (by have := HR.out.i; omega)).mono ?_; rintro e w2 ⟨rfl, hb2⟩; rw [H0.out]; replace HA := hid (HA.out.below HR.out hb2); replace HP1 := hid (HP1.out.below hb2); replace HB := hid (below_on HB.out hb2); clear c0 c1 c2; have c0 := HA.out.c0; have c1 := HA.out.c1; have c2 := HA.out.c2; clear hb2)
  | (go_at_call 81; refine (between_any _ _ _ _).mono ?_; rintro e w' ⟨rfl, hw'⟩; rw [H1.out]; have hw2 := hw'.symm; subst hw2))
 go_ret
 exact ⟨rfl, HB.out⟩
set_option maxRecDepth 100000 in
set_option maxHeartbeats 1000000 in
theorem check_mt (r : Rv) (hr : r.ok) (ps : Ps) (w : World) (hp : PL w r.pv ps) (h0 : okId (lst r.id) = true) (h1 : inR r.time 0 1048576 = true) (hm : r.mark = true) (h3 : decide (r.rc ps = (mkR r.id r.time).rc []) = true) : Calls Tryz.prog 57 #[.agg r.cs] w fun e w' => e = .returned (i64 0) ∧ Below w.heap.size w w' := by
 have HR := hid hr
 have HP := hid hp
 have H0 := hid h0
 have H1 := hid h1
 have H3 := hid h3
 clear hr hp h0 h1 h3
 go_enter Tryz.func57, Tryz.ntmps57
 go_wp2_with (first
  | ((with_reducible refine wpList_boxR rfl _ rfl r.cs ?_ ?_); exact rfl; intro w1 g1 hc1 hb1 hg1; have HA := hid (RBox.mk' HR.out hc1); have HB := hid hb1; have HP1 := hid (HP.out.below hb1); have c0 := HA.out.c0; have c1 := HA.out.c1; have c2 := HA.out.c2; rw [hm] at c2; clear hc1 hb1)
  | (go_at_call 80; refine (isID_any _ _ (by have := HR.out.i; omega)).mono ?_; rintro e w2 ⟨rfl, hb2⟩; rw [H0.out]; replace HA := hid (HA.out.below HR.out hb2); replace HP1 := hid (HP1.out.below hb2); replace HB := hid (below_on HB.out hb2); clear c0 c1 c2; have c0 := HA.out.c0; have c1 := HA.out.c1; have c2 := HA.out.c2; rw [hm] at c2; clear hb2)
  | (go_at_call 81; refine (between_any _ _ _ _).mono ?_; rintro e w' ⟨rfl, hw'⟩; rw [H1.out]; have hw2 := hw'.symm; subst hw2)
  | ((with_reducible refine wpList_load_at 40 _ rfl ?_ g1 0 ?_ r.cs (.struct (Tryz.prog.fieldsOf 40)) ?_ underRec rfl ?_ ?_); exact rfl; exact rfl; exact HA.out.whole; (rw [HR.out.size]; exact sizeR))
  | ((with_reducible refine wpList_build_want 40 _ rfl ?_ (mkR r.id r.time).cs ?_ ?_); exact rfl; exact built_mark r.id r.time)
  | (go_at_call 82; refine (same_any r (mkR r.id r.time) HR.out (mkR_ok HR.out.i) ps [] _ HP1.out (PL.nil _)).mono ?_; rintro e w3 ⟨rfl, hb3⟩; rw [H3.out]; replace HA := hid (HA.out.below HR.out hb3); replace HB := hid (below_on HB.out hb3); clear c0 c1 c2; have c0 := HA.out.c0; have c1 := HA.out.c1; have c2 := HA.out.c2; rw [hm] at c2; clear hb3))
 go_ret
 exact ⟨rfl, HB.out⟩
set_option maxRecDepth 100000 in
set_option maxHeartbeats 1000000 in
theorem check_vt (r : Rv) (hr : r.ok) (ps : Ps) (w : World) (hp : PL w r.pv ps) (h0 : okId (lst r.id) = true) (h1 : inR r.time 0 1048576 = true) (hm : r.mark = false) (h3 : versOk r ps = true) : Calls Tryz.prog 57 #[.agg r.cs] w fun e w' => e = .returned (i64 0) ∧ Below w.heap.size w w' := by
 have HR := hid hr
 have HP := hid hp
 have H0 := hid h0
 have H1 := hid h1
 have H3 := hid h3
 clear hr hp h0 h1 h3
 go_enter Tryz.func57, Tryz.ntmps57
 go_wp2_with (first
  | ((with_reducible refine wpList_boxR rfl _ rfl r.cs ?_ ?_); exact rfl; intro w1 g1 hc1 hb1 hg1; have HA := hid (RBox.mk' HR.out hc1); have HB := hid hb1; have HP1 := hid (HP.out.below hb1); have c0 := HA.out.c0; have c1 := HA.out.c1; have c2 := HA.out.c2; rw [hm] at c2; clear hc1 hb1)
  | (go_at_call 80; refine (isID_any _ _ (by have := HR.out.i; omega)).mono ?_; rintro e w2 ⟨rfl, hb2⟩; rw [H0.out]; replace HA := hid (HA.out.below HR.out hb2); replace HP1 := hid (HP1.out.below hb2); replace HB := hid (below_on HB.out hb2); clear c0 c1 c2; have c0 := HA.out.c0; have c1 := HA.out.c1; have c2 := HA.out.c2; rw [hm] at c2; clear hb2)
  | (go_at_call 81; refine (between_any _ _ _ _).mono ?_; rintro e w' ⟨rfl, hw'⟩; rw [H1.out]; have hw2 := hw'.symm; subst hw2)
  | ((with_reducible refine wpList_load_at 40 _ rfl ?_ g1 0 ?_ r.cs (.struct (Tryz.prog.fieldsOf 40)) ?_ underRec rfl ?_ ?_); exact rfl; exact rfl; exact HA.out.whole; (rw [HR.out.size]; exact sizeR))
  | (go_at_call 83; refine (isVersion_any r HR.out ps _ HP1.out).mono ?_; rintro e w4 ⟨rfl, hb4⟩; rw [H3.out]; replace HB := hid (below_on HB.out hb4); clear hb4))
 go_ret
 exact ⟨rfl, HB.out⟩
set_option maxRecDepth 100000 in
set_option maxHeartbeats 1000000 in
theorem check_mf (r : Rv) (hr : r.ok) (ps : Ps) (w : World) (hp : PL w r.pv ps) (h0 : okId (lst r.id) = true) (h1 : inR r.time 0 1048576 = true) (hm : r.mark = true) (h3 : decide (r.rc ps = (mkR r.id r.time).rc []) = false) : Calls Tryz.prog 57 #[.agg r.cs] w fun e w' => e = .returned (i64 2) ∧ Below w.heap.size w w' := by
 have HR := hid hr
 have HP := hid hp
 have H0 := hid h0
 have H1 := hid h1
 have H3 := hid h3
 clear hr hp h0 h1 h3
 go_enter Tryz.func57, Tryz.ntmps57
 go_wp2_with (first
  | ((with_reducible refine wpList_boxR rfl _ rfl r.cs ?_ ?_); exact rfl; intro w1 g1 hc1 hb1 hg1; have HA := hid (RBox.mk' HR.out hc1); have HB := hid hb1; have HP1 := hid (HP.out.below hb1); have c0 := HA.out.c0; have c1 := HA.out.c1; have c2 := HA.out.c2; rw [hm] at c2; clear hc1 hb1)
  | (go_at_call 80; refine (isID_any _ _ (by have := HR.out.i; omega)).mono ?_; rintro e w2 ⟨rfl, hb2⟩; rw [H0.out]; replace HA := hid (HA.out.below HR.out hb2); replace HP1 := hid (HP1.out.below hb2); replace HB := hid (below_on HB.out hb2); clear c0 c1 c2; have c0 := HA.out.c0; have c1 := HA.out.c1; have c2 := HA.out.c2; rw [hm] at c2; clear hb2)
  | (go_at_call 81; refine (between_any _ _ _ _).mono ?_; rintro e w' ⟨rfl, hw'⟩; rw [H1.out]; have hw2 := hw'.symm; subst hw2)
  | ((with_reducible refine wpList_load_at 40 _ rfl ?_ g1 0 ?_ r.cs (.struct (Tryz.prog.fieldsOf 40)) ?_ underRec rfl ?_ ?_); exact rfl; exact rfl; exact HA.out.whole; (rw [HR.out.size]; exact sizeR))
  | ((with_reducible refine wpList_build_want 40 _ rfl ?_ (mkR r.id r.time).cs ?_ ?_); exact rfl; exact built_mark r.id r.time)
  | (go_at_call 82; refine (same_any r (mkR r.id r.time) HR.out (mkR_ok HR.out.i) ps [] _ HP1.out (PL.nil _)).mono ?_; rintro e w3 ⟨rfl, hb3⟩; rw [H3.out]; replace HA := hid (HA.out.below HR.out hb3); replace HB := hid (below_on HB.out hb3); clear c0 c1 c2; have c0 := HA.out.c0; have c1 := HA.out.c1; have c2 := HA.out.c2; rw [hm] at c2; clear hb3))
 go_ret
 exact ⟨rfl, HB.out⟩
set_option maxRecDepth 100000 in
set_option maxHeartbeats 1000000 in
theorem check_vf (r : Rv) (hr : r.ok) (ps : Ps) (w : World) (hp : PL w r.pv ps) (h0 : okId (lst r.id) = true) (h1 : inR r.time 0 1048576 = true) (hm : r.mark = false) (h3 : versOk r ps = false) : Calls Tryz.prog 57 #[.agg r.cs] w fun e w' => e = .returned (i64 2) ∧ Below w.heap.size w w' := by
 have HR := hid hr
 have HP := hid hp
 have H0 := hid h0
 have H1 := hid h1
 have H3 := hid h3
 clear hr hp h0 h1 h3
 go_enter Tryz.func57, Tryz.ntmps57
 go_wp2_with (first
  | ((with_reducible refine wpList_boxR rfl _ rfl r.cs ?_ ?_); exact rfl; intro w1 g1 hc1 hb1 hg1; have HA := hid (RBox.mk' HR.out hc1); have HB := hid hb1; have HP1 := hid (HP.out.below hb1); have c0 := HA.out.c0; have c1 := HA.out.c1; have c2 := HA.out.c2; rw [hm] at c2; clear hc1 hb1)
  | (go_at_call 80; refine (isID_any _ _ (by have := HR.out.i; omega)).mono ?_; rintro e w2 ⟨rfl, hb2⟩; rw [H0.out]; replace HA := hid (HA.out.below HR.out hb2); replace HP1 := hid (HP1.out.below hb2); replace HB := hid (below_on HB.out hb2); clear c0 c1 c2; have c0 := HA.out.c0; have c1 := HA.out.c1; have c2 := HA.out.c2; rw [hm] at c2; clear hb2)
  | (go_at_call 81; refine (between_any _ _ _ _).mono ?_; rintro e w' ⟨rfl, hw'⟩; rw [H1.out]; have hw2 := hw'.symm; subst hw2)
  | ((with_reducible refine wpList_load_at 40 _ rfl ?_ g1 0 ?_ r.cs (.struct (Tryz.prog.fieldsOf 40)) ?_ underRec rfl ?_ ?_); exact rfl; exact rfl; exact HA.out.whole; (rw [HR.out.size]; exact sizeR))
  | (go_at_call 83; refine (isVersion_any r HR.out ps _ HP1.out).mono ?_; rintro e w4 ⟨rfl, hb4⟩; rw [H3.out]; replace HB := hid (below_on HB.out hb4); clear hb4))
 go_ret
 exact ⟨rfl, HB.out⟩
theorem check_any (r : Rv) (hr : r.ok) (ps : Ps) (w : World) (hp : PL w r.pv ps) : Calls Tryz.prog 57 #[.agg r.cs] w fun e w' => e = .returned (i64 (if okRc (r.rc ps) = true then 0 else 2)) ∧ Below w.heap.size w w' := by
 cases hm : r.mark
 ·rw [okRc_vers r ps hm hr.sl]
  cases h0 : okId (lst r.id)
  ·exact check_0 r hr ps w hp h0
  cases h1 : inR r.time 0 1048576
  ·exact check_1 r hr ps w hp h0 h1
  cases h3 : versOk r ps
  ·exact check_vf r hr ps w hp h0 h1 hm h3
  ·exact check_vt r hr ps w hp h0 h1 hm h3
 ·rw [okRc_mark r ps hm]
  cases h0 : okId (lst r.id)
  ·exact check_0 r hr ps w hp h0
  cases h1 : inR r.time 0 1048576
  ·exact check_1 r hr ps w hp h0 h1
  cases h3 : decide (r.rc ps = (mkR r.id r.time).rc [])
  ·exact check_mf r hr ps w hp h0 h1 hm h3
  ·exact check_mt r hr ps w hp h0 h1 hm h3
end Go.Proofs.YtopibkoklagceaaGreat

/- Contract of parts of the reader of package record. -/
namespace Go.Proofs.YtopibkoklagceaaGreat
open Go Go.RowKit

def flatP (ps : Ps) : List Value := ps.flatMap fun p => [i64 p.1, i64 p.2]
theorem flatP_len (ps : Ps) : (flatP ps).length = ps.length * 2 := by
 induction ps with
 | nil => rfl
 | cons p r ih => simp [flatP] at ih ⊢; omega
theorem flatP_get : ∀ (ps : Ps) (i : Nat), i < ps.length → (flatP ps)[i * 2]? = some (i64 (ps.getD i (0, 0)).1) ∧ (flatP ps)[i * 2 + 1]? = some (i64 (ps.getD i (0, 0)).2)
 | [], i, h => by simp at h
 | p :: r, 0, _ => by simp [flatP]
 | p :: r, i + 1, h => by
  have ih := flatP_get r i (by simpa using h)
  have e : flatP (p :: r) = i64 p.1 :: i64 p.2 :: flatP r := rfl
  rw [e, show (i + 1) * 2 = i * 2 + 1 + 1 by omega]
  simpa using ih
/-- Parts in a row of their own. -/
def PBuf (B : Nat) (w : World) (v : Value) (ps : Ps) : Prop := w.ownsRow B 69 2 v ps.length (flatP ps)
theorem Tryz.infoP : (Tryz.prog.info? 69).map (fun i => (i.zero, i.size, i.bytes)) = some (some (.agg #[.int .i64 0, .int .i64 0]), 2, 16) := by kernel_rfl
/-- Parts in memory of no block below B, that may be written; none only where there is no room. -/
def PLF (B : Nat) (w : World) (v : Value) (ps : Ps) : Prop := PL w v ps ∧ (∀ a n c, v = .slice (some a) n c → ps ≠ [] → B ≤ a.block ∧ ∃ cs, CAt w a.block cs 69) ∧ ∀ n c, v = .slice none n c → c = 0
theorem PLF.nil (B : Nat) (w : World) : PLF B w (.slice none 0 0) [] := ⟨PL.nil w, fun _ _ _ _ h => (h rfl).elim, fun _ _ h => by cases h; rfl⟩
theorem PLF.only {B : Nat} {w w' : World} {v : Value} {ps : Ps} {S : Nat → Prop} (h : PLF B w v ps) (hO : Only S w w') (hS : ∀ i, S i → i < B) : PLF B w' v ps := by
 obtain ⟨⟨po, c, h1, h2, h3, h⟩, hB, hz⟩ := h
 refine ⟨⟨po, c, h1, h2, h3, ?_⟩, fun a n c e hne => ?_, hz⟩
 ·rcases h with h | ⟨b, o, hp, h⟩
  ·exact Or.inl h
  ·refine Or.inr ⟨b, o, hp, fun i hi => ?_⟩
   have hb : B ≤ b := (hB ⟨b, o, none⟩ _ _ (by rw [h1, hp]) (fun e => by rw [e] at hi; cases hi)).1
   have hk : w'.heap[b]? = w.heap[b]? := hO.block b (cell_lt' (a := ⟨b, o + i * 2, none⟩) (by rw [(h i hi).1]; simp)) (fun e => by have := hS _ e; omega)
   exact ⟨(World.cell?_of_block (a := ⟨b, o + i * 2, none⟩) hk).trans (h i hi).1, (World.cell?_of_block (a := ⟨b, o + i * 2 + 1, none⟩) hk).trans (h i hi).2⟩
 ·obtain ⟨k1, cs, k2⟩ := hB a n c e hne
  exact ⟨k1, cs, k2.keep (hO.block a.block k2.lt fun k => by have := hS _ k; omega)⟩
theorem PBuf.nil (B : Nat) (w : World) : PBuf B w (.slice none 0 0) [] := World.ownsRow_nil w B _ 2
theorem PBuf.form {B : Nat} {w : World} {v : Value} {ps : Ps} (h : PBuf B w v ps) : ∃ po c, v = .slice po ps.length c ∧ ps.length ≤ c := by
 rcases h.2 with ⟨rfl, h0⟩ | ⟨g, cap, cur, rfl, _, _, h1, _⟩
 ·exact ⟨none, 0, by rw [h0], by omega⟩
 ·exact ⟨_, cap, rfl, h1⟩
theorem PBuf.pl {B : Nat} {w : World} {po : Option Addr} {n c : Nat} {ps : Ps} (h : PBuf B w (.slice po n c) ps) (hn : ps.length ≤ 100000) (c' : Nat) (hc : ps.length ≤ c') (hz : c' = ps.length ∨ c' = c) : n = ps.length ∧ PLF B w (.slice po ps.length c') ps := by
 rcases h.2 with ⟨e, h0⟩ | ⟨g, cap, cur, e, hB, hg, h1, _, h3, h4⟩
 ·simp at e
  exact ⟨by omega, ⟨po, c', rfl, hc, hn, Or.inl (List.eq_nil_of_length_eq_zero h0)⟩, fun a n c _ h => (h (List.eq_nil_of_length_eq_zero h0)).elim, fun n c2 e2 => by cases e2; omega⟩
 ·cases e
  refine ⟨rfl, ⟨_, c', rfl, hc, hn, Or.inr ⟨g, 0, rfl, fun i hi => ?_⟩⟩, fun a n c h _ => by cases h; exact ⟨hB, _, hg⟩, fun n c e => by cases e⟩
  have hc2 : CAt w g cur 69 := hg
  obtain ⟨a1, a2⟩ := flatP_get ps i hi
  rw [← h4] at a1 a2
  rw [Nat.zero_add, hc2.cell, hc2.cell]
  constructor
  ·rw [List.getElem?_take, if_pos (by omega)] at a1; simpa using a1
  ·rw [List.getElem?_take, if_pos (by omega)] at a2; simpa using a2
/-- How many parts there are, and these. -/
def rdP (s : Option (List Nat)) : Option (Ps × List Nat) := s.bind fun L => (rdU L).bind fun q => if 32 < q.1 then none else rdPs q.1 q.2
theorem PBuf.keep {B : Nat} {w w' : World} {v : Value} {ps : Ps} (h : PBuf B w v ps) (hk : ∀ b, v.ownBlock = some b → w'.heap[b]? = w.heap[b]?) : PBuf B w' v ps := ownsRow_keep h hk
end Go.Proofs.YtopibkoklagceaaGreat

/- Contract of parts of the reader of package record: the loop. -/
namespace Go.Proofs.YtopibkoklagceaaGreat
open Go Go.RowKit

/-- So many parts have been read; what is left of them. -/
def PAcc (n : Nat) (c : List Nat) (k : Nat) (qs : Ps) (st : Option (List Nat)) : Prop := qs.length = k ∧ match st with
 | none => rdPs n c = none
 | some d => rdPs n c = (rdPs (n - k) d).map fun q => (qs ++ q.1, q.2)
theorem PAcc.start (n : Nat) (c : List Nat) : PAcc n c 0 [] (some c) := ⟨rfl, by simp⟩
end Go.Proofs.YtopibkoklagceaaGreat

/- A record in memory, field by field written. -/
namespace Go.Proofs.YtopibkoklagceaaGreat
open Go Go.RowKit

theorem Rv.toL (r : Rv) : r.cs.toList = [.string r.id, i64 r.time, .bool r.mark, i64 r.size, .string r.etag, i64 r.k, i64 r.m, .string r.data] ++ (r.sum.map u8 ++ [r.pv, .string r.up]) := by simp [Rv.cs, sumC]
section
variable {w : World} {g : Nat} {r : Rv} (h : RBox w g r) (ho : r.ok)
include h ho
theorem RBox.set40 (v : Value) : RBox (w.setCell ⟨g, 40, none⟩ v) g { r with pv := v } := RBox.mk' ⟨ho.sl, ho.s8, ho.i, ho.e, ho.d, ho.u⟩ (by
 have e : r.cs.setIfInBounds 40 v = ({ r with pv := v } : Rv).cs := by
  apply Array.toList_inj.1
  rw [Array.toList_setIfInBounds, Rv.toL, Rv.toL, List.set_append_right _ _ (by simp), List.set_append_right _ _ (by simp [ho.sl])]
  simp [ho.sl]
 rw [← e]; exact h.at_.set 40 _)
end
/-- Cells set one behind the other. -/
def setAll (cs : List Value) (o : Nat) : List Value → List Value
 | [] => cs
 | v :: r => setAll (cs.set o v) (o + 1) r
theorem CAt.setCells {b : Nat} {t : TypeId} : ∀ (vs : List Value) (o : Nat) (cs : Array Value) (w : World), CAt w b cs t → CAt (w.setCells b o vs) b (setAll cs.toList o vs).toArray t
 | [], o, cs, w, h => by simpa [World.setCells, setAll] using h
 | v :: r, o, cs, w, h => by
  rw [World.setCells, setAll]
  have := CAt.setCells r (o + 1) _ _ (h.set o v)
  rw [Array.toList_setIfInBounds] at this
  exact this
theorem setAll_app (pre : List Value) : ∀ (vs mid suf : List Value), vs.length = mid.length → setAll (pre ++ (mid ++ suf)) pre.length vs = pre ++ (vs ++ suf)
 | [], mid, suf, h => by
  have : mid = [] := List.eq_nil_of_length_eq_zero (by simpa using h.symm)
  subst this; rfl
 | v :: r, [], suf, h => by simp at h
 | v :: r, m :: mid, suf, h => by
  rw [setAll]
  have e : (pre ++ (m :: mid ++ suf)).set pre.length v = (pre ++ [v]) ++ (mid ++ suf) := by
   rw [List.set_append_right _ _ (Nat.le_refl _)]; simp
  rw [e]
  have := setAll_app (pre ++ [v]) r mid suf (by simpa using h)
  rw [List.length_append] at this
  rw [show pre.length + 1 = pre.length + [v].length from rfl, this]
  simp
theorem RBox.setSum {w : World} {g : Nat} {r : Rv} (h : RBox w g r) (ho : r.ok) (x : List Nat) (hx : x.length = 32) (h8 : ∀ z ∈ x, z < 256) : RBox (w.setCells g 8 (x.map u8)) g { r with sum := x } := RBox.mk' ⟨hx, h8, ho.i, ho.e, ho.d, ho.u⟩ (by
 have h2 := CAt.setCells (x.map u8) 8 _ _ h.at_
 have e : (setAll r.cs.toList 8 (x.map u8)).toArray = ({ r with sum := x } : Rv).cs := by
  apply Array.toList_inj.1
  rw [Rv.toL, Rv.toL]
  have := setAll_app [.string r.id, i64 r.time, .bool r.mark, i64 r.size, .string r.etag, i64 r.k, i64 r.m, .string r.data] (x.map u8) (r.sum.map u8) [r.pv, .string r.up] (by simp [hx, ho.sl])
  simpa using this
 rw [e] at h2
 exact h2)
theorem only_setCells {S : Nat → Prop} (w : World) (b o : Nat) (vs : List Value) (h : S b) : Only S w (w.setCells b o vs) := by
 induction vs generalizing o w with
 | nil => exact Only.refl _ _
 | cons v r ih => rw [World.setCells]; exact (Only.set w ⟨b, o, none⟩ v h).trans (ih _ _)
end Go.Proofs.YtopibkoklagceaaGreat

/- What is appended turns nothing else; numbers and texts laid behind bytes once more, by this. -/
namespace Go.Proofs.YtopibkoklagceaaGreat
open Go Go.RowKit

/-- From w0 on the bytes v0 have been appended to: they are L at v now; nothing else that was there has turned. -/
structure AppZ (B : Nat) (v0 : Value) (w0 : World) (L : List Nat) (v : Value) (w : World) : Prop where
 buf : Buf B w v L
 only : Only (fun b => v0.ownBlock = some b) w0 w
 own : ∀ b, v.ownBlock = some b → v0.ownBlock = some b ∨ w0.heap.size ≤ b
theorem AppZ.refl {B : Nat} {v : Value} {w : World} {L : List Nat} (h : Buf B w v L) : AppZ B v w L v w := ⟨h, Only.refl _ _, fun _ h => Or.inl h⟩
theorem AppZ.trans {B : Nat} {v0 v1 v2 : Value} {w0 w1 w2 : World} {L M : List Nat} (h : AppZ B v0 w0 L v1 w1) (k : AppZ B v1 w1 M v2 w2) : AppZ B v0 w0 M v2 w2 :=
 ⟨k.buf, h.only.then k.only fun i hi e => (h.own i e).elim id fun q => by omega, fun b hb => (k.own b hb).elim (h.own b) fun q => Or.inr (Nat.le_trans h.only.size q)⟩
theorem AppZ.below {B : Nat} {v0 v : Value} {w0 w w' : World} {L : List Nat} (h : AppZ B v0 w0 L v w) (hb : Below w.heap.size w w') : AppZ B v0 w0 L v w' :=
 ⟨h.buf.below hb, h.only.trans (Only.of_below hb), h.own⟩
theorem AppZ.start {B : Nat} {v0 v : Value} {w0 w1 w : World} {L : List Nat} (hb : Below w0.heap.size w0 w1) (h : AppZ B v0 w1 L v w) : AppZ B v0 w0 L v w :=
 ⟨h.buf, (Only.of_below hb).trans h.only, fun b e => (h.own b e).imp id fun q => by have := hb.size; omega⟩
end Go.Proofs.YtopibkoklagceaaGreat

/- Contract of appendVersion of package record. -/
namespace Go.Proofs.YtopibkoklagceaaGreat
open Go Go.RowKit

theorem below_drewN (w : World) (n : Nat) : Below w.heap.size w (w.drewN n) := ⟨rfl, rfl, rfl, Nat.le_refl _, fun _ _ => rfl⟩
theorem below_drew (w : World) : Below w.heap.size w w.drew := (Below.refl _ _).drew
section
variable {B : Nat} {v0 v : Value} {w0 w : World} {L : List Nat}
end
theorem RBox.only {w w' : World} {g : Nat} {r : Rv} {S : Nat → Prop} (h : RBox w g r) (ho : r.ok) (hO : Only S w w') (hS : ¬ S g) : RBox w' g r := RBox.mk' ho (h.at_.keep (hO.block g h.at_.lt hS))
end Go.Proofs.YtopibkoklagceaaGreat

/- Contract of version of the reader of package record. -/
namespace Go.Proofs.YtopibkoklagceaaGreat
open Go Go.RowKit

theorem PLF.base {B B' : Nat} {w : World} {v : Value} {ps : Ps} (h : PLF B w v ps) (hB : B' ≤ B) : PLF B' w v ps := ⟨h.1, fun a n c e e' => ⟨Nat.le_trans hB (h.2.1 a n c e e').1, (h.2.1 a n c e e').2⟩, h.2.2⟩
theorem PLF.form {B : Nat} {w : World} {v : Value} {ps : Ps} (h : PLF B w v ps) : ∃ po n c, v = .slice po n c := by obtain ⟨⟨po, c, h, _⟩, _⟩ := h; exact ⟨_, _, _, h⟩
section


end

end Go.Proofs.YtopibkoklagceaaGreat

/- Contract of Bytes of package record. -/
namespace Go.Proofs.YtopibkoklagceaaGreat
open Go Go.RowKit

theorem run_loadR {w : World} {g : Nat} {r : Rv} (hr : r.ok) (h : RBox w g r) : (Instr.loadAt 40 (.pointer (some ⟨g, 0, none⟩))).run Tryz.prog w = .ok (.agg r.cs) w := by
 simp only [Instr.loadAt, Instr.sureAddr, Sem.run_bind, Sem.run_pure, Result.andThen_ok, run_loadVar_at w g 0 40 r.cs _ h.whole underRec rfl (by rw [hr.size]; exact sizeR)]
theorem exec_load {a : Act} {o : Oper} {ty : TypeId} {x : Operand} {p v : Value} {W : World} (ho : o.op = .load ty x) (hx : a.eval x = p) (h : (Instr.loadAt ty p).run Tryz.prog W = .ok v W) : (execOp a.eval o).run Tryz.prog W = .ok (.value v) W := by
 unfold execOp
 simp only [ho, hx, Sem.run_bind, h, Result.andThen_ok, Sem.run_pure]
end Go.Proofs.YtopibkoklagceaaGreat

/- Contract of record of the reader of package record. -/
namespace Go.Proofs.YtopibkoklagceaaGreat
open Go Go.RowKit

def zR : Rv := ⟨⟨#[]⟩, 0, false, 0, ⟨#[]⟩, 0, 0, ⟨#[]⟩, zeroD, .slice none 0 0, ⟨#[]⟩⟩
theorem zR_ok : zR.ok := ⟨rfl, by simp [zR, zeroD], by simp [zR, ByteArray.size], by simp [zR, ByteArray.size], by simp [zR, ByteArray.size], by simp [zR, ByteArray.size]⟩
theorem zeroR : (Tryz.prog.info? 40).map (·.zero) = some (some (.agg zR.cs)) := by kernel_rfl
theorem Rv.one {r : Rv} (h : r.pv.oneCell' = true) : r.cs.all (·.oneCell') = true := by
 rw [Array.all_eq_true_iff_forall_mem]
 intro v hv
 rw [← Array.mem_toList_iff, Rv.toL] at hv
 simp only [List.mem_append, List.mem_cons, List.not_mem_nil, or_false, List.mem_map] at hv
 rcases hv with (rfl | rfl | rfl | rfl | rfl | rfl | rfl | rfl) | ⟨_, _, rfl⟩ | rfl | rfl <;> first | rfl | exact h
theorem only_setRow {S : Nat → Prop} (w : World) (g : Nat) (cs : Array Value) (h : S g) : Only S w (w.setRow g cs) := ⟨rfl, rfl, rfl, by simp, fun k _ hk => setRow_other w g k cs fun e => hk (e ▸ h)⟩
theorem run_storeR {w : World} {g : Nat} {r0 r : Rv} (h0 : r0.ok) (hr : r.ok) (hpv : r.pv.oneCell' = true) (hb : RBox w g r0) : (Instr.storeAt 40 (.pointer (some ⟨g, 0, none⟩)) (.agg r.cs)).run Tryz.prog w = .ok () (w.setRow g r.cs) ∧ RBox (w.setRow g r.cs) g r := by
 have e := run_storeVar_row (P := Tryz.prog) w g 40 40 r0.cs r.cs hb.at_ (by rw [hr.size]; exact sizeR) (by rw [h0.size, hr.size]) (Rv.one hpv)
 refine ⟨?_, RBox.mk' hr (setRow_heap w g r0.cs r.cs _ _ hb.at_)⟩
 simp only [Instr.storeAt, Instr.sureAddr, Sem.run_bind, Sem.run_pure, Result.andThen_ok, e]
theorem wpList_allocR {ops : Array Oper} {rest : List Oper} {o : Oper} {a : Act} {w : World} {Q : Exit → Act → World → Prop} (hg : o.guard = none) (ho : o.op = .alloc 40)
  (h : ∀ w1 g, RBox w1 g zR → Below w.heap.size w w1 → w.heap.size = g → wpList Tryz.prog ops Q rest (a.put o.dst (ptr g)) w1) : wpList Tryz.prog ops Q (o :: rest) a w := by
 refine wpList_plain hg fun _ hK => ?_
 obtain ⟨i, hq, hz'⟩ := Option.map_eq_some_iff.1 zeroR
 unfold Oper.wp execOp
 simp only [ho, Instr.alloc, zeroValue, typeInfo, Sem.run_bind, newVar, newRow]
 simp [hq, hz', Value.cells]
 exact hK _ _ (h _ _ (RBox.mk' zR_ok (CAt.made _ _ _)) (below_al _ _) rfl)
theorem wpList_storeR {ops : Array Oper} {rest : List Oper} {o : Oper} {a : Act} {w : World} {Q : Exit → Act → World → Prop} (hg : o.guard = none) (hdst : o.dst = none) (x y : Operand) (ho : o.op = .store 40 x y) (g : Nat) (hx : a.eval x = ptr g) {r0 r : Rv} (hy : a.eval y = .agg r.cs) (h0 : r0.ok) (hr : r.ok) (hpv : r.pv.oneCell' = true) (hb : RBox w g r0)
  (h : ∀ w1, RBox w1 g r → Only (fun b => b = g) w w1 → wpList Tryz.prog ops Q rest a w1) : wpList Tryz.prog ops Q (o :: rest) a w := by
 refine wpList_plain hg fun _ hK => ?_
 obtain ⟨e1, e2⟩ := run_storeR h0 hr hpv hb
 unfold Oper.wp execOp
 simp only [ho, hx, hy, ptr, Sem.run_bind, e1, Result.andThen_ok, Sem.run_pure]
 refine hK (a.put o.dst undef) _ ?_
 rw [hdst]
 exact h _ e2 (only_setRow _ _ _ rfl)
section


end
theorem ret_rowR {fn : Func} {q : Tmp} (h : fn.results = #[.cell q 40]) {R : Ending → World → Prop} {a : Act} {w : World} (g : Nat) {r : Rv}
  (hd0 : a.defers = []) (hp : a.tmps.getD q undef = .pointer (some ⟨g, 0, none⟩)) (hb : RBox w g r) (hr : r.ok) (hR : R (.returned (.agg r.cs)) w) : bodyPost Tryz.prog fn R .ret a w :=
 ⟨hd0, _, results_cell_row h _ _ g 40 r.cs (0, 0) _ hp hb.at_ underRec rfl (by rw [hr.size]; exact sizeR), hR⟩
end Go.Proofs.YtopibkoklagceaaGreat

/- Contract of told of package record, for records. -/
namespace Go.Proofs.YtopibkoklagceaaGreat
open Go Go.RowKit

theorem step_storeR {w : World} {ops : Array Oper} {o : Oper} {a : Act} {K : Act → World → Prop} {Q : Exit → Act → World → Prop} {E : Prop} (hgd : o.guard = none) (hdst : o.dst = none) (x y : Operand) (ho : o.op = .store 40 x y) (g : Nat) (hx : a.eval x = ptr g) {r0 r : Rv} (hy : a.eval y = .agg r.cs) (h0 : r0.ok) (hr : r.ok) (hpv : r.pv.oneCell' = true) (hb : RBox w g r0)
  (h : ∀ w1, RBox w1 g r → Only (fun b => b = g) w w1 → K a w1) : if Region.wanted o (yielded ops a.tmps) = true then Oper.wp Tryz.prog o a w K Q else E := by
 have hw : Region.wanted o (yielded ops a.tmps) = true := by simp [Region.wanted, hgd]
 rw [if_pos hw]
 obtain ⟨e1, e2⟩ := run_storeR h0 hr hpv hb
 unfold Oper.wp execOp
 simp only [ho, hx, hy, ptr, Sem.run_bind, e1, Result.andThen_ok, Sem.run_pure]
 show K (a.put o.dst undef) _
 rw [hdst]
 exact h _ e2 (only_setRow _ _ _ rfl)
end Go.Proofs.YtopibkoklagceaaGreat

/- Bytes that came in. -/
namespace Go.Proofs.YtopibkoklagceaaGreat
open Go Go.RowKit

theorem plain_at (a : Addr) (w : World) (h : w.cell? a ≠ none) : ∃ b o, a = ⟨b, o, none⟩ := by
 obtain ⟨b, o, sp⟩ := a
 cases sp with
 | none => exact ⟨b, o, rfl⟩
 | some s =>
  exfalso; apply h
  unfold World.cell?
  split <;> simp
theorem bounds8 {k : Int} (h : (Lit.int .u8 k).wf = true) : 0 ≤ k ∧ k ≤ 255 := by
 simp [Lit.wf, IntKind.min, IntKind.max, IntKind.signed, IntKind.bits] at h; omega
/-- What is told of bytes that came in. -/
def IsB (w : World) (a : Option Addr) (len cap : Nat) : Prop := ∃ bs : List Nat, bs.length = len ∧ len ≤ cap ∧ BL w a bs ∧ (∀ x ∈ bs, x < 256) ∧ (a = none → cap = 0)
theorem bytes_open {H : Type} {enc : TypeId × Value → H} {w : World} {held : Bool} {fuel : Nat} {a : Option Addr} {len cap : Nat} {x : DataW H × List MemPlace}
  (h : DataW.trod enc Tryz.prog w 0 (fun _ => true) held fuel 22 (Value.slice a len cap).cells.toList = some x) : IsB w a len cap := by
 rcases Go.ChangeShapes.open_ints Tryz.underlying22 Tryz.underlying5 (by kernel_rfl) h with ⟨hcs, _⟩ | ⟨ad, l, c, zs, hcs, _, hl, hm, hz, _, hcell, hwz⟩
 ·simp [Value.cells] at hcs
  obtain ⟨rfl, rfl, rfl⟩ := hcs
  exact ⟨[], rfl, Nat.le_refl _, Or.inl rfl, by simp, fun _ => rfl⟩
 ·simp [Value.cells] at hcs
  obtain ⟨rfl, rfl, rfl⟩ := hcs
  have hz' : zs.length = cap := by simpa using hz
  have hbd : ∀ i, i < len → 0 ≤ zs.getD i 0 ∧ zs.getD i 0 ≤ 255 := fun i hi => by
   have hlt : i < zs.length := by omega
   have e : zs.getD i 0 = zs[i] := by simp [List.getD, hlt]
   rw [e]; exact bounds8 (hwz _ (List.getElem_mem hlt))
  refine ⟨(List.range len).map fun i => (zs.getD i 0).toNat, by simp, hl, ?_, fun y hy => ?_, fun e => by cases e⟩
  ·by_cases h0 : len = 0
   ·subst h0; exact Or.inl rfl
   ·obtain ⟨b, o, rfl⟩ := plain_at ad w (by have := hcell 0 (by omega); rw [add_zero'] at this; rw [this]; simp)
    refine Or.inr ⟨b, o, rfl, fun i hi => ?_⟩
    have hi' : i < len := by simpa using hi
    have hc := hcell i (by omega)
    rw [add_none] at hc
    rw [hc]
    have e1 : ((List.range len).map fun i => (zs.getD i 0).toNat).getD i 0 = (zs.getD i 0).toNat := by simp [List.getD, hi']
    rw [e1]; unfold u8; rw [Int.toNat_of_nonneg (hbd i hi').1]
  ·obtain ⟨i, hi, rfl⟩ := List.mem_map.1 hy
   have := hbd i (by simpa using hi)
   omega
end Go.Proofs.YtopibkoklagceaaGreat

/- Contract of awake, the examples. -/
namespace Go.Proofs.YtopibkoklagceaaGreat
open Go Go.RowKit

abbrev c7 : Array Value := #[.int .u8 4, .int .u8 110, .int .u8 117, .int .u8 108, .int .u8 108, .int .u8 5, .int .u8 1]
end Go.Proofs.YtopibkoklagceaaGreat

/- Contract of large. -/
namespace Go.Proofs.YtopibkoklagceaaGreat
open Go Go.RowKit

theorem Rv.pv_at {r : Rv} (h : r.sum.length = 32) : r.cs[40]? = some r.pv := by
 unfold Rv.cs
 rw [Array.getElem?_append_right (by simp), Array.getElem?_append_right (by rw [sumC_size, h]; simp), sumC_size, h]
 rfl
theorem Rv.up_at {r : Rv} (h : r.sum.length = 32) : r.cs[41]? = some (.string r.up) := by
 unfold Rv.cs
 rw [Array.getElem?_append_right (by simp), Array.getElem?_append_right (by rw [sumC_size, h]; simp), sumC_size, h]
 rfl
end Go.Proofs.YtopibkoklagceaaGreat

/- RecordBack: the walks. -/
namespace Go.Proofs.YtopibkoklagceaaGreat
open Go Go.RowKit

theorem CAt.whole {w : World} {g : Nat} {cs : Array Value} {t : TypeId} (h : CAt w g cs t) : ∀ j v, cs[j]? = some v → w.cell? ⟨g, 0 + j, none⟩ = some v := fun j v hv => by rw [Nat.zero_add, h.cell, hv]
theorem Rv.size_of {r : Rv} (h : r.sum.length = 32) : r.cs.size = 42 := by simp [Rv.cs, sumC_size, h]
/-- Two records in boxes. -/
structure Two (w W : World) (ga gb : Nat) (ra rb : Rv) : Prop where
 below : Below w.heap.size w W
 ca : CAt W ga ra.cs 40
 cb : CAt W gb rb.cs 40
theorem Two.on {w W W' : World} {ga gb : Nat} {ra rb : Rv} (h : Two w W ga gb ra rb) (hb : Below W.heap.size W W') : Two w W' ga gb ra rb := ⟨below_on h.below hb, h.ca.below hb, h.cb.below hb⟩
end Go.Proofs.YtopibkoklagceaaGreat
