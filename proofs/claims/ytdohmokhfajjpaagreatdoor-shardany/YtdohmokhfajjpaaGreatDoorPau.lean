/- Texts laid into one, cut to what is needed: the remark ahead of each part says what is proved there. -/
import Derived.Test.YtdohmokhfajjpaaGreatDoorPar
import Derived.Test.YtdohmokhfajjpaaGreatDoorPas
import Derived.Test.YtdohmokhfajjpaaGreatDoorPat
/- Contract of Same of package record, some cases. (Written by tools/gen_Vn.py.) -/
namespace Go.Proofs.YtdohmokhfajjpaaGreatDoor
open Go Go.RowKit

set_option maxRecDepth 100000 in
set_option maxHeartbeats 1000000 in
theorem same_9 (r s : Rv) (hr : r.ok) (hs : s.ok) (ps qs : Ps) (w : World) (hp : PL w r.pv ps) (hq : PL w s.pv qs) (h0 : (r.id.toList == s.id.toList) = true) (h1 : (r.time == s.time) = true) (h2 : (r.mark == s.mark) = true) (h3 : (r.size == s.size) = true) (h4 : (r.etag.toList == s.etag.toList) = true) (h5 : (r.k == s.k) = true) (h6 : (r.m == s.m) = true) (h7 : (r.data.toList == s.data.toList) = true) (h8 : decide (r.sum = s.sum) = true) (h9 : decide (ps = qs) = false) : Calls Tryz.prog 51 #[.agg r.cs, .agg s.cs] w fun e w' => e = .returned (.bool (decide (r.rc ps = s.rc qs))) ∧ Below w.heap.size w w' := by
 have HD : Hid (decide (r.rc ps = s.rc qs) = false) := rc_ne (by rintro ⟨k0, k1, k2, k3, k4, k5, k6, k7, k8, k9, k10⟩; rw [k9] at h9; cases h9)
 have HR := hid hr
 have HS := hid hs
 have HP := hid hp
 have HQ := hid hq
 have hsum := eqSum hr.sl hs.sl
 rw [h8] at hsum
 clear h8
 have H9 := hid h9
 clear h9
 clear hr hs hp hq
 generalize decide (r.rc ps = s.rc qs) = dd at *
 go_enter Tryz.func51, Tryz.ntmps51
 go_wp2_with (first
  | ((with_reducible refine wpList_boxR rfl _ rfl s.cs ?_ ?_); exact rfl; intro w2 g2 hc2 hb2 hg2; have HA := hid (HA0.out.below HR.out hb2); have HC := hid (RBox.mk' HS.out hc2); have a0 := HA.out.c0; have b0 := HC.out.c0; have a1 := HA.out.c1; have b1 := HC.out.c1; have a2 := HA.out.c2; have b2 := HC.out.c2; have a3 := HA.out.c3; have b3 := HC.out.c3; have a4 := HA.out.c4; have b4 := HC.out.c4; have a5 := HA.out.c5; have b5 := HC.out.c5; have a6 := HA.out.c6; have b6 := HC.out.c6; have a7 := HA.out.c7; have b7 := HC.out.c7; have a40 := HA.out.c40; have b40 := HC.out.c40; have HB := hid (below_on HB0.out hb2); have HP2 := hid ((HP.out.below HB0.out).below hb2); have HQ2 := hid ((HQ.out.below HB0.out).below hb2); clear hc2 hb2 HA0)
  | ((with_reducible refine wpList_boxR rfl _ rfl r.cs ?_ ?_); exact rfl; intro w1 g1 hc1 hb1 hg1; have HA0 := hid (RBox.mk' HR.out hc1); have HB0 := hid hb1; clear hc1 hb1)
  | ((with_reducible refine wpList_load_at 41 _ rfl ?_ g1 8 ?_ (sumC r.sum) (.array 32 5) ?_ underD rfl ?_ ?_); exact rfl; exact rfl; exact HA.out.cs; (rw [sumC_size, HR.out.sl]; exact sizeD))
  | ((with_reducible refine wpList_load_at 41 _ rfl ?_ g2 8 ?_ (sumC s.sum) (.array 32 5) ?_ underD rfl ?_ ?_); exact rfl; exact rfl; exact HC.out.cs; (rw [sumC_size, HS.out.sl]; exact sizeD))
  | (go_at_call 73; refine (equal_any _ _ ps qs _ HP2.out HQ2.out).mono ?_; rintro e w3 ⟨rfl, hb3⟩; rw [H9.out]; replace HA := hid (HA.out.below HR.out hb3); replace HC := hid (HC.out.below HS.out hb3); have a41' := HA.out.c41; have b41' := HC.out.c41; replace HB := hid (below_on HB.out hb3); clear hb3))
 go_ret
 exact ⟨by rw [HD.out]; rfl, HB.out⟩
set_option maxRecDepth 100000 in
set_option maxHeartbeats 1000000 in
theorem same_10 (r s : Rv) (hr : r.ok) (hs : s.ok) (ps qs : Ps) (w : World) (hp : PL w r.pv ps) (hq : PL w s.pv qs) (h0 : (r.id.toList == s.id.toList) = true) (h1 : (r.time == s.time) = true) (h2 : (r.mark == s.mark) = true) (h3 : (r.size == s.size) = true) (h4 : (r.etag.toList == s.etag.toList) = true) (h5 : (r.k == s.k) = true) (h6 : (r.m == s.m) = true) (h7 : (r.data.toList == s.data.toList) = true) (h8 : decide (r.sum = s.sum) = true) (h9 : decide (ps = qs) = true) (h10 : (r.up.toList == s.up.toList) = false) : Calls Tryz.prog 51 #[.agg r.cs, .agg s.cs] w fun e w' => e = .returned (.bool (decide (r.rc ps = s.rc qs))) ∧ Below w.heap.size w w' := by
 have HD : Hid (decide (r.rc ps = s.rc qs) = false) := rc_ne (by rintro ⟨k0, k1, k2, k3, k4, k5, k6, k7, k8, k9, k10⟩; rw [k10] at h10; cases h10)
 have HR := hid hr
 have HS := hid hs
 have HP := hid hp
 have HQ := hid hq
 have hsum := eqSum hr.sl hs.sl
 rw [h8] at hsum
 clear h8
 have H9 := hid h9
 clear h9
 clear hr hs hp hq
 generalize decide (r.rc ps = s.rc qs) = dd at *
 go_enter Tryz.func51, Tryz.ntmps51
 go_wp2_with (first
  | ((with_reducible refine wpList_boxR rfl _ rfl s.cs ?_ ?_); exact rfl; intro w2 g2 hc2 hb2 hg2; have HA := hid (HA0.out.below HR.out hb2); have HC := hid (RBox.mk' HS.out hc2); have a0 := HA.out.c0; have b0 := HC.out.c0; have a1 := HA.out.c1; have b1 := HC.out.c1; have a2 := HA.out.c2; have b2 := HC.out.c2; have a3 := HA.out.c3; have b3 := HC.out.c3; have a4 := HA.out.c4; have b4 := HC.out.c4; have a5 := HA.out.c5; have b5 := HC.out.c5; have a6 := HA.out.c6; have b6 := HC.out.c6; have a7 := HA.out.c7; have b7 := HC.out.c7; have a40 := HA.out.c40; have b40 := HC.out.c40; have a41 := HA.out.c41; have b41 := HC.out.c41; have HB := hid (below_on HB0.out hb2); have HP2 := hid ((HP.out.below HB0.out).below hb2); have HQ2 := hid ((HQ.out.below HB0.out).below hb2); clear hc2 hb2 HA0)
  | ((with_reducible refine wpList_boxR rfl _ rfl r.cs ?_ ?_); exact rfl; intro w1 g1 hc1 hb1 hg1; have HA0 := hid (RBox.mk' HR.out hc1); have HB0 := hid hb1; clear hc1 hb1)
  | ((with_reducible refine wpList_load_at 41 _ rfl ?_ g1 8 ?_ (sumC r.sum) (.array 32 5) ?_ underD rfl ?_ ?_); exact rfl; exact rfl; exact HA.out.cs; (rw [sumC_size, HR.out.sl]; exact sizeD))
  | ((with_reducible refine wpList_load_at 41 _ rfl ?_ g2 8 ?_ (sumC s.sum) (.array 32 5) ?_ underD rfl ?_ ?_); exact rfl; exact rfl; exact HC.out.cs; (rw [sumC_size, HS.out.sl]; exact sizeD))
  | (go_at_call 73; refine (equal_any _ _ ps qs _ HP2.out HQ2.out).mono ?_; rintro e w3 ⟨rfl, hb3⟩; rw [H9.out]; replace HA := hid (HA.out.below HR.out hb3); replace HC := hid (HC.out.below HS.out hb3); have a41' := HA.out.c41; have b41' := HC.out.c41; replace HB := hid (below_on HB.out hb3); clear hb3))
 go_ret
 exact ⟨by rw [HD.out]; rfl, HB.out⟩
end Go.Proofs.YtdohmokhfajjpaaGreatDoor

/- Contract of Same of package record, some cases. (Written by tools/gen_Vn.py.) -/
namespace Go.Proofs.YtdohmokhfajjpaaGreatDoor
open Go Go.RowKit

set_option maxRecDepth 100000 in
set_option maxHeartbeats 1000000 in
theorem same_11 (r s : Rv) (hr : r.ok) (hs : s.ok) (ps qs : Ps) (w : World) (hp : PL w r.pv ps) (hq : PL w s.pv qs) (h0 : (r.id.toList == s.id.toList) = true) (h1 : (r.time == s.time) = true) (h2 : (r.mark == s.mark) = true) (h3 : (r.size == s.size) = true) (h4 : (r.etag.toList == s.etag.toList) = true) (h5 : (r.k == s.k) = true) (h6 : (r.m == s.m) = true) (h7 : (r.data.toList == s.data.toList) = true) (h8 : decide (r.sum = s.sum) = true) (h9 : decide (ps = qs) = true) (h10 : (r.up.toList == s.up.toList) = true) : Calls Tryz.prog 51 #[.agg r.cs, .agg s.cs] w fun e w' => e = .returned (.bool (decide (r.rc ps = s.rc qs))) ∧ Below w.heap.size w w' := by
 have HD : Hid (decide (r.rc ps = s.rc qs) = true) := decide_eq_true ((rc_eq r s ps qs).2 ⟨h0, h1, h2, h3, h4, h5, h6, h7, h8, h9, h10⟩)
 have HR := hid hr
 have HS := hid hs
 have HP := hid hp
 have HQ := hid hq
 have hsum := eqSum hr.sl hs.sl
 rw [h8] at hsum
 clear h8
 have H9 := hid h9
 clear h9
 clear hr hs hp hq
 generalize decide (r.rc ps = s.rc qs) = dd at *
 go_enter Tryz.func51, Tryz.ntmps51
 go_wp2_with (first
  | ((with_reducible refine wpList_boxR rfl _ rfl s.cs ?_ ?_); exact rfl; intro w2 g2 hc2 hb2 hg2; have HA := hid (HA0.out.below HR.out hb2); have HC := hid (RBox.mk' HS.out hc2); have a0 := HA.out.c0; have b0 := HC.out.c0; have a1 := HA.out.c1; have b1 := HC.out.c1; have a2 := HA.out.c2; have b2 := HC.out.c2; have a3 := HA.out.c3; have b3 := HC.out.c3; have a4 := HA.out.c4; have b4 := HC.out.c4; have a5 := HA.out.c5; have b5 := HC.out.c5; have a6 := HA.out.c6; have b6 := HC.out.c6; have a7 := HA.out.c7; have b7 := HC.out.c7; have a40 := HA.out.c40; have b40 := HC.out.c40; have a41 := HA.out.c41; have b41 := HC.out.c41; have HB := hid (below_on HB0.out hb2); have HP2 := hid ((HP.out.below HB0.out).below hb2); have HQ2 := hid ((HQ.out.below HB0.out).below hb2); clear hc2 hb2 HA0)
  | ((with_reducible refine wpList_boxR rfl _ rfl r.cs ?_ ?_); exact rfl; intro w1 g1 hc1 hb1 hg1; have HA0 := hid (RBox.mk' HR.out hc1); have HB0 := hid hb1; clear hc1 hb1)
  | ((with_reducible refine wpList_load_at 41 _ rfl ?_ g1 8 ?_ (sumC r.sum) (.array 32 5) ?_ underD rfl ?_ ?_); exact rfl; exact rfl; exact HA.out.cs; (rw [sumC_size, HR.out.sl]; exact sizeD))
  | ((with_reducible refine wpList_load_at 41 _ rfl ?_ g2 8 ?_ (sumC s.sum) (.array 32 5) ?_ underD rfl ?_ ?_); exact rfl; exact rfl; exact HC.out.cs; (rw [sumC_size, HS.out.sl]; exact sizeD))
  | (go_at_call 73; refine (equal_any _ _ ps qs _ HP2.out HQ2.out).mono ?_; rintro e w3 ⟨rfl, hb3⟩; rw [H9.out]; replace HA := hid (HA.out.below HR.out hb3); replace HC := hid (HC.out.below HS.out hb3); have a41' := HA.out.c41; have b41' := HC.out.c41; replace HB := hid (below_on HB.out hb3); clear hb3))
 go_ret
 exact ⟨by rw [HD.out]; rfl, HB.out⟩
end Go.Proofs.YtdohmokhfajjpaaGreatDoor

/- Contract of Same of package record, some cases. (Written by tools/gen_Vn.py.) -/
namespace Go.Proofs.YtdohmokhfajjpaaGreatDoor
open Go Go.RowKit

theorem same_any (r s : Rv) (hr : r.ok) (hs : s.ok) (ps qs : Ps) (w : World) (hp : PL w r.pv ps) (hq : PL w s.pv qs) : Calls Tryz.prog 51 #[.agg r.cs, .agg s.cs] w fun e w' => e = .returned (.bool (decide (r.rc ps = s.rc qs))) ∧ Below w.heap.size w w' := by
 cases h0 : (r.id.toList == s.id.toList)
 ·exact same_0 r s hr hs ps qs w hp hq h0
 cases h1 : (r.time == s.time)
 ·exact same_1 r s hr hs ps qs w hp hq h0 h1
 cases h2 : (r.mark == s.mark)
 ·exact same_2 r s hr hs ps qs w hp hq h0 h1 h2
 cases h3 : (r.size == s.size)
 ·exact same_3 r s hr hs ps qs w hp hq h0 h1 h2 h3
 cases h4 : (r.etag.toList == s.etag.toList)
 ·exact same_4 r s hr hs ps qs w hp hq h0 h1 h2 h3 h4
 cases h5 : (r.k == s.k)
 ·exact same_5 r s hr hs ps qs w hp hq h0 h1 h2 h3 h4 h5
 cases h6 : (r.m == s.m)
 ·exact same_6 r s hr hs ps qs w hp hq h0 h1 h2 h3 h4 h5 h6
 cases h7 : (r.data.toList == s.data.toList)
 ·exact same_7 r s hr hs ps qs w hp hq h0 h1 h2 h3 h4 h5 h6 h7
 cases h8 : decide (r.sum = s.sum)
 ·exact same_8 r s hr hs ps qs w hp hq h0 h1 h2 h3 h4 h5 h6 h7 h8
 cases h9 : decide (ps = qs)
 ·exact same_9 r s hr hs ps qs w hp hq h0 h1 h2 h3 h4 h5 h6 h7 h8 h9
 cases h10 : (r.up.toList == s.up.toList)
 ·exact same_10 r s hr hs ps qs w hp hq h0 h1 h2 h3 h4 h5 h6 h7 h8 h9 h10
 exact same_11 r s hr hs ps qs w hp hq h0 h1 h2 h3 h4 h5 h6 h7 h8 h9 h10
end Go.Proofs.YtdohmokhfajjpaaGreatDoor

/- Contract of Check of package record. -/
namespace Go.Proofs.YtdohmokhfajjpaaGreatDoor
open Go Go.RowKit

theorem isEmpty_lst (u : ByteArray) : u.toList.isEmpty = (lst u).isEmpty := by
 unfold lst; rw [ByteArray.toList_eq]; cases u.data.toList <;> simp
theorem km_eq (k m : Int) : (inR k 1 16 && inR m 1 (16 - k)) = (inR k 1 15 && inR m 1 15 && decide (k + m ≤ 16)) := by
 unfold inR; rw [Bool.eq_iff_iff]; simp; omega
theorem okRc_vers (r : Rv) (ps : Ps) (hm : r.mark = false) (hl : r.sum.length = 32) : okRc (r.rc ps) = (okId (lst r.id) && inR r.time 0 1048576 && versOk r ps) := by
 unfold okRc Rv.rc versOk upOk
 simp only [hm, Bool.false_eq_true, if_false, hl, decide_true, Bool.and_true, isEmpty_lst]
 congr 1
 have := km_eq r.k r.m
 generalize inR r.size 0 65536 = a at *
 generalize okTag (lst r.etag) = b at *
 generalize okData (lst r.data) = c at *
 generalize okParts ps r.size = d at *
 generalize ((lst r.up).isEmpty || okId (lst r.up)) = e at *
 cases a <;> cases b <;> simp_all [← Bool.and_assoc]
def mkR (id : ByteArray) (time : Int) : Rv := ⟨id, time, true, 0, ⟨#[]⟩, 0, 0, ⟨#[]⟩, zeroD, .slice none 0 0, ⟨#[]⟩⟩
theorem mkR_ok {id : ByteArray} {time : Int} (h : id.size ≤ 100000) : (mkR id time).ok := ⟨rfl, by simp [mkR, zeroD], h, by simp [mkR, ByteArray.size], by simp [mkR, ByteArray.size], by simp [mkR, ByteArray.size]⟩
theorem okRc_mark (r : Rv) (ps : Ps) (hm : r.mark = true) : okRc (r.rc ps) = (okId (lst r.id) && inR r.time 0 1048576 && decide (r.rc ps = (mkR r.id r.time).rc [])) := by
 unfold okRc Rv.rc mkR
 simp only [hm, if_true]
 congr 1
 rw [Bool.eq_iff_iff]
 simp [lst_nil]
 constructor
 ·rintro ⟨⟨⟨⟨⟨⟨⟨h1, h2⟩, h3⟩, h4⟩, h5⟩, h6⟩, h7⟩, h8⟩; exact ⟨h1, h2, h3, h4, h5, h6, h7, h8⟩
 ·rintro ⟨h1, h2, h3, h4, h5, h6, h7, h8⟩; exact ⟨⟨⟨⟨⟨⟨⟨h1, h2⟩, h3⟩, h4⟩, h5⟩, h6⟩, h7⟩, h8⟩
theorem built_mark (id : ByteArray) (time : Int) : Tryz.prog.built 44 [(0, .string id), (1, i64 time), (2, .bool true)] = some (mkR id time).cs := by kernel_rfl
theorem PL.nil (w : World) : PL w (.slice none 0 0) [] := ⟨none, 0, rfl, Nat.le_refl _, by simp, Or.inl rfl⟩
theorem underRec : Tryz.prog.underlying 44 = some (.struct (Tryz.prog.fieldsOf 44)) := by kernel_rfl
theorem RBox.whole {w : World} {g : Nat} {r : Rv} (h : RBox w g r) : ∀ j v, r.cs[j]? = some v → w.cell? ⟨g, 0 + j, none⟩ = some v := fun j v hv => by rw [Nat.zero_add, h.at_.cell, hv]
theorem wpList_build_want {ops : Array Oper} {rest : List Oper} {o : Oper} {a : Act} {w : World} {Q : Exit → Act → World → Prop} (t : TypeId) (parts : Array (Nat × Operand)) (ho : o.op = .build t parts) (hw : Region.wanted o (yielded ops a.tmps) = true) (cs : Array Value)
  (hf : Tryz.prog.built t (parts.toList.map fun (i, x) => (i, a.eval x)) = some cs) (h : wpList Tryz.prog ops Q rest (a.put o.dst (.agg cs)) w) : wpList Tryz.prog ops Q (o :: rest) a w := by
 rw [← Array.toList_map] at hf
 exact BigFrame.wpList_want hw fun _ hK => wp_build t parts ho (by rw [hf]; rfl) (hK _ _ (by rw [hf]; exact h))
set_option maxRecDepth 100000 in
set_option maxHeartbeats 1000000 in
theorem check_0 (r : Rv) (hr : r.ok) (ps : Ps) (w : World) (hp : PL w r.pv ps) (h0 : okId (lst r.id) = false) : Calls Tryz.prog 33 #[.agg r.cs] w fun e w' => e = .returned (i64 2) ∧ Below w.heap.size w w' := by
 have HR := hid hr
 have HP := hid hp
 have H0 := hid h0
 clear hr hp h0
 go_enter Tryz.func33, Tryz.ntmps33
 go_wp2_with (first
  | ((with_reducible refine wpList_boxR rfl _ rfl r.cs ?_ ?_); exact rfl; intro w1 g1 hc1 hb1 hg1; have HA := hid (RBox.mk' HR.out hc1); have HB := hid hb1; have HP1 := hid (HP.out.below hb1); have c0 := HA.out.c0; have c1 := HA.out.c1; have c2 := HA.out.c2; clear hc1 hb1)
  | (go_at_call 49; refine (isID_any _ _ (by have := HR.out.i; omega)).mono ?_; rintro e w2 ⟨rfl, hb2⟩; rw [H0.out]; replace HA := hid (HA.out.below HR.out hb2); replace HP1 := hid (HP1.out.below hb2); replace HB := hid (below_on HB.out hb2); clear c0 c1 c2; have c0 := HA.out.c0; have c1 := HA.out.c1; have c2 := HA.out.c2; clear hb2))
 go_ret
 exact ⟨rfl, HB.out⟩
set_option maxRecDepth 100000 in
set_option maxHeartbeats 1000000 in
theorem check_1 (r : Rv) (hr : r.ok) (ps : Ps) (w : World) (hp : PL w r.pv ps) (h0 : okId (lst r.id) = true) (h1 : inR r.time 0 1048576 = false) : Calls Tryz.prog 33 #[.agg r.cs] w fun e w' => e = .returned (i64 2) ∧ Below w.heap.size w w' := by
 have HR := hid hr
 have HP := hid hp
 have H0 := hid h0
 have H1 := hid h1
 clear hr hp h0 h1
 go_enter Tryz.func33, Tryz.ntmps33
 go_wp2_with (first
  | ((with_reducible refine wpList_boxR rfl _ rfl r.cs ?_ ?_); exact rfl; intro w1 g1 hc1 hb1 hg1; have HA := hid (RBox.mk' HR.out hc1); have HB := hid hb1; have HP1 := hid (HP.out.below hb1); have c0 := HA.out.c0; have c1 := HA.out.c1; have c2 := HA.out.c2; clear hc1 hb1)
  | (go_at_call 49; refine (isID_any _ _ (by have := HR.out.i; omega)).mono ?_; rintro e w2 ⟨rfl, hb2⟩; rw [H0.out]; replace HA := hid (HA.out.below HR.out hb2); replace HP1 := hid (HP1.out.below hb2); replace HB := hid (below_on HB.out hb2); clear c0 c1 c2; have c0 := HA.out.c0; have c1 := HA.out.c1; have c2 := HA.out.c2; clear hb2)
  | (go_at_call 50; refine (between_any _ _ _ _).mono ?_; rintro e w' ⟨rfl, hw'⟩; rw [H1.out]; have hw2 := hw'.symm; subst hw2))
 go_ret
 exact ⟨rfl, HB.out⟩
set_option maxRecDepth 100000 in
set_option maxHeartbeats 1000000 in
theorem check_mt (r : Rv) (hr : r.ok) (ps : Ps) (w : World) (hp : PL w r.pv ps) (h0 : okId (lst r.id) = true) (h1 : inR r.time 0 1048576 = true) (hm : r.mark = true) (h3 : decide (r.rc ps = (mkR r.id r.time).rc []) = true) : Calls Tryz.prog 33 #[.agg r.cs] w fun e w' => e = .returned (i64 0) ∧ Below w.heap.size w w' := by
 have HR := hid hr
 have HP := hid hp
 have H0 := hid h0
 have H1 := hid h1
 have H3 := hid h3
 clear hr hp h0 h1 h3
 go_enter Tryz.func33, Tryz.ntmps33
 go_wp2_with (first
  | ((with_reducible refine wpList_boxR rfl _ rfl r.cs ?_ ?_); exact rfl; intro w1 g1 hc1 hb1 hg1; have HA := hid (RBox.mk' HR.out hc1); have HB := hid hb1; have HP1 := hid (HP.out.below hb1); have c0 := HA.out.c0; have c1 := HA.out.c1; have c2 := HA.out.c2; rw [hm] at c2; clear hc1 hb1)
  | (go_at_call 49; refine (isID_any _ _ (by have := HR.out.i; omega)).mono ?_; rintro e w2 ⟨rfl, hb2⟩; rw [H0.out]; replace HA := hid (HA.out.below HR.out hb2); replace HP1 := hid (HP1.out.below hb2); replace HB := hid (below_on HB.out hb2); clear c0 c1 c2; have c0 := HA.out.c0; have c1 := HA.out.c1; have c2 := HA.out.c2; rw [hm] at c2; clear hb2)
  | (go_at_call 50; refine (between_any _ _ _ _).mono ?_; rintro e w' ⟨rfl, hw'⟩; rw [H1.out]; have hw2 := hw'.symm; subst hw2)
  | ((with_reducible refine wpList_load_at 44 _ rfl ?_ g1 0 ?_ r.cs (.struct (Tryz.prog.fieldsOf 44)) ?_ underRec rfl ?_ ?_); exact rfl; exact rfl; exact HA.out.whole; (rw [HR.out.size]; exact sizeR))
  | ((with_reducible refine wpList_build_want 44 _ rfl ?_ (mkR r.id r.time).cs ?_ ?_); exact rfl; exact built_mark r.id r.time)
  | (go_at_call 51; refine (same_any r (mkR r.id r.time) HR.out (mkR_ok HR.out.i) ps [] _ HP1.out (PL.nil _)).mono ?_; rintro e w3 ⟨rfl, hb3⟩; rw [H3.out]; replace HA := hid (HA.out.below HR.out hb3); replace HB := hid (below_on HB.out hb3); clear c0 c1 c2; have c0 := HA.out.c0; have c1 := HA.out.c1; have c2 := HA.out.c2; rw [hm] at c2; clear hb3))
 go_ret
 exact ⟨rfl, HB.out⟩
set_option maxRecDepth 100000 in
set_option maxHeartbeats 1000000 in
theorem check_vt (r : Rv) (hr : r.ok) (ps : Ps) (w : World) (hp : PL w r.pv ps) (h0 : okId (lst r.id) = true) (h1 : inR r.time 0 1048576 = true) (hm : r.mark = false) (h3 : versOk r ps = true) : Calls Tryz.prog 33 #[.agg r.cs] w fun e w' => e = .returned (i64 0) ∧ Below w.heap.size w w' := by
 have HR := hid hr
 have HP := hid hp
 have H0 := hid h0
 have H1 := hid h1
 have H3 := hid h3
 clear hr hp h0 h1 h3
 go_enter Tryz.func33, Tryz.ntmps33
 go_wp2_with (first
  | ((with_reducible refine wpList_boxR rfl _ rfl r.cs ?_ ?_); exact rfl; intro w1 g1 hc1 hb1 hg1; have HA := hid (RBox.mk' HR.out hc1); have HB := hid hb1; have HP1 := hid (HP.out.below hb1); have c0 := HA.out.c0; have c1 := HA.out.c1; have c2 := HA.out.c2; rw [hm] at c2; clear hc1 hb1)
  | (go_at_call 49; refine (isID_any _ _ (by have := HR.out.i; omega)).mono ?_; rintro e w2 ⟨rfl, hb2⟩; rw [H0.out]; replace HA := hid (HA.out.below HR.out hb2); replace HP1 := hid (HP1.out.below hb2); replace HB := hid (below_on HB.out hb2); clear c0 c1 c2; have c0 := HA.out.c0; have c1 := HA.out.c1; have c2 := HA.out.c2; rw [hm] at c2; clear hb2)
  | (go_at_call 50; refine (between_any _ _ _ _).mono ?_; rintro e w' ⟨rfl, hw'⟩; rw [H1.out]; have hw2 := hw'.symm; subst hw2)
  | ((with_reducible refine wpList_load_at 44 _ rfl ?_ g1 0 ?_ r.cs (.struct (Tryz.prog.fieldsOf 44)) ?_ underRec rfl ?_ ?_); exact rfl; exact rfl; exact HA.out.whole; (rw [HR.out.size]; exact sizeR))
  | (go_at_call 52; refine (isVersion_any r HR.out ps _ HP1.out).mono ?_; rintro e w4 ⟨rfl, hb4⟩; rw [H3.out]; replace HB := hid (below_on HB.out hb4); clear hb4))
 go_ret
 exact ⟨rfl, HB.out⟩
set_option maxRecDepth 100000 in
set_option maxHeartbeats 1000000 in
theorem check_mf (r : Rv) (hr : r.ok) (ps : Ps) (w : World) (hp : PL w r.pv ps) (h0 : okId (lst r.id) = true) (h1 : inR r.time 0 1048576 = true) (hm : r.mark = true) (h3 : decide (r.rc ps = (mkR r.id r.time).rc []) = false) : Calls Tryz.prog 33 #[.agg r.cs] w fun e w' => e = .returned (i64 2) ∧ Below w.heap.size w w' := by
 have HR := hid hr
 have HP := hid hp
 have H0 := hid h0
 have H1 := hid h1
 have H3 := hid h3
 clear hr hp h0 h1 h3
 go_enter Tryz.func33, Tryz.ntmps33
 go_wp2_with (first
  | ((with_reducible refine wpList_boxR rfl _ rfl r.cs ?_ ?_); exact rfl; intro w1 g1 hc1 hb1 hg1; have HA := hid (RBox.mk' HR.out hc1); have HB := hid hb1; have HP1 := hid (HP.out.below hb1); have c0 := HA.out.c0; have c1 := HA.out.c1; have c2 := HA.out.c2; rw [hm] at c2; clear hc1 hb1)
  | (go_at_call 49; refine (isID_any _ _ (by have := HR.out.i; omega)).mono ?_; rintro e w2 ⟨rfl, hb2⟩; rw [H0.out]; replace HA := hid (HA.out.below HR.out hb2); replace HP1 := hid (HP1.out.below hb2); replace HB := hid (below_on HB.out hb2); clear c0 c1 c2; have c0 := HA.out.c0; have c1 := HA.out.c1; have c2 := HA.out.c2; rw [hm] at c2; clear hb2)
  | (go_at_call 50; refine (between_any _ _ _ _).mono ?_; rintro e w' ⟨rfl, hw'⟩; rw [H1.out]; have hw2 := hw'.symm; subst hw2)
  | ((with_reducible refine wpList_load_at 44 _ rfl ?_ g1 0 ?_ r.cs (.struct (Tryz.prog.fieldsOf 44)) ?_ underRec rfl ?_ ?_); exact rfl; exact rfl; exact HA.out.whole; (rw [HR.out.size]; exact sizeR))
  | ((with_reducible refine wpList_build_want 44 _ rfl ?_ (mkR r.id r.time).cs ?_ ?_); exact rfl; exact built_mark r.id r.time)
  | (go_at_call 51; refine (same_any r (mkR r.id r.time) HR.out (mkR_ok HR.out.i) ps [] _ HP1.out (PL.nil _)).mono ?_; rintro e w3 ⟨rfl, hb3⟩; rw [H3.out]; replace HA := hid (HA.out.below HR.out hb3); replace HB := hid (below_on HB.out hb3); clear c0 c1 c2; have c0 := HA.out.c0; have c1 := HA.out.c1; have c2 := HA.out.c2; rw [hm] at c2; clear hb3))
 go_ret
 exact ⟨rfl, HB.out⟩
set_option maxRecDepth 100000 in
set_option maxHeartbeats 1000000 in
theorem check_vf (r : Rv) (hr : r.ok) (ps : Ps) (w : World) (hp : PL w r.pv ps) (h0 : okId (lst r.id) = true) (h1 : inR r.time 0 1048576 = true) (hm : r.mark = false) (h3 : versOk r ps = false) : Calls Tryz.prog 33 #[.agg r.cs] w fun e w' => e = .returned (i64 2) ∧ Below w.heap.size w w' := by
 have HR := hid hr
 have HP := hid hp
 have H0 := hid h0
 have H1 := hid h1
 have H3 := hid h3
 clear hr hp h0 h1 h3
 go_enter Tryz.func33, Tryz.ntmps33
 go_wp2_with (first
  | ((with_reducible refine wpList_boxR rfl _ rfl r.cs ?_ ?_); exact rfl; intro w1 g1 hc1 hb1 hg1; have HA := hid (RBox.mk' HR.out hc1); have HB := hid hb1; have HP1 := hid (HP.out.below hb1); have c0 := HA.out.c0; have c1 := HA.out.c1; have c2 := HA.out.c2; rw [hm] at c2; clear hc1 hb1)
  | (go_at_call 49; refine (isID_any _ _ (by have := HR.out.i; omega)).mono ?_; rintro e w2 ⟨rfl, hb2⟩; rw [H0.out]; replace HA := hid (HA.out.below HR.out hb2); replace HP1 := hid (HP1.out.below hb2); replace HB := hid (below_on HB.out hb2); clear c0 c1 c2; have c0 := HA.out.c0; have c1 := HA.out.c1; have c2 := HA.out.c2; rw [hm] at c2; clear hb2)
  | (go_at_call 50; refine (between_any _ _ _ _).mono ?_; rintro e w' ⟨rfl, hw'⟩; rw [H1.out]; have hw2 := hw'.symm; subst hw2)
  | ((with_reducible refine wpList_load_at 44 _ rfl ?_ g1 0 ?_ r.cs (.struct (Tryz.prog.fieldsOf 44)) ?_ underRec rfl ?_ ?_); exact rfl; exact rfl; exact HA.out.whole; (rw [HR.out.size]; exact sizeR))
  | (go_at_call 52; refine (isVersion_any r HR.out ps _ HP1.out).mono ?_; rintro e w4 ⟨rfl, hb4⟩; rw [H3.out]; replace HB := hid (below_on HB.out hb4); clear hb4))
 go_ret
 exact ⟨rfl, HB.out⟩
theorem check_any (r : Rv) (hr : r.ok) (ps : Ps) (w : World) (hp : PL w r.pv ps) : Calls Tryz.prog 33 #[.agg r.cs] w fun e w' => e = .returned (i64 (if okRc (r.rc ps) = true then 0 else 2)) ∧ Below w.heap.size w w' := by
 cases hm : r.mark
 ·rw [okRc_vers r ps hm hr.sl]
  cases h0 : okId (lst r.id)
  ·exact check_0 r hr ps w hp h0
  cases h1 : inR r.time 0 1048576
  ·exact check_1 r hr ps w hp h0 h1
  cases h3 : versOk r ps
  ·exact check_vf r hr ps w hp h0 h1 hm h3
  ·exact check_vt r hr ps w hp h0 h1 hm h3
 ·rw [okRc_mark r ps hm]
  cases h0 : okId (lst r.id)
  ·exact check_0 r hr ps w hp h0
  cases h1 : inR r.time 0 1048576
  ·exact check_1 r hr ps w hp h0 h1
  cases h3 : decide (r.rc ps = (mkR r.id r.time).rc [])
  ·exact check_mf r hr ps w hp h0 h1 hm h3
  ·exact check_mt r hr ps w hp h0 h1 hm h3
end Go.Proofs.YtdohmokhfajjpaaGreatDoor

/- Contract of parts of the reader of package record. -/
namespace Go.Proofs.YtdohmokhfajjpaaGreatDoor
open Go Go.RowKit

def flatP (ps : Ps) : List Value := ps.flatMap fun p => [i64 p.1, i64 p.2]
theorem flatP_len (ps : Ps) : (flatP ps).length = ps.length * 2 := by
 induction ps with
 | nil => rfl
 | cons p r ih => simp [flatP] at ih ⊢; omega
theorem flatP_get : ∀ (ps : Ps) (i : Nat), i < ps.length → (flatP ps)[i * 2]? = some (i64 (ps.getD i (0, 0)).1) ∧ (flatP ps)[i * 2 + 1]? = some (i64 (ps.getD i (0, 0)).2)
 | [], i, h => by simp at h
 | p :: r, 0, _ => by simp [flatP]
 | p :: r, i + 1, h => by
  have ih := flatP_get r i (by simpa using h)
  have e : flatP (p :: r) = i64 p.1 :: i64 p.2 :: flatP r := rfl
  rw [e, show (i + 1) * 2 = i * 2 + 1 + 1 by omega]
  simpa using ih
/-- Parts in a row of their own. -/
def PBuf (B : Nat) (w : World) (v : Value) (ps : Ps) : Prop := w.ownsRow B 129 2 v ps.length (flatP ps)
theorem Tryz.infoP : (Tryz.prog.info? 129).map (fun i => (i.zero, i.size, i.bytes)) = some (some (.agg #[.int .i64 0, .int .i64 0]), 2, 16) := by kernel_rfl
/-- Parts in memory of no block below B, that may be written; none only where there is no room. -/
def PLF (B : Nat) (w : World) (v : Value) (ps : Ps) : Prop := PL w v ps ∧ (∀ a n c, v = .slice (some a) n c → ps ≠ [] → B ≤ a.block ∧ ∃ cs, CAt w a.block cs 129) ∧ ∀ n c, v = .slice none n c → c = 0
theorem PLF.nil (B : Nat) (w : World) : PLF B w (.slice none 0 0) [] := ⟨PL.nil w, fun _ _ _ _ h => (h rfl).elim, fun _ _ h => by cases h; rfl⟩
theorem PLF.only {B : Nat} {w w' : World} {v : Value} {ps : Ps} {S : Nat → Prop} (h : PLF B w v ps) (hO : Only S w w') (hS : ∀ i, S i → i < B) : PLF B w' v ps := by
 obtain ⟨⟨po, c, h1, h2, h3, h⟩, hB, hz⟩ := h
 refine ⟨⟨po, c, h1, h2, h3, ?_⟩, fun a n c e hne => ?_, hz⟩
 ·rcases h with h | ⟨b, o, hp, h⟩
  ·exact Or.inl h
  ·refine Or.inr ⟨b, o, hp, fun i hi => ?_⟩
   have hb : B ≤ b := (hB ⟨b, o, none⟩ _ _ (by rw [h1, hp]) (fun e => by rw [e] at hi; cases hi)).1
   have hk : w'.heap[b]? = w.heap[b]? := hO.block b (cell_lt' (a := ⟨b, o + i * 2, none⟩) (by rw [(h i hi).1]; simp)) (fun e => by have := hS _ e; omega)
   exact ⟨(World.cell?_of_block (a := ⟨b, o + i * 2, none⟩) hk).trans (h i hi).1, (World.cell?_of_block (a := ⟨b, o + i * 2 + 1, none⟩) hk).trans (h i hi).2⟩
 ·obtain ⟨k1, cs, k2⟩ := hB a n c e hne
  exact ⟨k1, cs, k2.keep (hO.block a.block k2.lt fun k => by have := hS _ k; omega)⟩
theorem PBuf.nil (B : Nat) (w : World) : PBuf B w (.slice none 0 0) [] := World.ownsRow_nil w B _ 2
theorem PBuf.form {B : Nat} {w : World} {v : Value} {ps : Ps} (h : PBuf B w v ps) : ∃ po c, v = .slice po ps.length c ∧ ps.length ≤ c := by
 rcases h.2 with ⟨rfl, h0⟩ | ⟨g, cap, cur, rfl, _, _, h1, _⟩
 ·exact ⟨none, 0, by rw [h0], by omega⟩
 ·exact ⟨_, cap, rfl, h1⟩
theorem PBuf.pl {B : Nat} {w : World} {po : Option Addr} {n c : Nat} {ps : Ps} (h : PBuf B w (.slice po n c) ps) (hn : ps.length ≤ 100000) (c' : Nat) (hc : ps.length ≤ c') (hz : c' = ps.length ∨ c' = c) : n = ps.length ∧ PLF B w (.slice po ps.length c') ps := by
 rcases h.2 with ⟨e, h0⟩ | ⟨g, cap, cur, e, hB, hg, h1, _, h3, h4⟩
 ·simp at e
  exact ⟨by omega, ⟨po, c', rfl, hc, hn, Or.inl (List.eq_nil_of_length_eq_zero h0)⟩, fun a n c _ h => (h (List.eq_nil_of_length_eq_zero h0)).elim, fun n c2 e2 => by cases e2; omega⟩
 ·cases e
  refine ⟨rfl, ⟨_, c', rfl, hc, hn, Or.inr ⟨g, 0, rfl, fun i hi => ?_⟩⟩, fun a n c h _ => by cases h; exact ⟨hB, _, hg⟩, fun n c e => by cases e⟩
  have hc2 : CAt w g cur 129 := hg
  obtain ⟨a1, a2⟩ := flatP_get ps i hi
  rw [← h4] at a1 a2
  rw [Nat.zero_add, hc2.cell, hc2.cell]
  constructor
  ·rw [List.getElem?_take, if_pos (by omega)] at a1; simpa using a1
  ·rw [List.getElem?_take, if_pos (by omega)] at a2; simpa using a2
theorem PBuf.push {B : Nat} {w : World} {v : Value} {ps : Ps} (h : PBuf B w v ps) (x y : Int) (hn : ps.length ≤ 1000000) (hB : B ≤ w.heap.size) :
  ∃ v' w', (Builtin.append_ #[42, 42] 42 #[v, .slice (some ⟨w.heap.size, 0, none⟩) 1 1]).run Tryz.prog (w.alloc (.cells #[i64 x, i64 y] 129)) = .ok v' w' ∧ PBuf B w' v' (ps ++ [(x, y)]) ∧ (w.alloc (.cells #[i64 x, i64 y] 129)).grownBy w' v.ownBlock := by
 obtain ⟨i0, hi0, hz0, hz1, hz2⟩ := info_parts Tryz.infoP
 have h2 : (w.alloc (.cells #[i64 x, i64 y] 129)).ownsRow B 129 2 v ps.length (flatP ps) := h.alloc _
 have hc : CAt (w.alloc (.cells #[i64 x, i64 y] 129)) w.heap.size #[i64 x, i64 y] 129 := CAt.made w _ _
 obtain ⟨v', w', hr, h3, h4, _, _⟩ := run_append_own_at (P := Tryz.prog) (w.alloc (.cells #[i64 x, i64 y] 129)) B 42 42 129 i0 _ 2 16 Tryz.underlying42 hi0 hz0 hz1 hz2 rfl (by decide) v ps.length (flatP ps) h2 ⟨w.heap.size, 0, none⟩ 1 1 [i64 x, i64 y] rfl (fun j u hj => by
   rw [add_none, Nat.zero_add, hc.cell]
   rcases j with _ | _ | j
   ·simpa using hj
   ·simpa using hj
   ·simp at hj) (by intro u hu; simp at hu; rcases hu with rfl | rfl <;> rfl) (by unfold maxLen; omega) (by omega) (by rw [size_al]; omega)
 refine ⟨v', w', hr, ?_, h4⟩
 unfold PBuf
 rw [show flatP (ps ++ [(x, y)]) = flatP ps ++ [i64 x, i64 y] by simp [flatP]]
 simpa using h3
theorem elemP (w : World) : (sizeOf (Tryz.prog.elem 42)).run Tryz.prog w = .ok 2 w := by
 have hi : (Tryz.prog.info? (Tryz.prog.elem 42)).map (·.size) = some 2 := by kernel_rfl
 obtain ⟨i, h1, h2⟩ := Option.map_eq_some_iff.1 hi
 simp [sizeOf, typeInfo, h1, h2]
theorem underEP : Tryz.prog.underlying 42 = some (.slice (Tryz.prog.elem 42)) := by kernel_rfl
theorem run_clipP (po : Option Addr) (n c : Nat) (h : n ≤ c) (w : World) : (Instr.slice 42 (.slice po n c) none (some (.int .i64 (n : Int))) (some (.int .i64 (n : Int)))).run Tryz.prog w = .ok (.slice po n n) w := by
 rw [run_slice_hm (P := Tryz.prog) w 42 po n c underEP .i64 .i64 (n : Int) (n : Int) (by omega) (by omega) (by omega), elemP]
 cases po with
 | none => simp [Result.andThen, sliced]
 | some a =>
  by_cases h0 : n = 0
  ·simp [Result.andThen, sliced, h0]
  ·simp [Result.andThen, sliced, h0, add_zero']
theorem clipP_any (po : Option Addr) (n c : Nat) (hc : n ≤ c) (w : World) : Calls Tryz.prog 129 #[.slice po n c] w fun e w' => e = .returned (.slice po n n) ∧ w' = w := by
 have hs := run_clipP po n c hc
 go_enter Tryz.func129, Tryz.ntmps129
 go_wp2
 go_ret
 exact ⟨rfl, rfl⟩
/-- How many parts there are, and these. -/
def rdP (s : Option (List Nat)) : Option (Ps × List Nat) := s.bind fun L => (rdU L).bind fun q => if 32 < q.1 then none else rdPs q.1 q.2
def ParS (w : World) (p : Nat) (s : Option (List Nat)) (e : Ending) (w' : World) : Prop :=
 ∃ (v : Value) (ps : Ps), e = .returned v ∧ PLF w.heap.size w' v ps ∧ Rd w' p ((rdP s).map (·.2)) ∧ Only (fun b => b = p) w w' ∧ ∀ qs r, rdP s = some (qs, r) → ps = qs
theorem rdP_none {s : Option (List Nat)} (h : s.bind rdU = none) : rdP s = none := by
 unfold rdP
 cases s with
 | none => rfl
 | some L => have h' : rdU L = none := h; simp [h']
theorem rdP_some {s : Option (List Nat)} {n : Nat} {c : List Nat} (h : s.bind rdU = some (n, c)) : rdP s = if 32 < n then none else rdPs n c := by
 unfold rdP
 cases s with
 | none => cases h
 | some L => have h' : rdU L = some (n, c) := h; simp [h']
theorem PBuf.keep {B : Nat} {w w' : World} {v : Value} {ps : Ps} (h : PBuf B w v ps) (hk : ∀ b, v.ownBlock = some b → w'.heap[b]? = w.heap[b]?) : PBuf B w' v ps := ownsRow_keep h hk
set_option maxRecDepth 100000 in
set_option maxHeartbeats 1000000 in
theorem parts_bad (w : World) (p : Nat) (s : Option (List Nat)) (h : Rd w p s) (hq : ∀ n c, s.bind rdU = some (n, c) → 32 < n) : Calls Tryz.prog 125 #[ptr p] w (ParS w p s) := by
 have hnum := number_any w p s h
 have HP : Hid (rdP s = none) := by
  cases hs : s.bind rdU with
  | none => exact rdP_none hs
  | some q => obtain ⟨n, c⟩ := q; have e := rdP_some hs; rw [if_pos (hq n c hs)] at e; exact e
 clear h
 cases hs : s.bind rdU with
 | none =>
  have HS := hid hs
  clear hs hq
  go_enter Tryz.func125, Tryz.ntmps125
  go_wp2_with (first
   | (go_at_call 112; refine hnum.mono ?_; rintro e w1 ⟨v, rfl, hr1, ho1, _⟩; rw [HS.out] at hr1; have HR1 := hid hr1; have HO1 := hid ho1; clear hr1 ho1)
   | (go_at_call 117; refine (need_gone _ p _ HR1.out).mono ?_; rintro e w2 ⟨rfl, hw2⟩; have hw3 := hw2.symm; subst hw3))
  obtain ⟨po1, L1, k1, _⟩ := HR1.out
  have c1 := k1.cell 1
  simp at c1
  clear k1
  refine wp_loop_rounds 1 ?_
  rw [rounds_succ]
  by_cases hv : (0 : Int) < v <;>
  ·go_wp2_with (go_at_call 129; refine (clipP_any none 0 0 (Nat.le_refl _) _).mono ?_; rintro e w2 ⟨rfl, hw2⟩; have hw3 := hw2.symm; subst hw3)
   go_ret
   exact ⟨_, [], rfl, PLF.nil _ _, by rw [HP.out]; exact HR1.out, HO1.out, fun qs r h => by rw [HP.out] at h; cases h⟩
 | some q =>
  obtain ⟨n, c⟩ := q
  have hbig := hq n c hs
  have hbig' : ¬ (n : Int) ≤ 32 := by omega
  have HS := hid hs
  clear hs hq
  go_enter Tryz.func125, Tryz.ntmps125
  go_wp2_with (first
   | (go_at_call 112; refine hnum.mono ?_; rintro e w1 ⟨v, rfl, hr1, ho1, hv⟩; have hv2 := hv n c HS.out; subst hv2; rw [HS.out] at hr1; have HR1 := hid hr1; have HO1 := hid ho1; clear hr1 ho1 hv)
   | (go_at_call 117; refine (need_any _ p _ _ HR1.out).mono ?_; rintro e w2 ⟨rfl, hr2, ho2⟩; have HR2 : Hid (Rd w2 p none) := hid (by have hz : ¬ ((n : Int) ≤ 32) := (by omega); simpa [hz] using hr2); have HO2 := hid ho2; clear hr2 ho2))
  obtain ⟨po1, L1, k1, _⟩ := HR2.out
  have c1 := k1.cell 1
  simp at c1
  clear k1
  refine wp_loop_rounds 1 ?_
  rw [rounds_succ]
  go_wp2_with (go_at_call 129; refine (clipP_any none 0 0 (Nat.le_refl _) _).mono ?_; rintro e w3 ⟨rfl, hw2⟩; have hw3 := hw2.symm; subst hw3)
  go_ret
  exact ⟨_, [], rfl, PLF.nil _ _, by rw [HP.out]; exact HR2.out, HO1.out.trans HO2.out, fun qs r h => by rw [HP.out] at h; cases h⟩
end Go.Proofs.YtdohmokhfajjpaaGreatDoor

/- Contract of parts of the reader of package record: the loop. -/
namespace Go.Proofs.YtdohmokhfajjpaaGreatDoor
open Go Go.RowKit

/-- So many parts have been read; what is left of them. -/
def PAcc (n : Nat) (c : List Nat) (k : Nat) (qs : Ps) (st : Option (List Nat)) : Prop := qs.length = k ∧ match st with
 | none => rdPs n c = none
 | some d => rdPs n c = (rdPs (n - k) d).map fun q => (qs ++ q.1, q.2)
theorem PAcc.start (n : Nat) (c : List Nat) : PAcc n c 0 [] (some c) := ⟨rfl, by simp⟩
theorem rdPs_succ (n : Nat) (b : List Nat) : rdPs (n + 1) b = (rdU b).bind fun q => (rdU q.2).bind fun q2 => (rdPs n q2.2).bind fun q3 => some (((q.1 : Int), (q2.1 : Int)) :: q3.1, q3.2) := by
 rw [rdPs]; rfl
theorem PAcc.next {n k : Nat} {c d : List Nat} {qs : Ps} (h : PAcc n c k qs (some d)) (hk : k < n) {x y : Int} (hx : ∀ m r, rdU d = some (m, r) → x = m) (hy : ∀ m r, ((rdU d).map (·.2)).bind rdU = some (m, r) → y = m) :
  PAcc n c (k + 1) (qs ++ [(x, y)]) ((((rdU d).map (·.2)).bind rdU).map (·.2)) := by
 refine ⟨by simp [h.1], ?_⟩
 have h2 : rdPs n c = (rdPs (n - k) d).map fun q => (qs ++ q.1, q.2) := h.2
 rw [show n - k = (n - (k + 1)) + 1 by omega, rdPs_succ] at h2
 cases e1 : rdU d with
 | none => rw [e1] at h2; exact h2
 | some q =>
  obtain ⟨m1, d1⟩ := q
  rw [e1] at h2 hy
  simp only [Option.map_some, Option.bind_some] at h2 hy ⊢
  have hx' := hx m1 d1 e1
  cases e2 : rdU d1 with
  | none => rw [e2] at h2; exact h2
  | some q2 =>
   obtain ⟨m2, d2⟩ := q2
   rw [e2] at h2
   have hy' := hy m2 d2 e2
   simp only [Option.bind_some, Option.map_some] at h2 ⊢
   rw [h2, hx', hy']
   cases rdPs (n - (k + 1)) d2 with
   | none => rfl
   | some q3 => simp
theorem Rd.bind (s : Option (List Nat)) : (s.bind rdU).map (·.2) = s.bind fun L => (rdU L).map (·.2) := by cases s <;> rfl
set_option maxRecDepth 100000 in
set_option maxHeartbeats 2000000 in
theorem parts_ok (w : World) (p : Nat) (s : Option (List Nat)) (h : Rd w p s) (n : Nat) (c : List Nat) (hs : s.bind rdU = some (n, c)) (hn : n ≤ 32) : Calls Tryz.prog 125 #[ptr p] w (ParS w p s) := by
 have hnum := number_any w p s h
 have HP : Hid (rdP s = rdPs n c) := by have e := rdP_some hs; rw [if_neg (by omega)] at e; exact e
 have hp := h.lt
 have HS := hid hs
 have hn' : (n : Int) ≤ 32 := by omega
 clear h hs
 go_enter Tryz.func125, Tryz.ntmps125
 go_wp2_with (first
  | (go_at_call 112; refine hnum.mono ?_; rintro e w1 ⟨v, rfl, hr1, ho1, hv⟩; have hv2 := hv n c HS.out; subst hv2; rw [HS.out] at hr1; have HR1 := hid hr1; have HO1 := hid ho1; clear hr1 ho1 hv)
  | (go_at_call 117; refine (need_true _ p).mono ?_; rintro e w2 ⟨rfl, hw2⟩; have hw3 := hw2.symm; subst hw3))
 go_loopw [4] (fun pv wr => ∃ (k : Nat) (qs : Ps) (st : Option (List Nat)), k ≤ n ∧ PBuf w.heap.size wr pv qs ∧ Rd wr p st ∧ Only (fun b => b = p) w wr ∧ PAcc n c k qs st) (fun pv _ => n - (match pv with | .slice _ l _ => l | _ => 0))
 case atStart => exact ⟨0, [], some c, by omega, PBuf.nil _ _, HR1.out, HO1.out, PAcc.start n c⟩
 case round =>
  obtain ⟨k, qs, st, hk, hb, hr, ho, ha⟩ := hrel
  have HB := hid hb
  have HR := hid hr
  have HO := hid ho
  have HA := hid ha
  have hlen := ha.1
  obtain ⟨po, cc, hform, hcc⟩ := hb.form
  subst hform
  obtain ⟨po1, L1, k1, _⟩ := hr
  have c1 := k1.cell 1
  clear k1 hb ho HR1 HO1
  rw [hlen] at hcc ⊢
  by_cases hlt : k < n
  ·have hlt' : (k : Int) < (n : Int) := by omega
   cases st with
   | none =>
    simp at c1
    have HN : Hid (rdPs n c = none) := ha.2
    clear ha
    go_wp2_with (go_at_call 129; refine (clipP_any po k cc hcc _).mono ?_; rintro e w2 ⟨rfl, hw2⟩; have hw3 := hw2.symm; subst hw3)
    go_ret
    have hpl := (HB.out.pl (by omega) k (by omega) (Or.inl hlen.symm)).2
    rw [hlen] at hpl
    refine ⟨_, qs, rfl, hpl, by rw [HP.out, HN.out]; exact HR.out, HO.out, fun qs r h => by rw [HP.out, HN.out] at h; cases h⟩
   | some d =>
    simp at c1
    clear ha
    have HOW := hid (fun b (hb : (Value.slice po k cc).ownBlock = some b) => own_ge (by have := HB.out; rw [hlen] at this; exact this) b hb)
    go_wp2_with (first
     | (go_at_call 112; refine (number_any _ p _ HR2.out).mono ?_; rintro e w3 ⟨y, rfl, hr3, ho3, hy⟩; have HR3 := hid hr3; have HO3 := hid (HO2.out.trans ho3); have HY := hid hy; clear hr3 ho3 hy; have hkeep := HB.out.keep (w' := w3) (fun b hb => HO3.out.block b (own_ge HB.out b hb).2 (fun e => by have := (own_ge HB.out b hb).1; omega)); rw [hlen] at hkeep; obtain ⟨v4, w4, hrun, hpb, hgr⟩ := hkeep.push x y (by omega) (by have := HO.out.size; have := HO3.out.size; omega); have HRUN := hid hrun; have HPB := hid hpb; have HGR := hid hgr; clear hkeep hrun hpb hgr)
     | (go_at_call 112; refine (number_any _ p _ HR.out).mono ?_; rintro e w2 ⟨x, rfl, hr2, ho2, hx⟩; have HR2 := hid hr2; have HO2 := hid ho2; have HX := hid hx; clear hr2 ho2 hx)
     | (at_builtin; refine wpList_append_run _ _ 42 42 rfl rfl _ _ _ rfl rfl HRUN.out ?_))
    have hgo : Only (fun b => (Value.slice po k cc).ownBlock = some b) w3 w4 := (Only.alloc w3 _).trans (Only.of_grown HGR.out fun b e _ => e)
    have hT : ∀ i, i < w.heap.size → (Value.slice po k cc).ownBlock = some i → i = p := fun i hi e => by have := (HOW.out i e).1; omega
    have hlt4 : ∀ i, (Value.slice po k cc).ownBlock = some i → p < i := fun i e => by have := (HOW.out i e).1; omega
    obtain ⟨po4, c4, hf4, _⟩ := HPB.out.form
    refine ⟨⟨k + 1, qs ++ [(x, y)], _, by omega, HPB.out, HR3.out.only hgo hlt4, (HO.out.trans HO3.out).then hgo hT, ?_⟩, ?_⟩
    ·exact HA.out.next hlt (fun m r h => HX.out m r h) (fun m r h => HY.out m r h)
    ·rw [hf4]; simp [hlen]; omega
  ·have hlt' : ¬ (k : Int) < (n : Int) := by omega
   have HK2 : Hid (k = n) := hid (by omega)
   go_wp2_with (go_at_call 129; refine (clipP_any po k cc hcc _).mono ?_; rintro e w2 ⟨rfl, hw2⟩; have hw3 := hw2.symm; subst hw3)
   go_ret
   have hpl := (HB.out.pl (by omega) k (by omega) (Or.inl hlen.symm)).2
   rw [hlen] at hpl
   cases st with
   | none =>
    have HN : rdPs n c = none := HA.out.2
    exact ⟨_, qs, rfl, hpl, by rw [HP.out, HN]; exact HR.out, HO.out, fun qs r h => by rw [HP.out, HN] at h; cases h⟩
   | some d =>
    have HN : rdPs n c = (rdPs (n - k) d).map fun q => (qs ++ q.1, q.2) := HA.out.2
    rw [HK2.out, Nat.sub_self] at HN
    have HN2 : rdPs n c = some (qs, d) := by rw [HN]; simp [rdPs]
    exact ⟨_, qs, rfl, hpl, by rw [HP.out, HN2]; exact HR.out, HO.out, fun qs' r h => by rw [HP.out, HN2] at h; cases h; rfl⟩
theorem parts_any (w : World) (p : Nat) (s : Option (List Nat)) (h : Rd w p s) : Calls Tryz.prog 125 #[ptr p] w (ParS w p s) := by
 cases hs : s.bind rdU with
 | none => exact parts_bad w p s h fun n c e => by rw [hs] at e; cases e
 | some q =>
  obtain ⟨n, c⟩ := q
  by_cases hn : n ≤ 32
  ·exact parts_ok w p s h n c hs hn
  ·exact parts_bad w p s h fun n' c' e => by rw [hs] at e; cases e; omega
end Go.Proofs.YtdohmokhfajjpaaGreatDoor
