/- Texts laid into one, cut to what is needed: the remark ahead of each part says what is proved there. -/
import Derived.Test.YtfogkegmdgbecaaGreatDoorPbl
import Derived.Test.YtfogkegmdgbecaaGreatDoorPbg
import Derived.Test.YtfogkegmdgbecaaGreatDoorPaf
import Derived.Test.YtfogkegmdgbecaaGreatDoorPbi
import Derived.Test.YtfogkegmdgbecaaGreatDoorPbj
import Derived.Test.YtfogkegmdgbecaaGreatDoorPbk
import Derived.Test.YtfogkegmdgbecaaGreatDoorPbe
import Derived.Test.YtfogkegmdgbecaaGreatDoorPbh
/- call of FanScript: Commit. -/
namespace Go.Proofs.YtfogkegmdgbecaaGreatDoor
open Go Go.RowKit Go.Shelf

/-- Bools whose block is kept by Zn. -/
def BoZ (Zn : Nat → Prop) (W : World) (v : Value) (n : Nat) (g : Nat → Bool) : Prop := ∃ po c, v = .slice po n c ∧ (n = 0 ∨ ∃ b, po = some ⟨b, 0, none⟩ ∧ Zn b ∧ ∀ i, i < n → W.cell? ⟨b, i, none⟩ = some (.bool (g i)))
theorem BoZ.bo {Zn : Nat → Prop} {W W' : World} {v : Value} {n : Nat} {g : Nat → Bool} (h : BoZ Zn W v n g) (hz : Kz Zn W W') : BoAt W' v n g := by
 obtain ⟨po, c, e, h⟩ := h
 refine ⟨po, c, e, h.imp id ?_⟩
 rintro ⟨b, e2, hb, hc⟩
 exact ⟨b, e2, fun i hi => (World.cell?_of_block (a := ⟨b, i, none⟩) (hz b hb)).trans (hc i hi)⟩
theorem comR_same {f1 fv : FsV} (h : f1.l.map RowV.fl = fv.l.map RowV.fl) (k : Nat) (need : Int) (X : FS) : comR k f1 need X = comR k fv need X := by
 have key : ∀ (l : List RowV) (i : Nat), (l.getD i default).fl = (l.map RowV.fl).getD i (RowV.fl default) := fun l i => by
  simp only [List.getD_eq_getElem?_getD, List.getElem?_map]
  cases l[i]? <;> rfl
 have e : f1.fl = fv.fl := by
  funext i
  show (f1.l.getD i default).fl = (fv.l.getD i default).fl
  rw [key, key, h]
 unfold comR
 rw [h, e]
section
variable {w W1 : World} {k : Nat} {p q : Nat → Nat} {X Y : FS} {dv wv : Value} {Z : Nat → Prop}
theorem commit_p (h : FY w k p q X Y dv wv Z W1) (hk : k ≤ 18) (hE : Erh w) (hB : ∀ i, i < k → Bnd 1000000000 1000000000 (X.d i)) (f1 : FsV) (hf1 : ∀ T : Nat → Prop, (∀ b, T b → b < W1.heap.size) → (∀ b, Z b → ¬ T b) → f1.ok W1 T) (hfl : f1.l.length ≤ 1000) (h8 : ∀ r ∈ f1.l, r.l.length ≤ 1000) (need : Int) :
  Calls Tryz.prog 12 #[dv, f1.v, .int .i64 need] W1 fun e W2 => ∃ Zn, (∃ v, e = .returned (.tuple #[v, .int .i64 ((comR k f1 need X).1 : Int)]) ∧ BoZ Zn W2 v (if (comR k f1 need X).1 = 0 then k else 0) (comR k f1 need X).2.1) ∧ FY w k p q (comR k f1 need X).2.2 Y dv wv (fun b => Z b ∨ Zn b) W2 ∧ Kz Z W1 W2 ∧ W1.heap.size ≤ W2.heap.size :=
 h.pcall (Q := fun Zn e W2 => ∃ v, e = .returned (.tuple #[v, .int .i64 ((comR k f1 need X).1 : Int)]) ∧ BoZ Zn W2 v (if (comR k f1 need X).1 = 0 then k else 0) (comR k f1 need X).2.1) (fun T hf hl hz => (commit_any hf hl (by omega) hE hB f1 (hf1 T hf.lt hz) hfl h8 need).mono (by
  rintro e W2 ⟨v, T', he, hg, hf', ho, hv⟩
  rcases hv with ⟨n1, rfl⟩ | ⟨n1, bw, rfl, hw, hlt, hnt⟩
  ·exact ⟨fun _ => False, ⟨_, he, none, 0, by rw [if_neg n1], .inl (if_neg n1)⟩, ⟨T', hg, hf', fun _ h => h.elim⟩, ho⟩
  ·refine ⟨fun b => b = bw ∧ 0 < k, ⟨_, he, some ⟨bw, 0, none⟩, k, by rw [if_pos n1], ?_⟩, ⟨T', hg, hf', ?_⟩, ho⟩
   ·rw [if_pos n1]
    rcases Nat.eq_zero_or_pos k with e0 | e0
    ·exact .inl e0
    ·exact .inr ⟨bw, rfl, ⟨rfl, e0⟩, fun i hi => (hw i hi).1⟩
   ·rintro b ⟨rfl, h0⟩
    exact ⟨hlt, cell_lt2 (hw 0 h0).1, hnt⟩))
theorem commit_r (h : FY w k p q Y X dv wv Z W1) (hk : k ≤ 18) (hG : ∀ i, i < k → Gd (X.d i)) (hB : ∀ i, i < k → Bnd 800000 800000000 (X.d i)) (fv : FsV) (hf1 : fv.ok w (fun b => w.heap.size ≤ b)) (hfl : fv.l.length ≤ 1000) (h8 : ∀ r ∈ fv.l, r.l.length ≤ 1000) (need : Int) :
  Calls Tryz.prog 13 #[wv, fv.v, .int .i64 need] W1 fun e W2 => ∃ Zn, (∃ v, e = .returned (.tuple #[v, .int .i64 ((comR k fv need X).1 : Int)]) ∧ BoZ Zn W2 v (if (comR k fv need X).1 = 0 then k else 0) (comR k fv need X).2.1) ∧ FY w k p q Y (comR k fv need X).2.2 dv wv (fun b => Z b ∨ Zn b) W2 ∧ Kz Z W1 W2 ∧ W1.heap.size ≤ W2.heap.size :=
 h.rcall (Q := fun Zn e W2 => ∃ v, e = .returned (.tuple #[v, .int .i64 ((comR k fv need X).1 : Int)]) ∧ BoZ Zn W2 v (if (comR k fv need X).1 = 0 then k else 0) (comR k fv need X).2.1) (fun T hf hl hz => (rcommit_any hf hl (by omega) hG hB fv (hf1.keep (fun b hb _ => h.be.block b hb) (fun b hb ht => hf.ge b ht)) hfl h8 need).mono (by
  rintro e W2 ⟨v, T', he, hg, hf', ho, hv⟩
  rcases hv with ⟨n1, rfl⟩ | ⟨n1, bw, rfl, hw, hlt, hnt⟩
  ·exact ⟨fun _ => False, ⟨_, he, none, 0, by rw [if_neg n1], .inl (if_neg n1)⟩, ⟨T', hg, hf', fun _ h => h.elim⟩, ho⟩
  ·refine ⟨fun b => b = bw ∧ 0 < k, ⟨_, he, some ⟨bw, 0, none⟩, k, by rw [if_pos n1], ?_⟩, ⟨T', hg, hf', ?_⟩, ho⟩
   ·rw [if_pos n1]
    rcases Nat.eq_zero_or_pos k with e0 | e0
    ·exact .inl e0
    ·exact .inr ⟨bw, rfl, ⟨rfl, e0⟩, fun i hi => (hw i hi).1⟩
   ·rintro b ⟨rfl, h0⟩
    exact ⟨hlt, cell_lt2 (hw 0 h0).1, hnt⟩))
end
set_option maxHeartbeats 8000000 in
set_option maxRecDepth 100000 in
theorem call_commit {w W : World} {k : Nat} {p q : Nat → Nat} {X : FS} {dv wv : Value} {Z : Nat → Prop} (h : FY w k p q X X dv wv Z W) (hk : k ≤ 18) (x : AcV) (h5 : x.kd = 0) (hE : Erh w) {nB : Nat} (hP : Pms nB k X.d) (hnB : nB ≤ 40000) (hx : x.f.ok w (fun b => w.heap.size ≤ b)) (hS : AcS x) :
  Calls Tryz.prog 6 #[.agg #[dv, wv], x.v] W (HXt w k p q (comR k x.f x.nn X).2.2 dv wv Z W) := by
 obtain ⟨dp, dc, hdv⟩ := h.dls.form
 obtain ⟨wp, wc, hwv⟩ := h.wls.form
 subst hdv
 subst hwv
 obtain ⟨kd, wh, nn, at_, a, bp, bc, b, fv, np, nc, ns, is, m, kp, kc, ks⟩ := x
 dsimp only [AcV.v, AcV.cs, FsV.v] at *
 subst h5
 obtain ⟨hen, hz0, -⟩ := h.enter (.cells #[.slice dp k dc, .slice wp k wc] 26) (.cells #[.int .i64 0, .int .i64 wh, .int .i64 nn, .int .i64 at_, sv a, .slice bp b.length bc, .slice fv.po fv.l.length fv.c, .slice np ns.length nc, .bool is, .int .u8 (m : Int), .slice kp ks.length kc] 35)
 obtain ⟨q1, q2⟩ := box_cells W #[.slice dp k dc, .slice wp k wc] #[.int .i64 0, .int .i64 wh, .int .i64 nn, .int .i64 at_, sv a, .slice bp b.length bc, .slice fv.po fv.l.length fv.c, .slice np ns.length nc, .bool is, .int .u8 (m : Int), .slice kp ks.length kc] 26 35
 have HM0 := hid hen
 have hbx : (((W.alloc (.cells #[.slice dp k dc, .slice wp k wc] 26)).alloc (.cells #[.int .i64 0, .int .i64 wh, .int .i64 nn, .int .i64 at_, sv a, .slice bp b.length bc, .slice fv.po fv.l.length fv.c, .slice np ns.length nc, .bool is, .int .u8 (m : Int), .slice kp ks.length kc] 35)).cell? ⟨W.heap.size, 0, none⟩ = some (.slice dp k dc) ∧ ((W.alloc (.cells #[.slice dp k dc, .slice wp k wc] 26)).alloc (.cells #[.int .i64 0, .int .i64 wh, .int .i64 nn, .int .i64 at_, sv a, .slice bp b.length bc, .slice fv.po fv.l.length fv.c, .slice np ns.length nc, .bool is, .int .u8 (m : Int), .slice kp ks.length kc] 35)).cell? ⟨W.heap.size, 1, none⟩ = some (.slice wp k wc) ∧ ((W.alloc (.cells #[.slice dp k dc, .slice wp k wc] 26)).alloc (.cells #[.int .i64 0, .int .i64 wh, .int .i64 nn, .int .i64 at_, sv a, .slice bp b.length bc, .slice fv.po fv.l.length fv.c, .slice np ns.length nc, .bool is, .int .u8 (m : Int), .slice kp ks.length kc] 35)).cell? ⟨W.heap.size + 1, 2, none⟩ = some (.int .i64 nn) ∧ ((W.alloc (.cells #[.slice dp k dc, .slice wp k wc] 26)).alloc (.cells #[.int .i64 0, .int .i64 wh, .int .i64 nn, .int .i64 at_, sv a, .slice bp b.length bc, .slice fv.po fv.l.length fv.c, .slice np ns.length nc, .bool is, .int .u8 (m : Int), .slice kp ks.length kc] 35)).cell? ⟨W.heap.size + 1, 6, none⟩ = some (.slice fv.po fv.l.length fv.c)) := ⟨q1 0 _ rfl, q1 1 _ rfl, q2 2 _ rfl, q2 6 _ rfl⟩
 have hBX : ∀ W', Kz (fun b => b = W.heap.size ∨ b = W.heap.size + 1) ((W.alloc (.cells #[.slice dp k dc, .slice wp k wc] 26)).alloc (.cells #[.int .i64 0, .int .i64 wh, .int .i64 nn, .int .i64 at_, sv a, .slice bp b.length bc, .slice fv.po fv.l.length fv.c, .slice np ns.length nc, .bool is, .int .u8 (m : Int), .slice kp ks.length kc] 35)) W' → (W'.cell? ⟨W.heap.size, 0, none⟩ = some (.slice dp k dc) ∧ W'.cell? ⟨W.heap.size, 1, none⟩ = some (.slice wp k wc) ∧ W'.cell? ⟨W.heap.size + 1, 2, none⟩ = some (.int .i64 nn) ∧ W'.cell? ⟨W.heap.size + 1, 6, none⟩ = some (.slice fv.po fv.l.length fv.c)) := fun W' hz => ⟨(World.cell?_of_block (a := ⟨W.heap.size, 0, none⟩) (hz _ (.inl rfl))).trans hbx.1, (World.cell?_of_block (a := ⟨W.heap.size, 1, none⟩) (hz _ (.inl rfl))).trans hbx.2.1, (World.cell?_of_block (a := ⟨W.heap.size + 1, 2, none⟩) (hz _ (.inr rfl))).trans hbx.2.2.1, (World.cell?_of_block (a := ⟨W.heap.size + 1, 6, none⟩) (hz _ (.inr rfl))).trans hbx.2.2.2⟩
 have hwB : w.heap.size ≤ ((W.alloc (.cells #[.slice dp k dc, .slice wp k wc] 26)).alloc (.cells #[.int .i64 0, .int .i64 wh, .int .i64 nn, .int .i64 at_, sv a, .slice bp b.length bc, .slice fv.po fv.l.length fv.c, .slice np ns.length nc, .bool is, .int .u8 (m : Int), .slice kp ks.length kc] 35)).heap.size := hen.fy.be.size
 have hf0 : fv.ok ((W.alloc (.cells #[.slice dp k dc, .slice wp k wc] 26)).alloc (.cells #[.int .i64 0, .int .i64 wh, .int .i64 nn, .int .i64 at_, sv a, .slice bp b.length bc, .slice fv.po fv.l.length fv.c, .slice np ns.length nc, .bool is, .int .u8 (m : Int), .slice kp ks.length kc] 35)) (fun b => w.heap.size ≤ b) := hx.keep (fun b hb _ => hen.fy.be.block b hb) (fun _ _ h => h)
 have hr10 : ∀ r ∈ fv.l, r.l.length ≤ 1000 := fun r hr => by obtain ⟨i, hi, rfl⟩ := List.mem_iff_getElem.1 hr; have := (hS.rl i hi).1; rw [getD_in _ _ _ hi] at this; omega
 have hb600 : ∀ r ∈ fv.l, ∀ y ∈ r.l, y.bs.length ≤ 2000 := fun r hr y hy => by obtain ⟨i, hi, rfl⟩ := List.mem_iff_getElem.1 hr; obtain ⟨j, hj, rfl⟩ := List.mem_iff_getElem.1 hy; have := (hS.rl i hi).2 j (by rw [getD_in _ _ _ hi]; exact hj); rw [getD_in _ _ _ hi, getD_in _ _ _ hj] at this; omega
 have hf20 : fv.l.length ≤ 1000 := by have := hS.fl; dsimp only at this; omega
 have HL := hid (lent10_any ((W.alloc (.cells #[.slice dp k dc, .slice wp k wc] 26)).alloc (.cells #[.int .i64 0, .int .i64 wh, .int .i64 nn, .int .i64 at_, sv a, .slice bp b.length bc, .slice fv.po fv.l.length fv.c, .slice np ns.length nc, .bool is, .int .u8 (m : Int), .slice kp ks.length kc] 35)) fv hf0 hf20 hr10 hb600)
 have HALL : Hid (∀ (f1 : FsV) (w1 : World), LoI ((W.alloc (.cells #[.slice dp k dc, .slice wp k wc] 26)).alloc (.cells #[.int .i64 0, .int .i64 wh, .int .i64 nn, .int .i64 at_, sv a, .slice bp b.length bc, .slice fv.po fv.l.length fv.c, .slice np ns.length nc, .bool is, .int .u8 (m : Int), .slice kp ks.length kc] 35)) w1 fv.l fv.l.length f1.v f1.l → (w1.cell? ⟨W.heap.size, 0, none⟩ = some (.slice dp k dc) ∧ w1.cell? ⟨W.heap.size, 1, none⟩ = some (.slice wp k wc) ∧ w1.cell? ⟨W.heap.size + 1, 2, none⟩ = some (.int .i64 nn) ∧ w1.cell? ⟨W.heap.size + 1, 6, none⟩ = some (.slice fv.po fv.l.length fv.c)) ∧ Calls Tryz.prog 12 #[(.slice dp k dc), f1.v, .int .i64 nn] w1 fun e W2 => ∃ v1, e = .returned (.tuple #[v1, .int .i64 ((comR k fv nn X).1 : Int)]) ∧ (W2.cell? ⟨W.heap.size, 0, none⟩ = some (.slice dp k dc) ∧ W2.cell? ⟨W.heap.size, 1, none⟩ = some (.slice wp k wc) ∧ W2.cell? ⟨W.heap.size + 1, 2, none⟩ = some (.int .i64 nn) ∧ W2.cell? ⟨W.heap.size + 1, 6, none⟩ = some (.slice fv.po fv.l.length fv.c)) ∧ Calls Tryz.prog 13 #[(.slice wp k wc), fv.v, .int .i64 nn] W2 fun e W3 => ∃ v2, e = .returned (.tuple #[v2, .int .i64 ((comR k fv nn X).1 : Int)]) ∧ (W3.cell? ⟨W.heap.size, 0, none⟩ = some (.slice dp k dc) ∧ W3.cell? ⟨W.heap.size, 1, none⟩ = some (.slice wp k wc) ∧ W3.cell? ⟨W.heap.size + 1, 2, none⟩ = some (.int .i64 nn) ∧ W3.cell? ⟨W.heap.size + 1, 6, none⟩ = some (.slice fv.po fv.l.length fv.c)) ∧ Calls Tryz.prog 14 #[v1, v2] W3 fun e W4 => e = .returned (.bool true) ∧ (W4.cell? ⟨W.heap.size, 0, none⟩ = some (.slice dp k dc) ∧ W4.cell? ⟨W.heap.size, 1, none⟩ = some (.slice wp k wc) ∧ W4.cell? ⟨W.heap.size + 1, 2, none⟩ = some (.int .i64 nn) ∧ W4.cell? ⟨W.heap.size + 1, 6, none⟩ = some (.slice fv.po fv.l.length fv.c)) ∧ Calls Tryz.prog 15 #[f1.v, fv.v] W4 fun e W5 => e = .returned (.bool true) ∧ HXt w k p q (comR k fv nn X).2.2 (.slice dp k dc) (.slice wp k wc) Z W (.returned (.bool true)) W5) := hid (fun f1 w1 hLo => by
  have hfy1 := hen.fy.below hLo.be
  have hz1 : Kz (fun b => Z b ∨ b = W.heap.size ∨ b = W.heap.size + 1) ((W.alloc (.cells #[.slice dp k dc, .slice wp k wc] 26)).alloc (.cells #[.int .i64 0, .int .i64 wh, .int .i64 nn, .int .i64 at_, sv a, .slice bp b.length bc, .slice fv.po fv.l.length fv.c, .slice np ns.length nc, .bool is, .int .u8 (m : Int), .slice kp ks.length kc] 35)) w1 := hen.fy.keeps hLo.be
  have hlen : f1.l.length = fv.l.length := by have := congrArg List.length hLo.flE; simpa using this
  have hr1 : ∀ r ∈ f1.l, r.l.length ≤ 1000 := fun r hr => by
   have hm : r.fl ∈ fv.l.map RowV.fl := by rw [← hLo.flE]; exact List.mem_map_of_mem hr
   obtain ⟨r2, hr2, e⟩ := List.mem_map.1 hm
   have := congrArg List.length e
   have h2 := hr10 r2 hr2
   simp only [RowV.fl, List.length_map] at this
   omega
  have hcp := commit_p hfy1 hk hE (fun i hi => (hP i hi).bnd.mono (by omega) (by omega)) f1 (fun T hT hz => hLo.fsok hf0 (fun b hb => Nat.lt_of_not_le fun hle => hz b (.inr ⟨hle, hT b hb⟩) hb)) (by omega) hr1 nn
  rw [comR_same hLo.flE] at hcp
  refine ⟨hBX w1 (hz1.less fun b hb => .inr hb), hcp.mono ?_⟩
  rintro e W2 ⟨Zn, ⟨v1, rfl, hb1⟩, hy2, hz2, hs2⟩
  refine ⟨v1, rfl, hBX W2 ((hz1.less fun b hb => .inr hb).trans (hz2.less fun b hb => .inl (.inr hb))), (commit_r hy2 hk (fun i hi => h.gd hi) (fun i hi => (hP i hi).bnd.mono (by omega) (by omega)) fv hx hf20 hr10 nn).mono ?_⟩
  rintro e W3 ⟨Zm, ⟨v2, rfl, hb2⟩, hy3, hz3, hs3⟩
  have hz23 := (hz2.trans (hz3.less fun b hb => .inl hb))
  refine ⟨v2, rfl, hBX W3 ((hz1.less fun b hb => .inr hb).trans (hz23.less fun b hb => .inl (.inr hb))), (sameBools_true v1 v2 _ _ W3 (by split <;> omega) (hb1.bo (hz3.less fun b hb => .inr hb)) (hb2.bo fun _ _ => rfl)).mono ?_⟩
  rintro e W4 ⟨rfl, n4, rfl⟩
  have hbd := below_drewN W3 n4
  have hy4 := (hy3.below hbd)
  have hz4 : Kz (fun b => Z b ∨ b = W.heap.size ∨ b = W.heap.size + 1) ((W.alloc (.cells #[.slice dp k dc, .slice wp k wc] 26)).alloc (.cells #[.int .i64 0, .int .i64 wh, .int .i64 nn, .int .i64 at_, sv a, .slice bp b.length bc, .slice fv.po fv.l.length fv.c, .slice np ns.length nc, .bool is, .int .u8 (m : Int), .slice kp ks.length kc] 35)) (W3.drewN n4) := (hz1.trans (hz23.less fun b hb => .inl hb)).trans (fun b hb => hbd.block b (hy3.lt b (.inl (.inl (.inl hb)))))
  refine ⟨rfl, hBX _ (hz4.less fun b hb => .inr hb), (kept10_any (hLo.kpf (fun b hb1 hb2 => (hbd.block b (hy3.lt b (.inl (.inl (.inr ⟨hb1, hb2⟩))))).trans (hz23 b (.inr ⟨hb1, hb2⟩))) (Nat.le_trans (Nat.le_trans hs2 hs3) hbd.size)) (hx.keep (fun b hb _ => hy4.be.block b hb) (fun b hb hle => Nat.le_trans hwB hle)) hf20 hr10 hb600).mono ?_⟩
  rintro e W5 ⟨rfl, ho⟩
  have hin : ∀ g, (∃ r ∈ f1.l, ∃ x ∈ r.l, g = x.bk) → ((W.alloc (.cells #[.slice dp k dc, .slice wp k wc] 26)).alloc (.cells #[.int .i64 0, .int .i64 wh, .int .i64 nn, .int .i64 at_, sv a, .slice bp b.length bc, .slice fv.po fv.l.length fv.c, .slice np ns.length nc, .bool is, .int .u8 (m : Int), .slice kp ks.length kc] 35)).heap.size ≤ g ∧ g < w1.heap.size := by
   rintro b ⟨r, hr, y, hyr, rfl⟩
   exact ((hLo.rl r hr).ln y hyr).lt
  have hWB : W.heap.size ≤ ((W.alloc (.cells #[.slice dp k dc, .slice wp k wc] 26)).alloc (.cells #[.int .i64 0, .int .i64 wh, .int .i64 nn, .int .i64 at_, sv a, .slice bp b.length bc, .slice fv.po fv.l.length fv.c, .slice np ns.length nc, .bool is, .int .u8 (m : Int), .slice kp ks.length kc] 35)).heap.size := by simp only [size_al]; omega
  have hdl : ∀ b, (Value.slice dp k dc).ownBlock = some b → b < W.heap.size := fun b hb => by
   rcases h.dls.ex with ⟨_, e⟩ | ⟨h0, b', c', e, _, h3⟩
   ·rw [e] at hb; cases hb
   ·rw [e] at hb; cases hb; exact cell_lt2 (h3 0 h0)
  have hwl : ∀ b, (Value.slice wp k wc).ownBlock = some b → b < W.heap.size := fun b hb => by
   rcases h.wls.ex with ⟨_, e⟩ | ⟨h0, b', c', e, _, h3⟩
   ·rw [e] at hb; cases hb
   ·rw [e] at hb; cases hb; exact cell_lt2 (h3 0 h0)
  refine ⟨rfl, rfl, _, hy4.write ho (fun b hb _ => ⟨.inl (.inl (.inl (.inr (hin b hb)))), Nat.le_trans hwB (hin b hb).1⟩) (fun b hb hs => by have := hdl b hb; have := (hin b hs).1; omega) (fun b hb hs => by have := hwl b hb; have := (hin b hs).1; omega), fun b hb => .inl (.inl (.inl (.inl (.inl hb)))), ?_⟩
  refine hz0.trans ((hz4.less fun b hb => .inl hb).trans fun b hb => ho.block b ?_ fun hs => ?_)
  ·exact hy4.lt b (.inl (.inl (.inl (.inl (.inl hb)))))
  ·have := h.lt b hb; have := (hin b hs).1; omega)
 clear hbx hBX hwB hf0 hr10 hb600 hf20 h hen hz0 q1 q2 hx hS hP HM0 hE
 generalize HXt w k p q (comR k fv nn X).2.2 (.slice dp k dc) (.slice wp k wc) Z W = PP at *
 generalize (comR k fv nn X).1 = er at *
 have hee : ((er : Int) == (er : Int)) = true := by simp
 go_enter Tryz.func6, Tryz.ntmps6
 go_wp2_with fail
 refine HL.out.mono ?_
 rintro e w1 ⟨f1, rfl, hLo⟩
 obtain ⟨⟨x0, x1, x2, x6⟩, hP1⟩ := HALL.out f1 w1 hLo
 have HP1 := hid hP1
 clear hLo HALL hP1 HL
 obtain ⟨gpo, gc, R⟩ := f1
 dsimp only [FsV.v] at *
 go_wp2_with fail
 refine HP1.out.mono ?_
 rintro e w2 ⟨v1, rfl, hb2, hP2⟩
 have HP2 := hid hP2
 clear hP2 HP1 x0 x1 x2 x6
 obtain ⟨x0, x1, x2, x6⟩ := hb2
 go_wp2_with fail
 refine HP2.out.mono ?_
 rintro e w3 ⟨v2, rfl, hb3, hP3⟩
 have HP3 := hid hP3
 clear hP3 HP2 x0 x1 x2 x6
 obtain ⟨x0, x1, x2, x6⟩ := hb3
 go_wp2_with fail
 refine HP3.out.mono ?_
 rintro e w4 ⟨rfl, hb4, hP4⟩
 have HP4 := hid hP4
 clear hP4 HP3 x0 x1 x2 x6
 obtain ⟨x0, x1, x2, x6⟩ := hb4
 go_wp2_with fail
 refine HP4.out.mono ?_
 rintro e w5 ⟨rfl, hE5⟩
 have HE5 := hid hE5
 clear hE5 HP4 x0 x1 x2 x6
 go_wp2
 try go_ret
 exact HE5.out
end Go.Proofs.YtfogkegmdgbecaaGreatDoor

/- Acts that came in. -/
namespace Go.Proofs.YtfogkegmdgbecaaGreatDoor
open Go Go.RowKit Go.Shelf

instance : Inhabited AcV := ⟨⟨0, 0, 0, 0, [], none, 0, [], ⟨none, 0, []⟩, none, 0, [], false, 0, none, 0, []⟩⟩
/-- An act that came in. -/
structure AcV.ok (w : World) (x : AcV) : Prop where
 nb : -9223372036854775808 ≤ x.nn ∧ x.nn ≤ 9223372036854775807
 ab : -9223372036854775808 ≤ x.at_ ∧ x.at_ ≤ 9223372036854775807
 al : x.a.length ≤ maxLen
 bt : BAt w x.bp x.b
 b8 : ∀ y ∈ x.b, y < 256
 bl : x.b.length ≤ maxLen
 f : FsA w x.f
 nt : TxO w x.np x.ns
 nn0 : x.np = none → x.ns = [] ∧ x.nc = 0
 nl : ∀ y ∈ x.ns, y.length ≤ maxLen
 nn' : x.ns.length ≤ maxLen
 m8 : x.m < 256
 kt : KAt w (fun _ => False) x.kp x.ks
 kl : x.ks.length ≤ maxLen
def IsAs (w : World) (v : Value) (l : List AcV) : Prop := ∃ po c, v = .slice po l.length c ∧ l.length ≤ maxLen ∧ (l = [] ∨ ∃ b o, po = some ⟨b, o, none⟩ ∧ ∀ i, i < l.length → ∀ j, j < 11 → w.cell? ⟨b, o + i * 11 + j, none⟩ = (l.getD i default).cs[j]?) ∧ ∀ x ∈ l, x.ok w
section
variable {H : Type} {enc : TypeId × Value → H} {w : World} {held : Bool} {fuel : Nat}
theorem slice_len {t e : TypeId} (ht : Tryz.prog.underlying t = some (.slice e)) {po : Option Addr} {n c : Nat} {x : DataW H × List MemPlace} (h : DataW.trod enc Tryz.prog w 0 (fun _ => true) held fuel t [.slice po n c] = some x) : n ≤ maxLen ∧ n ≤ c ∧ (po = none → n = 0 ∧ c = 0) := by
 rcases DataW.trod_slice ht h with ⟨hcs, _⟩ | ⟨ad, l, cc, elems, rest, m, _, hcs, _, _, hl, hm, _⟩
 ·simp at hcs; obtain ⟨e1, e2, e3⟩ := hcs; subst e1 e2 e3; exact ⟨Nat.zero_le _, Nat.le_refl _, fun _ => ⟨rfl, rfl⟩⟩
 ·simp at hcs; obtain ⟨e1, e2, e3⟩ := hcs; subst e1 e2 e3; exact ⟨Nat.le_trans hl hm, hl, fun e => by cases e⟩
/-- Elements of one slice that came in, each read by itself. -/
theorem rows_read {α : Type} [Inhabited α] {t e : TypeId} {sz : Nat} (ht : Tryz.prog.underlying t = some (.slice e)) (hsz : Tryz.prog.cellsOf e = sz) (hs0 : 0 < sz) (val : α → Array Value) (hv : ∀ y, (val y).size = sz) (ok : α → Prop)
  (hr : ∀ {fuel : Nat} {cs : List Value} {x : DataW H × List MemPlace}, DataW.trod enc Tryz.prog w 0 (fun _ => true) held fuel e cs = some x → ∃ y : α, ok y ∧ cs = (val y).toList)
  {cs : List Value} {x : DataW H × List MemPlace} (h : DataW.trod enc Tryz.prog w 0 (fun _ => true) held fuel t cs = some x) :
  ∃ (po : Option Addr) (c : Nat) (l : List α), cs = [.slice po l.length c] ∧ (l = [] ∨ ∃ b o, po = some ⟨b, o, none⟩ ∧ ∀ i, i < l.length → ∀ j, j < sz → w.cell? ⟨b, o + i * sz + j, none⟩ = (val (l.getD i default))[j]?) ∧ ∀ y ∈ l, ok y := by
 rcases DataW.trod_slice ht h with ⟨hcs, _⟩ | ⟨ad, l, c, elems, rest, n, _, hcs, _, _, hl, hc, hlen, hel, _, _⟩
 ·exact ⟨none, 0, [], hcs, .inl rfl, fun y hy => by cases hy⟩
 ·rw [hsz] at hel
  have each : ∀ i, i < l → ∃ y : α, ok y ∧ ∀ j, j < sz → w.cell? ((ad.add (i * sz)).add j) = (val y)[j]? := fun i hi => by
   have h1 := hel i hi
   rw [List.getElem?_eq_getElem (by omega)] at h1
   obtain ⟨ds, hc1, hc2⟩ := Option.bind_eq_some_iff.1 h1
   obtain ⟨y, hy, rfl⟩ := hr hc2
   obtain ⟨_, _, hcell⟩ := World.cells?_some hc1
   exact ⟨y, hy, fun j hj => by rw [hcell j hj]; simp⟩
  by_cases h0 : l = 0
  ·subst h0
   exact ⟨some ad, c, [], hcs, .inl rfl, fun y hy => by cases hy⟩
  obtain ⟨y0, hy0, h00⟩ := each 0 (by omega)
  obtain ⟨b, o, rfl⟩ : ∃ b o, ad = ⟨b, o, none⟩ := by
   have h00 := h00 0 hs0
   rw [Nat.zero_mul, add_zero', add_zero'] at h00
   exact plain_at ad w (by rw [h00, Array.getElem?_eq_getElem (by rw [hv]; exact hs0)]; simp)
  have each2 : ∀ i, i < l → ∃ y : α, ok y ∧ ∀ j, j < sz → w.cell? ⟨b, o + i * sz + j, none⟩ = (val y)[j]? := fun i hi => by
   obtain ⟨y, h1, h2⟩ := each i hi
   exact ⟨y, h1, fun j hj => by have := h2 j hj; rw [add_none, add_none] at this; exact this⟩
  obtain ⟨g, hg⟩ : ∃ g : Nat → α, ∀ i, i < l → ok (g i) ∧ ∀ j, j < sz → w.cell? ⟨b, o + i * sz + j, none⟩ = (val (g i))[j]? :=
   ⟨fun i => if h : i < l then (each2 i h).choose else y0, fun i hi => by dsimp only; rw [dif_pos hi]; exact (each2 i hi).choose_spec⟩
  refine ⟨some ⟨b, o, none⟩, c, (List.range l).map g, by simpa using hcs, .inr ⟨b, o, rfl, fun i hi => ?_⟩, fun y hy => ?_⟩
  ·have hi' : i < l := by simpa using hi
   have e : ((List.range l).map g).getD i default = g i := by rw [getD_in _ _ _ hi]; simp
   rw [e]
   exact (hg i hi').2
  ·obtain ⟨i, hi, rfl⟩ := List.mem_map.1 hy
   exact (hg i (by simpa using hi)).1
theorem text_read {cs : List Value} {x : DataW H × List MemPlace} (h : DataW.trod enc Tryz.prog w 0 (fun _ => true) held fuel 9 cs = some x) : ∃ y : Nm, y.length ≤ maxLen ∧ cs = (#[sv y]).toList := by
 obtain ⟨s, e, _, hs⟩ := DataW.trod_string Tryz.underlying9 h
 exact ⟨s.data.toList, by rw [Array.length_toList]; exact hs, by rw [e]⟩
theorem texts_read10 {cs : List Value} {x : DataW H × List MemPlace} (h : DataW.trod enc Tryz.prog w 0 (fun _ => true) held fuel 32 cs = some x) : ∃ (po : Option Addr) (c : Nat) (ns : List Nm), cs = [.slice po ns.length c] ∧ TxO w po ns ∧ ∀ y ∈ ns, y.length ≤ maxLen := by
 obtain ⟨po, c, l, hcs, hc, hl⟩ := rows_read (sz := 1) Tryz.underlying32 (by kernel_rfl) (by decide) (fun y : Nm => #[sv y]) (fun _ => rfl) (fun y => y.length ≤ maxLen) (fun h => text_read h) h
 refine ⟨po, c, l, hcs, hc.imp id ?_, hl⟩
 rintro ⟨b, o, e, h⟩
 refine ⟨b, o, e, fun i hi => ?_⟩
 have := h i hi 0 (by decide)
 rw [Nat.mul_one, Nat.add_zero] at this
 exact this
set_option maxRecDepth 100000 in
theorem file_read10 {cs : List Value} {x : DataW H × List MemPlace} (h : DataW.trod enc Tryz.prog w 0 (fun _ => true) held fuel 47 cs = some x) : ∃ y : FlV, FlA w y ∧ cs = (#[sv y.nm, y.bv]).toList := by
 obtain ⟨xs, n, _, _, hcl, hxl, hf⟩ := DataW.trod_struct Tryz.underlying47 h
 have h2 : cs.length = 2 := by rw [hcl]; kernel_rfl
 have hx2 : xs.length = 2 := by rw [hxl]; rfl
 have k9 : Tryz.prog.cellsOf 9 = 1 := by kernel_rfl
 have kR : Tryz.prog.cellsOf 30 = 1 := by kernel_rfl
 match cs, h2, xs, hx2 with
 | [c0, c1], _, [y0, y1], _ =>
  have f0 : DataW.trod enc Tryz.prog w 0 (fun _ => true) held n 9 (([c0, c1].drop 0).take (Tryz.prog.cellsOf 9)) = some y0 := hf 0 _ rfl
  rw [k9] at f0
  have f1 : DataW.trod enc Tryz.prog w 0 (fun _ => true) held n 30 (([c0, c1].drop 1).take (Tryz.prog.cellsOf 30)) = some y1 := hf 1 _ rfl
  rw [kR] at f1
  obtain ⟨s0, e0, _, w0⟩ := DataW.trod_string Tryz.underlying9 f0
  obtain ⟨p1, q1, b1, e1, w1, v1⟩ := bytes_read f1
  have hl := slice_len Tryz.underlying30 (by rw [← e1]; exact f1)
  simp at e0 e1
  subst e0 e1
  exact ⟨⟨s0.data.toList, p1, q1, b1⟩, ⟨by rw [Array.length_toList]; exact w0, hl.1, v1, w1⟩, rfl⟩
theorem frow_read10 {cs : List Value} {x : DataW H × List MemPlace} (h : DataW.trod enc Tryz.prog w 0 (fun _ => true) held fuel 45 cs = some x) : ∃ y : RowV, RwA w y ∧ cs = (#[y.v]).toList := by
 obtain ⟨po, c, l, hcs, hc, hl⟩ := rows_read (sz := 2) Tryz.underlying45 (by kernel_rfl) (by decide) (fun y : FlV => #[sv y.nm, y.bv]) (fun _ => rfl) (FlA w) (fun h => file_read10 h) h
 have hn := slice_len Tryz.underlying45 (by rw [← hcs]; exact h)
 refine ⟨⟨po, c, l⟩, ⟨hc.imp id ?_, hl, hn.2.1, hn.1⟩, hcs⟩
 rintro ⟨b, o, e, h⟩
 exact ⟨b, o, e, trivial, fun j hj => ⟨h j hj 0 (by decide), h j hj 1 (by decide)⟩⟩
theorem files_read10 {cs : List Value} {x : DataW H × List MemPlace} (h : DataW.trod enc Tryz.prog w 0 (fun _ => true) held fuel 31 cs = some x) : ∃ y : FsV, FsA w y ∧ cs = [y.v] := by
 obtain ⟨po, c, l, hcs, hc, hl⟩ := rows_read (sz := 1) Tryz.underlying31 (by kernel_rfl) (by decide) (fun y : RowV => #[y.v]) (fun _ => rfl) (RwA w) (fun h => frow_read10 h) h
 have hn := slice_len Tryz.underlying31 (by rw [← hcs]; exact h)
 refine ⟨⟨po, c, l⟩, ⟨hc.imp id ?_, hl, hn.1⟩, hcs⟩
 rintro ⟨b, o, e, h⟩
 refine ⟨b, o, e, fun i hi => ?_⟩
 have := h i hi 0 (by decide)
 rw [Nat.mul_one, Nat.add_zero] at this
 exact this
set_option maxRecDepth 100000 in
theorem act_read10 {cs : List Value} {x : DataW H × List MemPlace} (h : DataW.trod enc Tryz.prog w 0 (fun _ => true) held fuel 35 cs = some x) : ∃ y : AcV, y.ok w ∧ cs = y.cs.toList := by
 obtain ⟨xs, n, _, _, hcl, hxl, hf⟩ := DataW.trod_struct Tryz.underlying35 h
 have hc : cs.length = 11 := by rw [hcl]; kernel_rfl
 have hx : xs.length = 11 := by rw [hxl]; rfl
 have k0 : Tryz.prog.cellsOf 3 = 1 := by kernel_rfl
 have k1 : Tryz.prog.cellsOf 9 = 1 := by kernel_rfl
 have k2 : Tryz.prog.cellsOf 30 = 1 := by kernel_rfl
 have k3 : Tryz.prog.cellsOf 31 = 1 := by kernel_rfl
 have k4 : Tryz.prog.cellsOf 32 = 1 := by kernel_rfl
 have k5 : Tryz.prog.cellsOf 4 = 1 := by kernel_rfl
 have k6 : Tryz.prog.cellsOf 5 = 1 := by kernel_rfl
 have k7 : Tryz.prog.cellsOf 33 = 1 := by kernel_rfl
 match cs, hc, xs, hx with
 | [c0, c1, c2, c3, c4, c5, c6, c7, c8, c9, c10], _, [y0, y1, y2, y3, y4, y5, y6, y7, y8, y9, y10], _ =>
  have f0 : DataW.trod enc Tryz.prog w 0 (fun _ => true) held n 3 (([c0, c1, c2, c3, c4, c5, c6, c7, c8, c9, c10].drop 0).take (Tryz.prog.cellsOf 3)) = some y0 := hf 0 _ rfl
  rw [k0] at f0
  have f1 : DataW.trod enc Tryz.prog w 0 (fun _ => true) held n 3 (([c0, c1, c2, c3, c4, c5, c6, c7, c8, c9, c10].drop 1).take (Tryz.prog.cellsOf 3)) = some y1 := hf 1 _ rfl
  rw [k0] at f1
  have f2 : DataW.trod enc Tryz.prog w 0 (fun _ => true) held n 3 (([c0, c1, c2, c3, c4, c5, c6, c7, c8, c9, c10].drop 2).take (Tryz.prog.cellsOf 3)) = some y2 := hf 2 _ rfl
  rw [k0] at f2
  have f3 : DataW.trod enc Tryz.prog w 0 (fun _ => true) held n 3 (([c0, c1, c2, c3, c4, c5, c6, c7, c8, c9, c10].drop 3).take (Tryz.prog.cellsOf 3)) = some y3 := hf 3 _ rfl
  rw [k0] at f3
  have f4 : DataW.trod enc Tryz.prog w 0 (fun _ => true) held n 9 (([c0, c1, c2, c3, c4, c5, c6, c7, c8, c9, c10].drop 4).take (Tryz.prog.cellsOf 9)) = some y4 := hf 4 _ rfl
  rw [k1] at f4
  have f5 : DataW.trod enc Tryz.prog w 0 (fun _ => true) held n 30 (([c0, c1, c2, c3, c4, c5, c6, c7, c8, c9, c10].drop 5).take (Tryz.prog.cellsOf 30)) = some y5 := hf 5 _ rfl
  rw [k2] at f5
  have f6 : DataW.trod enc Tryz.prog w 0 (fun _ => true) held n 31 (([c0, c1, c2, c3, c4, c5, c6, c7, c8, c9, c10].drop 6).take (Tryz.prog.cellsOf 31)) = some y6 := hf 6 _ rfl
  rw [k3] at f6
  have f7 : DataW.trod enc Tryz.prog w 0 (fun _ => true) held n 32 (([c0, c1, c2, c3, c4, c5, c6, c7, c8, c9, c10].drop 7).take (Tryz.prog.cellsOf 32)) = some y7 := hf 7 _ rfl
  rw [k4] at f7
  have f8 : DataW.trod enc Tryz.prog w 0 (fun _ => true) held n 4 (([c0, c1, c2, c3, c4, c5, c6, c7, c8, c9, c10].drop 8).take (Tryz.prog.cellsOf 4)) = some y8 := hf 8 _ rfl
  rw [k5] at f8
  have f9 : DataW.trod enc Tryz.prog w 0 (fun _ => true) held n 5 (([c0, c1, c2, c3, c4, c5, c6, c7, c8, c9, c10].drop 9).take (Tryz.prog.cellsOf 5)) = some y9 := hf 9 _ rfl
  rw [k6] at f9
  have f10 : DataW.trod enc Tryz.prog w 0 (fun _ => true) held n 33 (([c0, c1, c2, c3, c4, c5, c6, c7, c8, c9, c10].drop 10).take (Tryz.prog.cellsOf 33)) = some y10 := hf 10 _ rfl
  rw [k7] at f10
  obtain ⟨z0, e0, _, w0⟩ := DataW.trod_int Tryz.underlying3 f0
  obtain ⟨z1, e1, _, w1⟩ := DataW.trod_int Tryz.underlying3 f1
  obtain ⟨z2, e2, _, w2⟩ := DataW.trod_int Tryz.underlying3 f2
  obtain ⟨z3, e3, _, w3⟩ := DataW.trod_int Tryz.underlying3 f3
  obtain ⟨s4, e4, _, w4⟩ := DataW.trod_string Tryz.underlying9 f4
  obtain ⟨p5, q5, b5, e5, w5, v5⟩ := bytes_read f5
  have l5 := slice_len Tryz.underlying30 (by rw [← e5]; exact f5)
  obtain ⟨g6, w6, e6⟩ := files_read10 f6
  obtain ⟨p7, q7, n7, e7, w7, v7⟩ := texts_read10 f7
  have l7 := slice_len Tryz.underlying32 (by rw [← e7]; exact f7)
  obtain ⟨b8, e8, _⟩ := DataW.trod_bool Tryz.underlying4 f8
  obtain ⟨z9, e9, _, w9⟩ := DataW.trod_int Tryz.underlying5 f9
  obtain ⟨p10, q10, b10, e10, w10⟩ := bools_read f10
  have l10 := slice_len Tryz.underlying33 (by rw [← e10]; exact f10)
  simp at e0 e1 e2 e3 e4 e5 e6 e7 e8 e9 e10
  subst e0 e1 e2 e3 e4 e5 e6 e7 e8 e9 e10
  have b9 := bounds_u8 w9
  obtain ⟨m9, rfl⟩ : ∃ a : Nat, z9 = (a : Int) := ⟨z9.toNat, by omega⟩
  exact ⟨⟨z0, z1, z2, z3, s4.data.toList, p5, q5, b5, g6, p7, q7, n7, b8, m9, p10, q10, b10⟩, ⟨wf64 w2, wf64 w3, by rw [Array.length_toList]; exact w4, w5, v5, l5.1, w6, w7, fun e => ⟨List.length_eq_zero_iff.1 (l7.2.2 e).1, (l7.2.2 e).2⟩, v7, l7.1, show m9 < 256 by omega, w10, l10.1⟩, rfl⟩
theorem acts_read10 {cs : List Value} {x : DataW H × List MemPlace} (h : DataW.trod enc Tryz.prog w 0 (fun _ => true) held fuel 22 cs = some x) : ∃ v l, cs = [v] ∧ IsAs w v l := by
 obtain ⟨po, c, l, hcs, hc, hl⟩ := rows_read (sz := 11) Tryz.underlying22 (by kernel_rfl) (by decide) (fun y : AcV => y.cs) (fun _ => rfl) (AcV.ok w) (fun h => act_read10 h) h
 have hn := slice_len Tryz.underlying22 (by rw [← hcs]; exact h)
 exact ⟨_, l, hcs, po, c, rfl, hn.1, hc, hl⟩
end
end Go.Proofs.YtfogkegmdgbecaaGreatDoor

/- call and happens of FanScript: any act; how much drives may grow by it. -/
namespace Go.Proofs.YtfogkegmdgbecaaGreatDoor
open Go Go.RowKit Go.Shelf

/-- What call makes of drives. -/
def calS (k : Nat) (x : AcV) (X : FS) : FS :=
 if x.kd = 0 then (comR k x.f x.nn X).2.2 else if x.kd = 2 then (delR k x.ns X).2.2 else if x.kd = 3 then (clnR k x.a X).2.2 else X
/-- What happens makes of drives. -/
def hapS (k : Nat) (x : AcV) (X : FS) : FS :=
 if x.kd = 9 then ⟨crD x.ks k X.d, none⟩
 else if x.kd = 10 then (if x.nn < 0 then X else ⟨fun i => (X.d i).lit X.f, some (x.nn.toNat, false)⟩)
 else if k = 0 then X
 else if x.kd = 4 then ⟨upd X.d (pkN x.wh k) (finR x.ns (X.d (pkN x.wh k)) X.f).2.1, (finR x.ns (X.d (pkN x.wh k)) X.f).2.2⟩
 else if x.kd = 6 then ⟨upd X.d (pkN x.wh k) { X.d (pkN x.wh k) with offl := x.is }, X.f⟩
 else if x.kd = 7 then ⟨upd X.d (pkN x.wh k) { X.d (pkN x.wh k) with full := x.is }, X.f⟩
 else if x.kd = 8 then ⟨upd X.d (pkN x.wh k) ((X.d (pkN x.wh k)).turn x.a x.at_ x.m).2, X.f⟩
 else if x.kd = 11 then ⟨upd X.d (pkN x.wh k) ((X.d (pkN x.wh k)).write X.f x.a x.b).2.1, ((X.d (pkN x.wh k)).write X.f x.a x.b).2.2⟩
 else X
theorem pms_calS {k n : Nat} {x : AcV} {X : FS} (h : Pms n k X.d) : Pms (n + 64) k (calS k x X).d := by
 unfold calS
 split
 ·exact pm_comR k x.f x.nn X h
 ·split
  ·exact (pm_delR k x.ns X h).mono (by omega)
  ·split
   ·exact (pm_clnR k x.a X h).mono (by omega)
   ·exact h.mono (by omega)
theorem pms_hapS {k n : Nat} {x : AcV} {X : FS} (h : Pms n k X.d) : Pms (n + 256) k (hapS k x X).d := by
 unfold hapS
 split
 ·intro j hj
  show Pm (n + 256) (crD x.ks k X.d j)
  unfold crD
  rw [if_pos hj]
  exact (pm_crash (h j hj) _).mono (by omega)
 ·split
  ·split
   ·exact h.mono (by omega)
   ·exact fun j hj => (show Pm n ((X.d j).lit X.f) from h j hj).mono (by omega)
  ·split
   ·exact h.mono (by omega)
   ·rename_i h0
    have hi := pkN_lt x.wh k (by omega)
    split
    ·exact (h.mono (by omega)).upd (pm_finR x.ns X.f (h _ hi))
    ·split
     ·exact (h.mono (by omega)).upd ((show Pm n { X.d (pkN x.wh k) with offl := x.is } from h _ hi).mono (by omega))
     ·split
      ·exact (h.mono (by omega)).upd ((show Pm n { X.d (pkN x.wh k) with full := x.is } from h _ hi).mono (by omega))
      ·split
       ·exact (h.mono (by omega)).upd ((pm_turn (h _ hi) _ _ _).mono (by omega))
       ·split
        ·exact (h.mono (by omega)).upd ((pm_write (h _ hi) _ _ _).mono (by omega))
        ·exact h.mono (by omega)
section
variable {w W : World} {k : Nat} {p q : Nat → Nat} {X : FS} {dv wv : Value} {Z : Nat → Prop}
theorem HXt.below {Q : Ending → World → Prop} (h : FY w k p q X X dv wv Z W) (hc : ∀ e w', Q e w' → e = .returned (.bool true) ∧ Below W.heap.size W w') : ∀ e w', Q e w' → HXt w k p q X dv wv Z W e w' := fun e w' hq => by
 obtain ⟨h1, h2⟩ := hc e w' hq
 exact ⟨h1, Z, (h.below h2).less (fun _ hz => .inl hz), fun _ hz => hz, h.keeps h2⟩
theorem call_act (h : FY w k p q X X dv wv Z W) (hk : k ≤ 18) (hE : Erh w) {nB : Nat} (hP : Pms nB k X.d) (hnB : nB ≤ 40000) (x : AcV) (hx : x.ok w) (hS : AcS x) :
  Calls Tryz.prog 6 #[.agg #[dv, wv], x.v] W (HXt w k p q (calS k x X) dv wv Z W) := by
 have hB : ∀ i, i < k → (X.d i).F.length ≤ 50000 := fun i hi => by have := hP i hi; unfold Pm at this; omega
 have hB2 : ∀ i, i < k → Bnd 800000 800000000 (X.d i) := fun i hi => by have := hP i hi; unfold Pm at this; exact ⟨by omega, by omega⟩
 have hB3 : ∀ i, i < k → Bnd 10000000000 10000000000 (X.d i) := fun i hi => by have := hP i hi; unfold Pm at this; exact ⟨by omega, by omega⟩
 unfold calS
 split
 ·rename_i h5
  refine call_commit h hk x h5 hE hP hnB (hx.f.ok fun r hr y hy => ?_) hS
  obtain ⟨i, hi, rfl⟩ := List.mem_iff_getElem.1 hr
  obtain ⟨j, hj, rfl⟩ := List.mem_iff_getElem.1 hy
  have := (hS.rl i hi).2 j (by rw [getD_in _ _ _ hi]; exact hj)
  rw [getD_in _ _ _ hi, getD_in _ _ _ hj] at this
  omega
 ·split
  ·rename_i h5
   exact call_delete h hk x h5 hE hP hnB hx.nt hx.nn0 hx.nl (by have := hS.nl; omega)
  ·split
   ·rename_i h5
    exact call_clean h hk hE hB2 hB3 x h5 (by have := hS.al; omega)
   ·by_cases e1 : x.kd = 1
    ·exact (call_read h hk hE hB x e1 hx.al).mono (HXt.below h fun _ _ h => h)
    ·by_cases e5 : x.kd = 5
     ·refine (call_names h hk hE hB x e5 ?_).mono (HXt.below h fun _ _ h => h)
      unfold nmR
      split
      ·have := wths_len (nmA X x.a k) []
       have h2 := nmA_len (X := X) (s := x.a) (a := 40000) k (fun j hj => by have := hP j hj; unfold Pm at this; omega)
       have h3 : 40000 * k ≤ 40000 * 18 := Nat.mul_le_mul_left _ hk
       simp only [List.length_nil, Nat.zero_add] at this
       omega
      ·simp
     ·exact (call_none W dv wv x ‹_› e1 ‹_› ‹_› e5).mono (HXt.below h fun _ _ h => h)
theorem happens_act (h : FY w k p q X X dv wv Z W) (hk : k ≤ 18) {nB : Nat} (hP : Pms nB k X.d) (hnB : nB ≤ 40000) (x : AcV) (hx : x.ok w) (hS : AcS x) :
  Calls Tryz.prog 7 #[.agg #[dv, wv], x.v] W (HXt w k p q (hapS k x X) dv wv Z W) := by
 have hbl : x.b.length ≤ 1000000 := by have := hS.bl; omega
 have hnl : x.ns.length ≤ 1000000 := by have := hS.nl; omega
 have hkl : x.ks.length ≤ 1000000 := by have := hS.kl; omega
 unfold hapS
 split
 ·rename_i h5
  rcases Nat.eq_zero_or_pos k with e | h0
  ·subst e; exact happens_crash0 h x h5
  ·exact happens_crash h hk h0 hP hnB x h5 hx.kt hkl
 ·split
  ·rename_i h5
   split
   ·rename_i hn; exact happens_unfuse h hk x h5 hn
   ·rename_i hn; exact happens_fuse h hk x h5 (by omega) hx.nb.2
  ·rename_i e9 e10
   split
   ·rename_i e0; exact happens_none h hk x e9 e10 (.inl e0)
   ·rename_i e0
    have h0 : 0 < k := by omega
    split
    ·rename_i h5; exact happens_finish h hk h0 hP hnB x h5 hx.nt hx.nn0 hx.nl hnl
    ·split
     ·rename_i h5; exact happens_off h hk h0 x h5
     ·split
      ·rename_i h5; exact happens_full h hk h0 x h5
      ·split
       ·rename_i h5; exact happens_turn h hk h0 hP hnB x h5 hx.al hx.ab hx.m8
       ·split
        ·rename_i h5; exact happens_write h hk h0 hP hnB x h5 hx.al hx.bt hbl hx.b8
        ·exact happens_none h hk x e9 e10 (.inr ⟨‹_›, ‹_›, ‹_›, ‹_›, ‹_›⟩)
end
end Go.Proofs.YtfogkegmdgbecaaGreatDoor

/- What FanScript's loop carries, and each of its calls over it. -/
namespace Go.Proofs.YtfogkegmdgbecaaGreatDoor
open Go Go.RowKit Go.Shelf

/-- Drives and the document's beside one another, behind n changes at most; the statement's own variable, which holds them, is at bx. -/
structure LoF (w : World) (k : Nat) (p q : Nat → Nat) (bx : Nat) (dv wv : Value) (n : Nat) (W : World) : Prop where
 ex : ∃ X Z, FY w k p q X X dv wv Z W ∧ Z bx ∧ Pms n k X.d
 ca : CAt W bx #[dv, wv] 26
section
variable {w W W' : World} {k : Nat} {p q : Nat → Nat} {bx n : Nat} {dv wv : Value}
theorem LoF.be (h : LoF w k p q bx dv wv n W) : Below w.heap.size w W := by obtain ⟨X, Z, hf, _⟩ := h.ex; exact hf.be
theorem LoF.below (h : LoF w k p q bx dv wv n W) (hb : Below W.heap.size W W') : LoF w k p q bx dv wv n W' := by
 obtain ⟨X, Z, hf, hz, hp⟩ := h.ex
 exact ⟨⟨X, _, hf.below hb, .inl hz, hp⟩, h.ca.below hb⟩
theorem LoF.call (h : LoF w k p q bx dv wv n W) (hk : k ≤ 18) (hE : Erh w) (hn : n ≤ 40000) (x : AcV) (hx : x.ok w) (hS : AcS x) :
  Calls Tryz.prog 6 #[.agg #[dv, wv], x.v] W fun e w' => e = .returned (.bool true) ∧ LoF w k p q bx dv wv (n + 64) w' := by
 obtain ⟨X, Z, hf, hz, hp⟩ := h.ex
 refine (call_act hf hk hE hp hn x hx hS).mono ?_
 rintro e w' ⟨h1, Z', h2, h3, h4⟩
 exact ⟨h1, ⟨_, Z', h2, h3 bx hz, pms_calS hp⟩, h.ca.keep (h4 bx hz)⟩
theorem LoF.happens (h : LoF w k p q bx dv wv n W) (hk : k ≤ 18) (hn : n ≤ 40000) (x : AcV) (hx : x.ok w) (hS : AcS x) :
  Calls Tryz.prog 7 #[.agg #[dv, wv], x.v] W fun e w' => e = .returned (.bool true) ∧ LoF w k p q bx dv wv (n + 256) w' := by
 obtain ⟨X, Z, hf, hz, hp⟩ := h.ex
 refine (happens_act hf hk hp hn x hx hS).mono ?_
 rintro e w' ⟨h1, Z', h2, h3, h4⟩
 exact ⟨h1, ⟨_, Z', h2, h3 bx hz, pms_hapS hp⟩, h.ca.keep (h4 bx hz)⟩
theorem LoF.told (h : LoF w k p q bx dv wv n W) (hk : k ≤ 18) (hn : n ≤ 40000) :
  Calls Tryz.prog 8 #[.agg #[dv, wv]] W fun e w' => e = .returned (.bool true) ∧ LoF w k p q bx dv wv n w' := by
 obtain ⟨X, Z, hf, hz, hp⟩ := h.ex
 refine (told10_any hf hk fun i hi => by have := hp i hi; unfold Pm at this; omega).mono ?_
 rintro e w' ⟨h1, h2⟩
 exact ⟨h1, h.below h2⟩
theorem LoF.large (h : LoF w k p q bx dv wv n W) (x : AcV) (hx : x.ok w) :
  Calls Tryz.prog 5 #[x.v] W fun e w' => ∃ r : Bool, e = .returned (.bool r) ∧ LoF w k p q bx dv wv n w' ∧ (r = false → AcS x) := by
 refine (large10_any (hx.f.below h.be) hx.al hx.bl hx.nn' hx.kl).mono ?_
 rintro e w' ⟨r, h1, h2, h3⟩
 exact ⟨r, h1, h.below h2, h3⟩
/-- Behind drives: the answer is laid into a variable. -/
theorem LoF.start {sz : Nat} {Z : Nat → Prop} (h : FY w k p q ⟨fun _ => fresh sz, none⟩ ⟨fun _ => fresh sz, none⟩ dv wv Z W) :
  LoF w k p q W.heap.size dv wv 0 (W.alloc (.cells #[dv, wv] 26)) := by
 have hb : Below W.heap.size W (W.alloc (.cells #[dv, wv] 26)) := (Below.refl _ _).alloc (Nat.le_refl _) _
 refine ⟨⟨_, _, h.below hb, .inr ⟨Nat.le_refl _, by simp⟩, fun j _ => ?_⟩, CAt.made _ _ _⟩
 show (fresh sz).ops + (fresh sz).F.length ≤ 0
 exact Nat.le_refl _
end
end Go.Proofs.YtfogkegmdgbecaaGreatDoor
