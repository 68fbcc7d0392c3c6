/- Texts laid into one, cut to what is needed: the remark ahead of each part says what is proved there. -/
import Derived.Test.YtfogkegmdgbecaaGreatDoorPbg
import Derived.Test.YtfogkegmdgbecaaGreatDoorPbh
import Derived.Test.YtfogkegmdgbecaaGreatDoorPax
import Derived.Test.YtfogkegmdgbecaaGreatDoorPaw
import Derived.Test.YtfogkegmdgbecaaGreatDoorPav
/- call of FanScript: Read. -/
namespace Go.Proofs.YtfogkegmdgbecaaGreatDoor
open Go Go.RowKit Go.Shelf
set_option maxHeartbeats 8000000 in
set_option maxRecDepth 100000 in
theorem call_read {w W : World} {k : Nat} {p q : Nat → Nat} {X : FS} {dv wv : Value} {Z : Nat → Prop} (h : FY w k p q X X dv wv Z W) (hk : k ≤ 18) (hE : Erh w) (hB : ∀ i, i < k → (X.d i).F.length ≤ 50000) (x : AcV) (h5 : x.kd = 1) (ha : x.a.length ≤ maxLen) :
  Calls Tryz.prog 6 #[.agg #[dv, wv], x.v] W fun e w' => e = .returned (.bool true) ∧ Below W.heap.size W w' := by
 obtain ⟨kd, wh, nn, at_, a, bp, bc, b, ⟨fpo, fc, rows⟩, np, nc, ns, is, m, kp, kc, ks⟩ := x
 dsimp only [AcV.v, AcV.cs, FsV.v] at *
 subst h5
 have HP : Hid (∀ W', Below W.heap.size W W' → Calls Tryz.prog 16 #[dv, sv a] W' (RdAt W' k X a)) := hid (fun W' hb => by
  obtain ⟨T, U, h1, h2, h3, h4, h5, h6⟩ := (h.below hb).ex
  exact fread_any h1 (h4.keep (fun _ _ _ => rfl) (fun _ _ h => .inl h)) (by omega) hE a ha)
 have HR : Hid (∀ W', Below W.heap.size W W' → Calls Tryz.prog 17 #[wv, sv a] W' (RdO W' k X a)) := hid (fun W' hb => by
  obtain ⟨T, U, h1, h2, h3, h4, h5, h6⟩ := (h.below hb).ex
  exact rfread_any h2 (h5.keep (fun _ _ _ => rfl) (fun _ _ h => .inr h)) (by omega) (fun i hi => h.fine hi) hB a ha)
 have HB : Hid (∀ o1 o2, Below W.heap.size W ((W.alloc o1).alloc o2)) := hid (fun o1 o2 => ((Below.refl W.heap.size W).alloc (Nat.le_refl _) _).alloc (by simp only [size_al]; omega) _)
 have HCP : Hid (∀ w1 w2 v1 v2 B1_ B3_, ((rdN k X a ≠ 0 ∧ v1 = .slice none 0 0) ∨ (rdN k X a = 0 ∧ ∃ g, B1_ ≤ g ∧ v1 = .slice (some ⟨g, 0, none⟩) k k ∧ CpL B1_ w1 g k k (fun j => (X.d j).readE X.f a) (fun j => (X.d j).readB X.f a))) → Below w1.heap.size w1 w2 → ((rdN k X a ≠ 0 ∧ v2 = .slice none 0 0) ∨ (rdN k X a = 0 ∧ CqL B3_ w2 v2 k (fun j => (X.d j).readE X.f a) (fun j => (X.d j).readB X.f a))) → Calls Tryz.prog 18 #[v1, v2] w2 fun e w' => e = .returned (.bool true) ∧ Below w2.heap.size w2 w') := hid (fun w1 w2 v1 v2 B1_ B3_ q1 hb q2 => by
  refine lcopies_any (k := k) (E := fun j => (X.d j).readE X.f a) (Bs := fun j => (X.d j).readB X.f a) ?_ (by omega)
  rcases q1 with ⟨n1, e1⟩ | ⟨n1, g, _, e1, c1⟩
  ·rcases q2 with ⟨_, e2⟩ | ⟨n2, _⟩
   ·exact .inl ⟨e1, e2⟩
   ·exact absurd n2 n1
  ·rcases q2 with ⟨n2, _⟩ | ⟨_, c2⟩
   ·exact absurd n1 n2
   ·exact .inr ⟨g, B1_, B3_, e1, c1.below hb, c2⟩)
 obtain ⟨dp, dc, hdv⟩ := h.dls.form
 obtain ⟨wp, wc, hwv⟩ := h.wls.form
 clear h hB hE ha
 subst hdv
 subst hwv
 have e1 : (W.alloc (.cells #[.slice dp k dc, .slice wp k wc] 26)).heap.size = W.heap.size + 1 := by simp
 have hb2 : Below (W.heap.size + 1) (W.alloc (.cells #[.slice dp k dc, .slice wp k wc] 26)) ((W.alloc (.cells #[.slice dp k dc, .slice wp k wc] 26)).alloc (.cells #[.int .i64 1, .int .i64 wh, .int .i64 nn, .int .i64 at_, sv a, .slice bp b.length bc, .slice fpo rows.length fc, .slice np ns.length nc, .bool is, .int .u8 (m : Int), .slice kp ks.length kc] 35)) := e1 ▸ (Below.refl _ _).alloc (Nat.le_refl _) _
 have c1 : ((W.alloc (.cells #[.slice dp k dc, .slice wp k wc] 26)).alloc (.cells #[.int .i64 1, .int .i64 wh, .int .i64 nn, .int .i64 at_, sv a, .slice bp b.length bc, .slice fpo rows.length fc, .slice np ns.length nc, .bool is, .int .u8 (m : Int), .slice kp ks.length kc] 35)).cell? ⟨W.heap.size, 1, none⟩ = some (.slice wp k wc) := (World.cell?_of_block (a := ⟨W.heap.size, 1, none⟩) (hb2.block W.heap.size (by omega))).trans ((CAt.made W _ _).cell 1)
 have c2 : ((W.alloc (.cells #[.slice dp k dc, .slice wp k wc] 26)).alloc (.cells #[.int .i64 1, .int .i64 wh, .int .i64 nn, .int .i64 at_, sv a, .slice bp b.length bc, .slice fpo rows.length fc, .slice np ns.length nc, .bool is, .int .u8 (m : Int), .slice kp ks.length kc] 35)).cell? ⟨W.heap.size + 1, 4, none⟩ = some (sv a) := e1 ▸ (CAt.made (W.alloc (.cells #[.slice dp k dc, .slice wp k wc] 26)) #[.int .i64 1, .int .i64 wh, .int .i64 nn, .int .i64 at_, sv a, .slice bp b.length bc, .slice fpo rows.length fc, .slice np ns.length nc, .bool is, .int .u8 (m : Int), .slice kp ks.length kc] 35).cell 4
 have HC : Hid (∀ w', Below ((W.alloc (.cells #[.slice dp k dc, .slice wp k wc] 26)).alloc (.cells #[.int .i64 1, .int .i64 wh, .int .i64 nn, .int .i64 at_, sv a, .slice bp b.length bc, .slice fpo rows.length fc, .slice np ns.length nc, .bool is, .int .u8 (m : Int), .slice kp ks.length kc] 35)).heap.size ((W.alloc (.cells #[.slice dp k dc, .slice wp k wc] 26)).alloc (.cells #[.int .i64 1, .int .i64 wh, .int .i64 nn, .int .i64 at_, sv a, .slice bp b.length bc, .slice fpo rows.length fc, .slice np ns.length nc, .bool is, .int .u8 (m : Int), .slice kp ks.length kc] 35)) w' → w'.cell? ⟨W.heap.size, 1, none⟩ = some (.slice wp k wc) ∧ w'.cell? ⟨W.heap.size + 1, 4, none⟩ = some (sv a)) := hid (fun w' hb => ⟨(World.cell?_of_block (a := ⟨W.heap.size, 1, none⟩) (hb.block _ (cell_lt2 c1))).trans c1, (World.cell?_of_block (a := ⟨W.heap.size + 1, 4, none⟩) (hb.block _ (cell_lt2 c2))).trans c2⟩)
 clear c1 c2 hb2 e1
 go_enter Tryz.func6, Tryz.ntmps6
 go_wp2_with fail
 refine (HP.out _ (HB.out _ _)).mono ?_
 rintro e w1 ⟨v1, rfl, hb1, ht1⟩
 have hc1 := HC.out w1 hb1
 obtain ⟨hc2, hc3⟩ := hc1
 have HB1 := hid (below_on _ _ (HB.out _ _) hb1)
 have HT1 := hid ht1
 clear ht1 hb1 HC HP HB
 go_wp2_with fail
 refine (HR.out _ HB1.out).mono ?_
 rintro e w2 ⟨v2, rfl, hb2, ht2⟩
 have HB2 := hid (below_on _ _ HB1.out hb2)
 have HC2 := hid (HCP.out w1 w2 v1 v2 _ _ HT1.out hb2 ht2)
 clear ht2 hb2 HR HT1 HCP
 generalize rdN k X a = E at *
 go_wp2_with fail
 refine HC2.out.mono ?_
 rintro e w3 ⟨rfl, hb3⟩
 have HB3 := hid (below_on _ _ HB2.out hb3)
 clear HC2 HB2 hb3
 go_wp2
 go_ret
 exact ⟨by first | rfl | trivial, HB3.out⟩
end Go.Proofs.YtfogkegmdgbecaaGreatDoor

/- call of FanScript: Clean. -/
namespace Go.Proofs.YtfogkegmdgbecaaGreatDoor
open Go Go.RowKit Go.Shelf
set_option maxHeartbeats 8000000 in
set_option maxRecDepth 100000 in
theorem call_clean {w W : World} {k : Nat} {p q : Nat → Nat} {X : FS} {dv wv : Value} {Z : Nat → Prop} (h : FY w k p q X X dv wv Z W) (hk : k ≤ 18) (hE : Erh w) (hB : ∀ i, i < k → Bnd 800000 800000000 (X.d i)) (hB2 : ∀ i, i < k → Bnd 10000000000 10000000000 (X.d i)) (x : AcV) (h5 : x.kd = 3) (ha : x.a.length ≤ 1000) :
  Calls Tryz.prog 6 #[.agg #[dv, wv], x.v] W fun e w' => e = .returned (.bool true) ∧ ∃ Z', FY w k p q (clnR k x.a X).2.2 (clnR k x.a X).2.2 dv wv Z' w' ∧ (∀ b, Z b → Z' b) ∧ Kz Z W w' := by
 obtain ⟨kd, wh, nn, at_, a, bp, bc, b, ⟨fpo, fc, rows⟩, np, nc, ns, is, m, kp, kc, ks⟩ := x
 dsimp only [AcV.v, AcV.cs, FsV.v] at *
 subst h5
 obtain ⟨dp, dc, hdv⟩ := h.dls.form
 obtain ⟨wp, wc, hwv⟩ := h.wls.form
 subst hdv
 subst hwv
 have e1 : (W.alloc (.cells #[.slice dp k dc, .slice wp k wc] 26)).heap.size = W.heap.size + 1 := by simp
 have e2 : ((W.alloc (.cells #[.slice dp k dc, .slice wp k wc] 26)).alloc (.cells #[.int .i64 3, .int .i64 wh, .int .i64 nn, .int .i64 at_, sv a, .slice bp b.length bc, .slice fpo rows.length fc, .slice np ns.length nc, .bool is, .int .u8 (m : Int), .slice kp ks.length kc] 35)).heap.size = W.heap.size + 2 := by simp
 have hb2 : Below (W.heap.size + 1) (W.alloc (.cells #[.slice dp k dc, .slice wp k wc] 26)) ((W.alloc (.cells #[.slice dp k dc, .slice wp k wc] 26)).alloc (.cells #[.int .i64 3, .int .i64 wh, .int .i64 nn, .int .i64 at_, sv a, .slice bp b.length bc, .slice fpo rows.length fc, .slice np ns.length nc, .bool is, .int .u8 (m : Int), .slice kp ks.length kc] 35)) := e1 ▸ (Below.refl _ _).alloc (Nat.le_refl _) _
 have hb0 : Below W.heap.size W ((W.alloc (.cells #[.slice dp k dc, .slice wp k wc] 26)).alloc (.cells #[.int .i64 3, .int .i64 wh, .int .i64 nn, .int .i64 at_, sv a, .slice bp b.length bc, .slice fpo rows.length fc, .slice np ns.length nc, .bool is, .int .u8 (m : Int), .slice kp ks.length kc] 35)) := ((Below.refl W.heap.size W).alloc (Nat.le_refl _) _).alloc (by simp only [size_al]; omega) _
 have c1 : ((W.alloc (.cells #[.slice dp k dc, .slice wp k wc] 26)).alloc (.cells #[.int .i64 3, .int .i64 wh, .int .i64 nn, .int .i64 at_, sv a, .slice bp b.length bc, .slice fpo rows.length fc, .slice np ns.length nc, .bool is, .int .u8 (m : Int), .slice kp ks.length kc] 35)).cell? ⟨W.heap.size, 1, none⟩ = some (.slice wp k wc) := (World.cell?_of_block (a := ⟨W.heap.size, 1, none⟩) (hb2.block W.heap.size (by omega))).trans ((CAt.made W _ _).cell 1)
 have c2 : ((W.alloc (.cells #[.slice dp k dc, .slice wp k wc] 26)).alloc (.cells #[.int .i64 3, .int .i64 wh, .int .i64 nn, .int .i64 at_, sv a, .slice bp b.length bc, .slice fpo rows.length fc, .slice np ns.length nc, .bool is, .int .u8 (m : Int), .slice kp ks.length kc] 35)).cell? ⟨W.heap.size + 1, 4, none⟩ = some (sv a) := e1 ▸ (CAt.made (W.alloc (.cells #[.slice dp k dc, .slice wp k wc] 26)) #[.int .i64 3, .int .i64 wh, .int .i64 nn, .int .i64 at_, sv a, .slice bp b.length bc, .slice fpo rows.length fc, .slice np ns.length nc, .bool is, .int .u8 (m : Int), .slice kp ks.length kc] 35).cell 4
 have h0 := h.below hb0
 have HC : Hid (∀ w', Kz (fun u => Z u ∨ (W.heap.size ≤ u ∧ u < ((W.alloc (.cells #[.slice dp k dc, .slice wp k wc] 26)).alloc (.cells #[.int .i64 3, .int .i64 wh, .int .i64 nn, .int .i64 at_, sv a, .slice bp b.length bc, .slice fpo rows.length fc, .slice np ns.length nc, .bool is, .int .u8 (m : Int), .slice kp ks.length kc] 35)).heap.size)) ((W.alloc (.cells #[.slice dp k dc, .slice wp k wc] 26)).alloc (.cells #[.int .i64 3, .int .i64 wh, .int .i64 nn, .int .i64 at_, sv a, .slice bp b.length bc, .slice fpo rows.length fc, .slice np ns.length nc, .bool is, .int .u8 (m : Int), .slice kp ks.length kc] 35)) w' → w'.cell? ⟨W.heap.size, 1, none⟩ = some (.slice wp k wc) ∧ w'.cell? ⟨W.heap.size + 1, 4, none⟩ = some (sv a)) := hid (fun w' hz => ⟨(World.cell?_of_block (a := ⟨W.heap.size, 1, none⟩) (hz W.heap.size (.inr ⟨Nat.le_refl _, by rw [e2]; omega⟩))).trans c1, (World.cell?_of_block (a := ⟨W.heap.size + 1, 4, none⟩) (hz (W.heap.size + 1) (.inr ⟨by omega, by rw [e2]; omega⟩))).trans c2⟩)
 have HP := hid (h0.pcall (g := 22) (args := #[.slice dp k dc, sv a]) (X2 := (clnR k a X).2.2) (Q := fun Zn e _ => Zn = (fun _ => False) ∧ e = .returned (.tuple #[.int .i64 ((clnR k a X).2.1 : Int), .int .i64 ((clnR k a X).1 : Int)])) (fun T hf hl _ => (fclean_any hf hl (by omega) hE hB2 a ha).mono (by
  rintro e w' ⟨rfl, ⟨T', hg, hf'⟩, ho⟩
  exact ⟨fun _ => False, ⟨rfl, rfl⟩, ⟨T', hg, hf', fun _ h => h.elim⟩, ho⟩)))
 have HR : Hid (∀ W' Z', FY w k p q (clnR k a X).2.2 X (.slice dp k dc) (.slice wp k wc) Z' W' → Calls Tryz.prog 23 #[.slice wp k wc, sv a] W' fun e W2 => ∃ Zn, (Zn = (fun _ => False) ∧ e = .returned (.tuple #[.int .i64 ((clnR k a X).2.1 : Int), .int .i64 ((clnR k a X).1 : Int)])) ∧ FY w k p q (clnR k a X).2.2 (clnR k a X).2.2 (.slice dp k dc) (.slice wp k wc) (fun b => Z' b ∨ Zn b) W2 ∧ Kz Z' W' W2 ∧ W'.heap.size ≤ W2.heap.size) := hid (fun W' Z' hy => hy.rcall (fun U hf hl _ => (rfclean_any hf hl (by omega) hB (fun i hi => h.okn hi) a ha).mono (by
  rintro e w' ⟨rfl, T', hg, hf', ho⟩
  exact ⟨fun _ => False, ⟨rfl, rfl⟩, ⟨T', hg, hf', fun _ h => h.elim⟩, ho⟩)))
 have HKW : Hid (Kz Z W ((W.alloc (.cells #[.slice dp k dc, .slice wp k wc] 26)).alloc (.cells #[.int .i64 3, .int .i64 wh, .int .i64 nn, .int .i64 at_, sv a, .slice bp b.length bc, .slice fpo rows.length fc, .slice np ns.length nc, .bool is, .int .u8 (m : Int), .slice kp ks.length kc] 35))) := hid (h.keeps hb0)
 clear c1 c2 hb2 e1 e2 h0 hb0 h hB hB2 hE
 generalize clnR k a X = R at *
 obtain ⟨er, nd, X2⟩ := R
 dsimp only at *
 go_enter Tryz.func6, Tryz.ntmps6
 go_wp2_with fail
 refine HP.out.mono ?_
 rintro e w1 ⟨Zn, ⟨rfl, rfl⟩, hy1, hz1, hs1⟩
 obtain ⟨hc2, hc3⟩ := HC.out w1 hz1
 have HY1 := hid hy1
 have HZ1 := hid (HKW.out.trans (hz1.less (fun b hb => .inl hb)))
 clear hy1 hz1 HC HP HKW hs1
 go_wp2_with fail
 refine (HR.out _ _ HY1.out).mono ?_
 rintro e w2 ⟨Zn, ⟨rfl, rfl⟩, hy2, hz2, hs2⟩
 have HF := hid (And.intro hy2 (HZ1.out.trans (hz2.less (fun b hb => .inl (.inl hb)))))
 clear hy2 hz2 hs2 HR HY1 HZ1
 go_wp2
 go_ret
 exact ⟨by first | rfl | trivial | simp, _, HF.out.1, fun b hb => .inl (.inl (.inl hb)), HF.out.2⟩
end Go.Proofs.YtfogkegmdgbecaaGreatDoor

/- How much drives may grow by a call: files and changes together. -/
namespace Go.Proofs.YtfogkegmdgbecaaGreatDoor
open Go

def Pm (n : Nat) (d : Pd) : Prop := d.ops + d.F.length ≤ n
theorem Pm.mono {n m : Nat} {d : Pd} (h : Pm n d) (hm : n ≤ m) : Pm m d := Nat.le_trans h hm
theorem Pm.bnd {n : Nat} {d : Pd} (h : Pm n d) : Bnd n n d := by unfold Pm at h; exact ⟨by omega, by omega⟩
theorem del_lt {F : List (Nm × Fi)} {s : Nm} {x : Fi} (h : gget F s = some x) : (gdel F s).length + 1 ≤ F.length := by
 have : ∃ p ∈ F, p.1 = s := by
  unfold gget at h
  cases e : F.find? fun p => p.1 == s with
  | none => rw [e] at h; cases h
  | some p => exact ⟨p, List.mem_of_find?_eq_some e, by have := List.find?_some e; simpa using this⟩
 obtain ⟨p, hp, hs⟩ := this
 unfold gdel
 exact List.length_filter_lt_length_iff_exists.2 ⟨p, hp, by simp [hs]⟩
theorem pm_chg {n : Nat} {d : Pd} (h : Pm n d) (f : Fs) {F : List (Nm × Fi)} {m : Nat} (hF : F.length + 1 ≤ d.F.length + m) : Pm (n + m) (d.chg f F).2.1 := by
 unfold Pd.chg Pm at *
 split
 ·show d.ops + 1 + F.length ≤ n + m
  omega
 ·show d.ops + d.F.length ≤ n + m
  omega
theorem put_le (F : List (Nm × Fi)) (s : Nm) (x : Fi) : (gput F s x).length ≤ F.length + 1 := by rw [len_put]; have := len_del F s; omega
theorem pm_write {n : Nat} {d : Pd} (h : Pm n d) (f : Fs) (s : Nm) (b : List Nat) : Pm (n + 2) (d.write f s b).2.1 := by
 unfold Pd.write
 split
 ·exact h.mono (by omega)
 ·split
  ·exact h.mono (by omega)
  ·exact pm_chg h f (by have := put_le d.F s (b, true); omega)
theorem pm_sync {n : Nat} {d : Pd} (h : Pm n d) (f : Fs) (s : Nm) : Pm (n + 2) (d.sync f s).2.1 := by
 unfold Pd.sync
 split
 ·exact h.mono (by omega)
 ·split
  ·exact h.mono (by omega)
  ·rename_i x _; exact pm_chg h f (by have := put_le d.F s (x.1, false); omega)
theorem pm_rename {n : Nat} {d : Pd} (h : Pm n d) (f : Fs) (s t : Nm) : Pm (n + 2) (d.rename f s t).2.1 := by
 unfold Pd.rename
 split
 ·exact h.mono (by omega)
 ·split
  ·exact h.mono (by omega)
  ·rename_i x _; exact pm_chg h f (by have := put_le (gdel d.F s) t x; have := len_del d.F s; omega)
theorem pm_delete {n : Nat} {d : Pd} (h : Pm n d) (f : Fs) (s : Nm) : Pm n (d.delete f s).2.1 := by
 unfold Pd.delete
 split
 ·exact h
 ·split
  ·exact h
  ·rename_i x hx; exact pm_chg (m := 0) h f (by have := del_lt hx; omega)
theorem pm_stg {n : Nat} {d : Pd} (h : Pm n d) (f : Fs) (x : Fl) : Pm (n + 4) (stg d f x).2.1 := by
 unfold stg
 split
 ·exact pm_sync (pm_write h _ _ _) _ _
 ·exact (pm_write h _ _ _).mono (by omega)
theorem pm_fin {n : Nat} {d : Pd} (h : Pm n d) (f : Fs) (x : Fl) : Pm (n + 4) (fin d f x).2.1 := (pm_rename h f _ _).mono (by omega)
theorem pm_forL {op : Op3} (hop : ∀ {n : Nat} {d : Pd}, Pm n d → ∀ f x, Pm (n + 4) (op d f x).2.1) : ∀ (l : List Fl) {n : Nat} {d : Pd} (_ : Pm n d) (f : Fs), Pm (n + 4 * l.length) (forL op l d f).2.1
 | [], _, _, h, _ => h
 | x :: r, n, d, h, f => by
  unfold forL
  split
  ·exact (pm_forL hop r (hop h f x) (op d f x).2.2).mono (by simp only [List.length_cons]; omega)
  ·exact (hop h f x).mono (by simp only [List.length_cons]; omega)
theorem pm_delL : ∀ (l : List Nm) {n : Nat} {d : Pd} (_ : Pm n d) (f : Fs) (m : Nat), Pm n (delL l d f m).2.2.1
 | [], _, _, h, _, _ => h
 | s :: r, n, d, h, f, m => by
  unfold delL
  split
  ·exact pm_delete h _ _
  ·exact pm_delL r (pm_delete h _ _) _ _
theorem pm_finL : ∀ (l : List Nm) {n : Nat} {d : Pd} (_ : Pm n d) (f : Fs), Pm (n + 2 * l.length) (finL l d f).2.1
 | [], _, _, h, _ => h
 | s :: r, n, d, h, f => by
  unfold finL
  split
  ·exact (pm_finL r (pm_rename h f _ _) _).mono (by simp only [List.length_cons]; omega)
  ·exact (pm_rename h f _ _).mono (by simp only [List.length_cons]; omega)
def Pms (n k : Nat) (d : Nat → Pd) : Prop := ∀ j, j < k → Pm n (d j)
theorem Pms.mono {n m k : Nat} {d : Nat → Pd} (h : Pms n k d) (hm : n ≤ m) : Pms m k d := fun j hj => (h j hj).mono hm
theorem Pms.upd {n k i : Nat} {d : Nat → Pd} {x : Pd} (h : Pms n k d) (hx : Pm n x) : Pms n k (upd d i x) := fun j hj => by
 by_cases e : j = i
 ·subst e; rw [upd_same]; exact hx
 ·rw [upd_ne _ _ e]; exact h j hj
theorem pm_delD (nm : Nat → Pd → Fs → Nat × List Nm) : ∀ (m i c : Nat) (X : FS) {n k : Nat} (_ : i + m = k) (_ : Pms n k X.d), Pms n k (delD nm m i c X).2.2.d
 | 0, _, _, _, _, _, _, h => h
 | m + 1, i, c, X, n, k, hm, h => by
  unfold delD
  split
  ·exact h
  ·split
   ·exact h.upd (pm_delL _ (h i (by omega)) _ _)
   ·exact pm_delD nm m (i + 1) _ _ (by omega) (h.upd (pm_delL _ (h i (by omega)) _ _))
/-- Those from i on are as at first. -/
def Pmi (n c k i : Nat) (d : Nat → Pd) : Prop := ∀ j, j < k → Pm (if j < i then n + c else n) (d j)
theorem pm_forD {op : Op3} (hop : ∀ {n : Nat} {d : Pd}, Pm n d → ∀ f x, Pm (n + 4) (op d f x).2.1) (fl : Nat → List Fl) {k : Nat} (h8 : ∀ i, i < k → (fl i).length ≤ 8) : ∀ (m i : Nat) (wl : Nat → Bool) (X : FS) {n : Nat} (_ : i + m = k) (_ : Pmi n 32 k i X.d), Pms (n + 32) k (forD op fl m i wl X).2.2.d
 | 0, i, wl, X, n, hm, h, j, hj => by
  unfold forD
  have := h j hj
  rwa [if_pos (by omega)] at this
 | m + 1, i, wl, X, n, hm, h, j, hj => by
  have h1 : Pmi n 32 k (i + 1) (upd X.d i (forL op (fl i) (X.d i) X.f).2.1) := fun j hj => by
   by_cases e : j = i
   ·subst e
    have h0 := h j hj
    rw [if_neg (by omega)] at h0
    have := h8 j hj
    rw [upd_same, if_pos (by omega)]
    exact (pm_forL hop (fl j) h0 X.f).mono (by omega)
   ·rw [upd_ne _ _ e]
    refine (h j hj).mono ?_
    split <;> split <;> omega
  have h2 : Pmi n 32 k (i + 1) X.d := fun j hj => (h j hj).mono (by split <;> split <;> omega)
  have h3 : ∀ {i' : Nat} {d : Nat → Pd}, Pmi n 32 k i' d → Pms (n + 32) k d := fun h j hj => (h j hj).mono (by split <;> omega)
  unfold forD
  split
  ·split
   ·exact h3 h1 j hj
   ·exact pm_forD hop fl h8 m (i + 1) _ ⟨_, _⟩ (by omega) h1 j hj
  ·exact pm_forD hop fl h8 m (i + 1) _ X (by omega) h2 j hj
theorem pm_com (fl : Nat → List Fl) (k : Nat) (need : Int) (X : FS) (h8 : ∀ i, i < k → (fl i).length ≤ 8) {n : Nat} (h : Pms n k X.d) : Pms (n + 64) k (com fl k need X).2.2.d := by
 have h1 : Pms (n + 32) k (forD stg fl k 0 (fun _ => true) X).2.2.d := pm_forD pm_stg fl h8 k 0 _ X (by omega) (fun j hj => by rw [if_neg (by omega)]; exact h j hj)
 have h2 : Pms (n + 32 + 32) k (forD fin fl k 0 (forD stg fl k 0 (fun _ => true) X).2.1 (forD stg fl k 0 (fun _ => true) X).2.2).2.2.d := pm_forD pm_fin fl h8 k 0 _ _ (by omega) (fun j hj => by rw [if_neg (by omega)]; exact h1 j hj)
 unfold com
 split
 ·exact h1.mono (by omega)
 ·split
  ·exact (pm_delD _ k 0 0 _ (by omega) h1).mono (by omega)
  ·split
   ·exact h2
   ·exact pm_delD _ k 0 0 _ (by omega) h2
theorem pm_comR (k : Nat) (fv : FsV) (need : Int) (X : FS) {n : Nat} (h : Pms n k X.d) : Pms (n + 64) k (comR k fv need X).2.2.d := by
 unfold comR
 split
 ·exact h.mono (by omega)
 ·rename_i he
  refine pm_com fv.fl k need X (fun i hi => ?_) h
  obtain ⟨-, hlen, -, hr8, -⟩ := comE_zero (Decidable.not_not.1 he)
  show ((fv.l.getD i default).fl).length ≤ 8
  have h0 := hr8 (fv.l.getD i default) (by rw [getD_in _ _ _ (by omega)]; exact List.getElem_mem _)
  simpa [RowV.fl] using h0
theorem pm_delR (k : Nat) (ns : List Nm) (X : FS) {n : Nat} (h : Pms n k X.d) : Pms n k (delR k ns X).2.2.d := by
 unfold delR
 split
 ·exact h
 ·split
  ·exact h
  ·exact pm_delD _ k 0 0 X (by omega) h
theorem pm_clnR (k : Nat) (s : Nm) (X : FS) {n : Nat} (h : Pms n k X.d) : Pms n k (clnR k s X).2.2.d := by
 unfold clnR
 split
 ·exact h
 ·exact pm_delD _ k 0 0 X (by omega) h
theorem pm_finR (ns : List Nm) {d : Pd} (f : Fs) {n : Nat} (h : Pm n d) : Pm (n + 256) (finR ns d f).2.1 := by
 unfold finR
 split
 ·exact h.mono (by omega)
 ·rename_i he
  have : ns.length ≤ 128 := by
   have := Decidable.not_not.1 he
   unfold ckN at this
   split at this
   ·cases this
   ·omega
  exact (pm_finL ns h f).mono (by omega)
theorem pm_crash {n : Nat} {d : Pd} (h : Pm n d) (ks : List Bool) : Pm n (d.crash ks) := by
 have := crash_len d.F ks (looseN d.F).length
 unfold Pm at *
 show d.ops + (crashI d.F ks (looseN d.F).length).length ≤ n
 omega
theorem pm_turn {n : Nat} {d : Pd} (h : Pm n d) (s : Nm) (a : Int) (m : Nat) : Pm n (d.turn s a m).2 := by
 unfold Pd.turn
 split
 ·exact h
 ·split
  ·exact h
  ·unfold Pm at *
   show d.ops + (gmod d.F s a.toNat m).length ≤ n
   unfold gmod
   rw [List.length_map]
   exact h
end Go.Proofs.YtfogkegmdgbecaaGreatDoor

/- What is carried through call and happens: both sets of drives, and the blocks that no call of them turns. -/
namespace Go.Proofs.YtfogkegmdgbecaaGreatDoor
open Go Go.RowKit Go.Shelf

structure HY (w : World) (k : Nat) (p q : Nat → Nat) (X Y : FS) (dv wv : Value) (Z : Nat → Prop) (W0 W : World) : Prop where
 fy : FY w k p q X Y dv wv Z W
 kz : Kz Z W0 W
/-- What call and happens answer, and leave. -/
def HXt (w : World) (k : Nat) (p q : Nat → Nat) (X2 : FS) (dv wv : Value) (Z : Nat → Prop) (W : World) (e : Ending) (w' : World) : Prop :=
 e = .returned (.bool true) ∧ ∃ Z', FY w k p q X2 X2 dv wv Z' w' ∧ (∀ b, Z b → Z' b) ∧ Kz Z W w'
theorem FStep.out {w wr w' : World} {T : Nat → Prop} {k : Nat} {p : Nat → Nat} {d : Nat → Pd} {f : Fs} {c : Nat} (h : FStep w wr T k p d f c w') : (∃ T', Grows wr T T' ∧ FA w w' T' k p d f c) ∧ Only T wr w' := by
 obtain ⟨T', a, b, c, _⟩ := h
 exact ⟨⟨T', a, b⟩, c⟩
theorem RStep.out {w wr w' : World} {T : Nat → Prop} {k : Nat} {p : Nat → Nat} {d : Nat → Pd} {f : Fs} {c : Nat} (h : RStep w wr T k p d f c w') : (∃ T', Grows wr T T' ∧ RA w w' T' k p d f c) ∧ Only T wr w' := by
 obtain ⟨T', a, b, c⟩ := h
 exact ⟨⟨T', a, b⟩, c⟩
theorem TxO.lt {w : World} {po : Option Addr} {ns : List Nm} (h : TxO w po ns) : ∀ a, po = some a → ns ≠ [] → a.block < w.heap.size := fun a ha hne => by
 obtain ⟨b, o, e, hc⟩ := h.resolve_left hne
 rw [e] at ha; cases ha
 exact cell_lt2 (hc 0 (List.length_pos_iff.2 hne))
theorem box_cells (W : World) (a b : Array Value) (t u : TypeId) : (∀ i v, a[i]? = some v → ((W.alloc (.cells a t)).alloc (.cells b u)).cell? ⟨W.heap.size, i, none⟩ = some v) ∧ (∀ i v, b[i]? = some v → ((W.alloc (.cells a t)).alloc (.cells b u)).cell? ⟨W.heap.size + 1, i, none⟩ = some v) := by
 have e1 : (W.alloc (.cells a t)).heap.size = W.heap.size + 1 := by simp
 have hb2 : Below (W.heap.size + 1) (W.alloc (.cells a t)) ((W.alloc (.cells a t)).alloc (.cells b u)) := e1 ▸ (Below.refl _ _).alloc (Nat.le_refl _) _
 refine ⟨fun i v h => ?_, fun i v h => ?_⟩
 ·exact (World.cell?_of_block (a := ⟨W.heap.size, i, none⟩) (hb2.block W.heap.size (by omega))).trans (((CAt.made W a t).cell i).trans h)
 ·exact e1 ▸ (((CAt.made (W.alloc (.cells a t)) b u).cell i).trans h)
section
variable {w W W0 W' : World} {k : Nat} {p q : Nat → Nat} {X Y X2 Y2 : FS} {dv wv : Value} {Z : Nat → Prop}
theorem HY.below (h : HY w k p q X Y dv wv Z W0 W) (hb : Below W.heap.size W W') : HY w k p q X Y dv wv Z W0 W' := ⟨(h.fy.below hb).less (fun _ hz => .inl hz), h.kz.trans (h.fy.keeps hb)⟩
theorem HY.box (h : HY w k p q X Y dv wv Z W0 W) {b i : Nat} {v : Value} (hz : Z b) (hc : W0.cell? ⟨b, i, none⟩ = some v) : W.cell? ⟨b, i, none⟩ = some v := (World.cell?_of_block (a := ⟨b, i, none⟩) (h.kz b hz)).trans hc
theorem HY.pstep (h : HY w k p q X Y dv wv Z W0 W) {g : FuncId} {args : Array Value} {Q : Ending → Prop}
  (hc : ∀ T, FA w W T k p X.d X.f 0 → LsAt W T dv k p → (∀ b, Z b → ¬ T b) → Calls Tryz.prog g args W fun e W' => Q e ∧ (∃ T', Grows W T T' ∧ FA w W' T' k p X2.d X2.f 0) ∧ Only T W W') :
  Calls Tryz.prog g args W fun e W' => Q e ∧ HY w k p q X2 Y dv wv Z W0 W' := by
 refine (h.fy.pcall (X2 := X2) (Q := fun Zn e _ => Q e) (fun T h1 h2 h3 => (hc T h1 h2 h3).mono ?_)).mono ?_
 ·rintro e W' ⟨a, ⟨T', b1, b2⟩, c⟩
  exact ⟨fun _ => False, a, ⟨T', b1, b2, fun _ h => h.elim⟩, c⟩
 ·rintro e W' ⟨Zn, a, hy, hz, _⟩
  exact ⟨a, hy.less (fun b hb => .inl hb), h.kz.trans hz⟩
theorem HY.rstep (h : HY w k p q X Y dv wv Z W0 W) {g : FuncId} {args : Array Value} {Q : Ending → Prop}
  (hc : ∀ T, RA w W T k q Y.d Y.f 0 → LsAt W T wv k q → (∀ b, Z b → ¬ T b) → Calls Tryz.prog g args W fun e W' => Q e ∧ (∃ T', Grows W T T' ∧ RA w W' T' k q Y2.d Y2.f 0) ∧ Only T W W') :
  Calls Tryz.prog g args W fun e W' => Q e ∧ HY w k p q X Y2 dv wv Z W0 W' := by
 refine (h.fy.rcall (Y2 := Y2) (Q := fun Zn e _ => Q e) (fun T h1 h2 h3 => (hc T h1 h2 h3).mono ?_)).mono ?_
 ·rintro e W' ⟨a, ⟨T', b1, b2⟩, c⟩
  exact ⟨fun _ => False, a, ⟨T', b1, b2, fun _ h => h.elim⟩, c⟩
 ·rintro e W' ⟨Zn, a, hy, hz, _⟩
  exact ⟨a, hy.less (fun b hb => .inl hb), h.kz.trans hz⟩
theorem FY.dcell {bd cd : Nat} (h : FY w k p q X Y (.slice (some ⟨bd, 0, none⟩) k cd) wv Z W) {i : Nat} (hi : i < k) : W.cell? ⟨bd, i, none⟩ = some (ptr (p i)) := by
 rcases h.dls.ex with ⟨h0, _⟩ | ⟨_, b, c, e, _, h3⟩
 ·omega
 ·cases e; exact h3 i hi
theorem FY.wcell {bd cd : Nat} (h : FY w k p q X Y dv (.slice (some ⟨bd, 0, none⟩) k cd) Z W) {i : Nat} (hi : i < k) : W.cell? ⟨bd, i, none⟩ = some (ptr (q i)) := by
 rcases h.wls.ex with ⟨h0, _⟩ | ⟨_, b, c, e, _, h3⟩
 ·omega
 ·cases e; exact h3 i hi
theorem FY.dform (h : FY w k p q X Y dv wv Z W) (hk : 0 < k) : ∃ bd cd, dv = .slice (some ⟨bd, 0, none⟩) k cd := by
 rcases h.dls.ex with ⟨h0, _⟩ | ⟨_, b, c, e, _, h3⟩
 ·omega
 ·exact ⟨b, c, e⟩
theorem FY.wform (h : FY w k p q X Y dv wv Z W) (hk : 0 < k) : ∃ bd cd, wv = .slice (some ⟨bd, 0, none⟩) k cd := by
 rcases h.wls.ex with ⟨h0, _⟩ | ⟨_, b, c, e, _, h3⟩
 ·omega
 ·exact ⟨b, c, e⟩
/-- Both boxes. -/
theorem FY.enter (h : FY w k p q X Y dv wv Z W) (o1 o2 : Obj) : HY w k p q X Y dv wv (fun b => Z b ∨ b = W.heap.size ∨ b = W.heap.size + 1) ((W.alloc o1).alloc o2) ((W.alloc o1).alloc o2) ∧ Kz Z W ((W.alloc o1).alloc o2) ∧ Below W.heap.size W ((W.alloc o1).alloc o2) := by
 have hb0 : Below W.heap.size W ((W.alloc o1).alloc o2) := ((Below.refl W.heap.size W).alloc (Nat.le_refl _) _).alloc (by simp only [size_al]; omega) _
 have e2 : ((W.alloc o1).alloc o2).heap.size = W.heap.size + 2 := by simp
 exact ⟨⟨(h.below hb0).less (fun b hb => by rw [e2]; rcases hb with hb | hb | hb; exact .inl hb; exact .inr ⟨by omega, by omega⟩; exact .inr ⟨by omega, by omega⟩), fun _ _ => rfl⟩, h.keeps hb0, hb0⟩
theorem HY.leave {X2 : FS} (h : HY w k p q X2 X2 dv wv (fun b => Z b ∨ b = W.heap.size ∨ b = W.heap.size + 1) W0 W') (hz : Kz Z W W0) : HXt w k p q X2 dv wv Z W (.returned (.bool true)) W' :=
 ⟨rfl, _, h.fy, fun _ hb => .inl hb, hz.trans (h.kz.less fun _ hb => .inl hb)⟩
/-- A flag of the document's drive i is set. -/
theorem RA.flag {T : Nat → Prop} {d : Nat → Pd} {f : Fs} (h : RA w W T k q d f 0) {i : Nat} (hi : i < k) (j : Nat) (x : Value) {d2 : Pd} (hc : ∀ v fu, (rcells v fu (d i)).setIfInBounds j x = rcells v fu d2) (hF : d2.F = (d i).F) :
  RA w (W.setCell ⟨q i, j, none⟩ x) T k q (upd d i d2) f 0 ∧ T (q i) := by
 obtain ⟨R, fu, h1, h2, h3, h4, h5⟩ := h.ex
 obtain ⟨v, L, hr⟩ := h1 i hi
 have hqi : R i (q i) := hr.sp
 have ho : Only (fun b => b = q i) W (W.setCell ⟨q i, j, none⟩ x) := Only.set W _ x rfl
 refine ⟨⟨⟨R, fu, fun j' hj => ?_, h2, h3, h4.keep fun b e => ho.block b (h.lt b (h5 b e)) (fun e2 => h4.ne b e ⟨i, hi, e2 ▸ hqi⟩), h5⟩, fun b hb => by rw [setCell_size]; exact h.lt b hb, h.ge, ?_⟩, h3 i hi _ hqi⟩
 ·by_cases e : j' = i
  ·subst e; rw [upd_same]; exact ⟨v, L, hr.setq j x (hc v _) hF⟩
  ·rw [upd_ne _ _ e]; exact (h1 j' hj).keep ho.size fun b hb => ho.block b (h.lt b (h3 j' hj b hb)) (fun e2 => h2 j' i hj hi e b hb (e2 ▸ hqi))
 ·have hge := h.ge _ (h3 i hi _ hqi)
  exact ⟨ho.os.trans h.be.os, ho.tape.trans h.be.tape, ho.output.trans h.be.output, Nat.le_trans h.be.size ho.size, fun b hb => (ho.block b (Nat.lt_of_lt_of_le hb h.be.size) (fun e => by omega)).trans (h.be.block b hb)⟩
theorem HY.flag (h : HY w k p q X Y dv wv Z W0 W) {i : Nat} (hi : i < k) (j : Nat) (x : Value) {d2 : Pd} (hc : ∀ v fu, (rcells v fu (Y.d i)).setIfInBounds j x = rcells v fu d2) (hF : d2.F = (Y.d i).F) : HY w k p q X ⟨upd Y.d i d2, Y.f⟩ dv wv Z W0 (W.setCell ⟨q i, j, none⟩ x) := by
 obtain ⟨T, U, h1, h2, h3, h4, h5, h6⟩ := h.fy.ex
 obtain ⟨hr, hq⟩ := h2.flag hi j x hc hF
 have ho : Only (fun b => b = q i) W (W.setCell ⟨q i, j, none⟩ x) := Only.set W _ x rfl
 have hk : ∀ b, b < W.heap.size → ¬ (T b ∨ U b) → (W.setCell ⟨q i, j, none⟩ x).heap[b]? = W.heap[b]? := fun b hb hn => ho.block b hb (fun e => hn (.inr (e ▸ hq)))
 refine ⟨⟨T, U, h1.only ho (fun b hb e => by have := h2.ge _ hq; omega) (fun b ht e => h3 b ht (e ▸ hq)), hr, h3, h4.keep hk (fun _ _ h => h), h5.keep hk (fun _ _ h => h), fun b hz => ⟨by rw [setCell_size]; exact (h6 b hz).1, (h6 b hz).2⟩⟩, h.kz.trans fun b hz => ho.block b (h6 b hz).1 (fun e => (h6 b hz).2.2 (e ▸ hq))⟩
theorem FY.flagC (h : FY w k p q X Y dv wv Z W) {i : Nat} (hi : i < k) : W.cell? ⟨q i, 2, none⟩ = some (.bool (Y.d i).offl) ∧ W.cell? ⟨q i, 3, none⟩ = some (.bool (Y.d i).full) ∧ W.frozen? ⟨q i, 2, none⟩ = false ∧ W.frozen? ⟨q i, 3, none⟩ = false := by
 obtain ⟨T, U, _, h2, _⟩ := h.ex
 obtain ⟨R, fu, hdr, _⟩ := h2.ex
 obtain ⟨v, L, hd⟩ := hdr i hi
 exact ⟨hd.c.cell 2, hd.c.cell 3, hd.c.free 2, hd.c.free 3⟩
end
end Go.Proofs.YtfogkegmdgbecaaGreatDoor
