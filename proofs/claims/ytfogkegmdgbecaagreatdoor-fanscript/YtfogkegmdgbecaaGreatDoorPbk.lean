/- Texts laid into one, cut to what is needed: the remark ahead of each part says what is proved there. -/
import Derived.Test.YtfogkegmdgbecaaGreatDoorPbi
/- happens of FanScript: a drive is offline, or full. -/
namespace Go.Proofs.YtfogkegmdgbecaaGreatDoor
open Go Go.RowKit Go.Shelf
/-- One cell that may be written is stored in a region that draws. -/
theorem step_storeF (ty : TypeId) {w : World} {ops : Array Oper} {o : Oper} {a : Act} {K : Act → World → Prop} {Q : Exit → Act → World → Prop} {E : Prop} (hgd : o.guard = none) (hdst : o.dst = none) (x y : Operand) (ho : o.op = .store ty x y) (g off : Nat) (hx : a.eval x = .pointer (some ⟨g, off, none⟩)) (v : Value) (hy : a.eval y = v) (hv : v.cells = #[v])
  (hi : (Tryz.prog.info? ty).map (·.size) = some 1) (h1 : v.oneCell' = true) {u : Value} (hc : w.cell? ⟨g, off, none⟩ = some u) (hf : w.frozen? ⟨g, off, none⟩ = false) (h : K a (w.setCell ⟨g, off, none⟩ v)) : if Region.wanted o (yielded ops a.tmps) = true then Oper.wp Tryz.prog o a w K Q else E := by
 have e1 : (Instr.storeAt ty (.pointer (some ⟨g, off, none⟩)) v).run Tryz.prog w = .ok () (w.setCells g off [v]) := by
  have := run_storeCells_cells (P := Tryz.prog) g off [v] 0 w (fun j hj => by simp at hj; subst hj; exact hc ▸ rfl) (fun j hj => by simp at hj; subst hj; exact hf)
   (fun z hz => by simp at hz; subst hz; exact h1)
  cases hq : Tryz.prog.info? ty with
  | none => simp [hq] at hi
  | some i =>
   have hs : 1 = i.size := by simp [hq] at hi; omega
   simp only [Nat.add_zero] at this
   simp [Instr.storeAt, Instr.sureAddr, storeVar, sizeOf, typeInfo, hq, hv, ← hs, this]
 rw [if_pos (by simp [Region.wanted, hgd])]
 unfold Oper.wp execOp
 simp only [ho, hx, hy, Sem.run_bind, e1, Result.andThen_ok, Sem.run_pure]
 show K (a.put o.dst undef) _
 rw [hdst]
 exact h
set_option maxHeartbeats 8000000 in
set_option maxRecDepth 100000 in
theorem happens_off {w W : World} {k : Nat} {p q : Nat → Nat} {X : FS} {dv wv : Value} {Z : Nat → Prop} (h : FY w k p q X X dv wv Z W) (hk : k ≤ 18) (h0 : 0 < k) (x : AcV) (h5 : x.kd = 6) :
  Calls Tryz.prog 7 #[.agg #[dv, wv], x.v] W (HXt w k p q ⟨upd X.d (pkN x.wh k) { X.d (pkN x.wh k) with offl := x.is }, X.f⟩ dv wv Z W) := by
 obtain ⟨bd, cd, hdv⟩ := h.dform h0
 obtain ⟨bv, cv, hwv⟩ := h.wform h0
 subst hdv
 subst hwv
 obtain ⟨kd, wh, nn, at_, a, bp, bc, b, ⟨fpo, fc, rows⟩, np, nc, ns, is, m, kp, kc, ks⟩ := x
 dsimp only [AcV.v, AcV.cs, FsV.v] at *
 subst h5
 have HPK := hid (fun W' => pick_any wh k W' (by omega) (by omega))
 have hi := pkN_lt wh k (by omega)
 generalize pkN wh k = i at *
 have hi' : (i : Int) < (k : Int) := by omega
 have hi2 : (i : Int) < 1000 := by omega
 obtain ⟨hen, hz0, -⟩ := h.enter (.cells #[.slice (some ⟨bd, 0, none⟩) k cd, .slice (some ⟨bv, 0, none⟩) k cv] 26) (.cells #[.int .i64 6, .int .i64 wh, .int .i64 nn, .int .i64 at_, sv a, .slice bp b.length bc, .slice fpo rows.length fc, .slice np ns.length nc, .bool is, .int .u8 (m : Int), .slice kp ks.length kc] 35)
 obtain ⟨q1, q2⟩ := box_cells W #[.slice (some ⟨bd, 0, none⟩) k cd, .slice (some ⟨bv, 0, none⟩) k cv] #[.int .i64 6, .int .i64 wh, .int .i64 nn, .int .i64 at_, sv a, .slice bp b.length bc, .slice fpo rows.length fc, .slice np ns.length nc, .bool is, .int .u8 (m : Int), .slice kp ks.length kc] 26 35
 have HM0 := hid hen
 have HSS : Hid (∀ X' Y' W', HY w k p q X' Y' (.slice (some ⟨bd, 0, none⟩) k cd) (.slice (some ⟨bv, 0, none⟩) k cv) (fun b => Z b ∨ b = W.heap.size ∨ b = W.heap.size + 1) ((W.alloc (.cells #[.slice (some ⟨bd, 0, none⟩) k cd, .slice (some ⟨bv, 0, none⟩) k cv] 26)).alloc (.cells #[.int .i64 6, .int .i64 wh, .int .i64 nn, .int .i64 at_, sv a, .slice bp b.length bc, .slice fpo rows.length fc, .slice np ns.length nc, .bool is, .int .u8 (m : Int), .slice kp ks.length kc] 35)) W' → W'.cell? ⟨W.heap.size, 0, none⟩ = some (.slice (some ⟨bd, 0, none⟩) k cd) ∧ W'.cell? ⟨W.heap.size, 1, none⟩ = some (.slice (some ⟨bv, 0, none⟩) k cv) ∧ W'.cell? ⟨W.heap.size + 1, 8, none⟩ = some (.bool is) ∧ W'.cell? ⟨bd, i, none⟩ = some (ptr (p i)) ∧ W'.cell? ⟨bv, i, none⟩ = some (ptr (q i))) := hid (fun X' Y' W' hy => ⟨hy.box (.inr (.inl rfl)) (q1 0 _ rfl), hy.box (.inr (.inl rfl)) (q1 1 _ rfl), hy.box (.inr (.inr rfl)) (q2 8 _ rfl), hy.fy.dcell hi, hy.fy.wcell hi⟩)
 have HF : Hid (∀ W', HY w k p q X X (.slice (some ⟨bd, 0, none⟩) k cd) (.slice (some ⟨bv, 0, none⟩) k cv) (fun b => Z b ∨ b = W.heap.size ∨ b = W.heap.size + 1) ((W.alloc (.cells #[.slice (some ⟨bd, 0, none⟩) k cd, .slice (some ⟨bv, 0, none⟩) k cv] 26)).alloc (.cells #[.int .i64 6, .int .i64 wh, .int .i64 nn, .int .i64 at_, sv a, .slice bp b.length bc, .slice fpo rows.length fc, .slice np ns.length nc, .bool is, .int .u8 (m : Int), .slice kp ks.length kc] 35)) W' → W'.cell? ⟨q i, 2, none⟩ = some (.bool (X.d i).offl) ∧ W'.frozen? ⟨q i, 2, none⟩ = false) := hid (fun W' hy => ⟨hy.fy.flagC hi |>.1, hy.fy.flagC hi |>.2.2.1⟩)
 have HQ : Hid (∀ W', HY w k p q X X (.slice (some ⟨bd, 0, none⟩) k cd) (.slice (some ⟨bv, 0, none⟩) k cv) (fun b => Z b ∨ b = W.heap.size ∨ b = W.heap.size + 1) ((W.alloc (.cells #[.slice (some ⟨bd, 0, none⟩) k cd, .slice (some ⟨bv, 0, none⟩) k cv] 26)).alloc (.cells #[.int .i64 6, .int .i64 wh, .int .i64 nn, .int .i64 at_, sv a, .slice bp b.length bc, .slice fpo rows.length fc, .slice np ns.length nc, .bool is, .int .u8 (m : Int), .slice kp ks.length kc] 35)) W' → HY w k p q X ⟨upd X.d i { X.d i with offl := is }, X.f⟩ (.slice (some ⟨bd, 0, none⟩) k cd) (.slice (some ⟨bv, 0, none⟩) k cv) (fun b => Z b ∨ b = W.heap.size ∨ b = W.heap.size + 1) ((W.alloc (.cells #[.slice (some ⟨bd, 0, none⟩) k cd, .slice (some ⟨bv, 0, none⟩) k cv] 26)).alloc (.cells #[.int .i64 6, .int .i64 wh, .int .i64 nn, .int .i64 at_, sv a, .slice bp b.length bc, .slice fpo rows.length fc, .slice np ns.length nc, .bool is, .int .u8 (m : Int), .slice kp ks.length kc] 35)) (W'.setCell ⟨q i, 2, none⟩ (.bool is))) := hid (fun W' hy => hy.flag hi 2 (.bool is) (fun v fu => rfl) rfl)
 have HP : Hid (∀ W', HY w k p q X ⟨upd X.d i { X.d i with offl := is }, X.f⟩ (.slice (some ⟨bd, 0, none⟩) k cd) (.slice (some ⟨bv, 0, none⟩) k cv) (fun b => Z b ∨ b = W.heap.size ∨ b = W.heap.size + 1) ((W.alloc (.cells #[.slice (some ⟨bd, 0, none⟩) k cd, .slice (some ⟨bv, 0, none⟩) k cv] 26)).alloc (.cells #[.int .i64 6, .int .i64 wh, .int .i64 nn, .int .i64 at_, sv a, .slice bp b.length bc, .slice fpo rows.length fc, .slice np ns.length nc, .bool is, .int .u8 (m : Int), .slice kp ks.length kc] 35)) W' → Calls Tryz.prog 34 #[ptr (p i), .bool is] W' fun e W2 => e = .returned (.int .i64 0) ∧ HY w k p q ⟨upd X.d i { X.d i with offl := is }, X.f⟩ ⟨upd X.d i { X.d i with offl := is }, X.f⟩ (.slice (some ⟨bd, 0, none⟩) k cd) (.slice (some ⟨bv, 0, none⟩) k cv) (fun b => Z b ∨ b = W.heap.size ∨ b = W.heap.size + 1) ((W.alloc (.cells #[.slice (some ⟨bd, 0, none⟩) k cd, .slice (some ⟨bv, 0, none⟩) k cv] 26)).alloc (.cells #[.int .i64 6, .int .i64 wh, .int .i64 nn, .int .i64 at_, sv a, .slice bp b.length bc, .slice fpo rows.length fc, .slice np ns.length nc, .bool is, .int .u8 (m : Int), .slice kp ks.length kc] 35)) W2) := hid (fun W' hy => hy.pstep (X2 := ⟨upd X.d i { X.d i with offl := is }, X.f⟩) fun T hf _ _ => (hf.setA hi fun fu S m' L hd => offline_any hd is).mono fun e W2 hh => ⟨hh.1, hh.2.out⟩)
 have HEND : Hid (∀ W', HY w k p q ⟨upd X.d i { X.d i with offl := is }, X.f⟩ ⟨upd X.d i { X.d i with offl := is }, X.f⟩ (.slice (some ⟨bd, 0, none⟩) k cd) (.slice (some ⟨bv, 0, none⟩) k cv) (fun b => Z b ∨ b = W.heap.size ∨ b = W.heap.size + 1) ((W.alloc (.cells #[.slice (some ⟨bd, 0, none⟩) k cd, .slice (some ⟨bv, 0, none⟩) k cv] 26)).alloc (.cells #[.int .i64 6, .int .i64 wh, .int .i64 nn, .int .i64 at_, sv a, .slice bp b.length bc, .slice fpo rows.length fc, .slice np ns.length nc, .bool is, .int .u8 (m : Int), .slice kp ks.length kc] 35)) W' → HXt w k p q ⟨upd X.d i { X.d i with offl := is }, X.f⟩ (.slice (some ⟨bd, 0, none⟩) k cd) (.slice (some ⟨bv, 0, none⟩) k cv) Z W (.returned (.bool true)) W') := hid (fun W' hy => hy.leave hz0)
 clear q1 q2 hen h
 generalize HXt w k p q ⟨upd X.d i { X.d i with offl := is }, X.f⟩ (.slice (some ⟨bd, 0, none⟩) k cd) (.slice (some ⟨bv, 0, none⟩) k cv) Z W = PP at *
 clear hz0
 go_enter Tryz.func7, Tryz.ntmps7
 go_wp2_with (go_at_call 31; refine (HPK.out _).mono ?_; rintro e w1 ⟨rfl, hw⟩; have hw2 := hw.symm; subst hw2)
 generalize (W.alloc (.cells #[.slice (some ⟨bd, 0, none⟩) k cd, .slice (some ⟨bv, 0, none⟩) k cv] 26)).alloc (.cells #[.int .i64 6, .int .i64 wh, .int .i64 nn, .int .i64 at_, sv a, .slice bp b.length bc, .slice fpo rows.length fc, .slice np ns.length nc, .bool is, .int .u8 (m : Int), .slice kp ks.length kc] 35) = Bx at *
 obtain ⟨x0, x1, x8, y0, y1⟩ := HSS.out _ _ _ HM0.out
 have HMd := hid (HM0.out.below ((Below.refl _ _).drew : Below Bx.heap.size Bx Bx.drew))
 refine wp_region_held_drew (S := (fun w' => w'.cell? ⟨W.heap.size, 0, none⟩ = some (.slice (some ⟨bd, 0, none⟩) k cd) ∧ w'.cell? ⟨W.heap.size, 1, none⟩ = some (.slice (some ⟨bv, 0, none⟩) k cv) ∧ w'.cell? ⟨W.heap.size + 1, 8, none⟩ = some (.bool is) ∧ w'.cell? ⟨bd, i, none⟩ = some (ptr (p i)) ∧ w'.cell? ⟨bv, i, none⟩ = some (ptr (q i)))) (by kernel_rfl) (HSS.out _ _ _ HMd.out) ?_
 clear x0 x1 x8 y0 y1
 generalize Bx.drew = w6 at HMd ⊢
 obtain ⟨z0, z1⟩ := HF.out _ HMd.out
 have HM2 := hid (HQ.out _ HMd.out)
 intro hHeld
 refine wpAnyH_take (i := 0) (v := .pointer (some ⟨W.heap.size, 1, none⟩)) rfl (by kernel_rfl) (by kernel_rfl) (by kernel_rfl) (fun _ _ _ h => h) (Or.inl ⟨by kernel_rfl, by intro W hW; obtain ⟨q0, q1, q2, q3, q4⟩ := hW; go_simp⟩) hHeld ?_
 refine wpAnyH_take (i := 1) (v := .slice (some ⟨bv, 0, none⟩) k cv) rfl (by kernel_rfl) (by kernel_rfl) (by kernel_rfl) (fun _ _ _ h => h) (Or.inl ⟨by kernel_rfl, by intro W hW; obtain ⟨q0, q1, q2, q3, q4⟩ := hW; go_simp⟩) hHeld ?_
 refine wpAnyH_take (i := 2) (v := .int .i64 (i : Int)) rfl (by kernel_rfl) (by kernel_rfl) (by kernel_rfl) (fun _ _ _ h => h) (Or.inl ⟨by kernel_rfl, by intro W hW; obtain ⟨q0, q1, q2, q3, q4⟩ := hW; go_simp⟩) hHeld ?_
 refine wpAnyH_take (i := 3) (v := .pointer (some ⟨bv, i, none⟩)) rfl (by kernel_rfl) (by kernel_rfl) (by kernel_rfl) (fun _ _ _ h => h) (Or.inl ⟨by kernel_rfl, by intro W hW; obtain ⟨q0, q1, q2, q3, q4⟩ := hW; go_simp⟩) hHeld ?_
 refine wpAnyH_take (i := 4) (v := ptr (q i)) rfl (by kernel_rfl) (by kernel_rfl) (by kernel_rfl) (fun _ _ _ h => h) (Or.inl ⟨by kernel_rfl, by intro W hW; obtain ⟨q0, q1, q2, q3, q4⟩ := hW; go_simp⟩) hHeld ?_
 refine wpAnyH_take (i := 5) (v := .pointer (some ⟨W.heap.size + 1, 8, none⟩)) rfl (by kernel_rfl) (by kernel_rfl) (by kernel_rfl) (fun _ _ _ h => h) (Or.inl ⟨by kernel_rfl, by intro W hW; obtain ⟨q0, q1, q2, q3, q4⟩ := hW; go_simp⟩) hHeld ?_
 refine wpAnyH_take (i := 6) (v := .bool is) rfl (by kernel_rfl) (by kernel_rfl) (by kernel_rfl) (fun _ _ _ h => h) (Or.inl ⟨by kernel_rfl, by intro W hW; obtain ⟨q0, q1, q2, q3, q4⟩ := hW; go_simp⟩) hHeld ?_
 refine wpAnyH_take (i := 7) (v := ptr (q i)) rfl (by kernel_rfl) (by kernel_rfl) (by kernel_rfl) (fun _ _ _ h => h) (Or.inl ⟨by kernel_rfl, by intro W hW; obtain ⟨q0, q1, q2, q3, q4⟩ := hW; go_simp⟩) hHeld ?_
 refine wpAnyH_take (i := 8) (v := .pointer (some ⟨q i, 2, none⟩)) rfl (by kernel_rfl) (by kernel_rfl) (by kernel_rfl) (fun _ _ _ h => h) (Or.inl ⟨by kernel_rfl, by intro W hW; obtain ⟨q0, q1, q2, q3, q4⟩ := hW; go_simp⟩) hHeld ?_
 refine wpAnyH_ready (rs := [9]) (by kernel_rfl) (by simp) ?_
 refine AllReadyH.cons rfl (fun K hK => ?_) AllReadyH.nil
 with_reducible refine step_storeF 4 ?_ ?_ (.tmp 89) (.tmp 87) ?_ (q i) 2 ?_ (.bool is) ?_ ?_ ?_ ?_ z0 z1 ?_
 ·exact rfl
 ·exact rfl
 ·exact rfl
 ·kernel_rfl
 ·kernel_rfl
 ·exact rfl
 ·kernel_rfl
 ·exact rfl
 refine hK.out _ _ (HSS.out _ _ _ HM2.out) (fun _ => ?_)
 clear hK K hHeld
 refine wpAnyH_done (by kernel_rfl) ?_ _
 clear z0 z1 HMd
 go_wp2_with fail
 generalize w6.setCell ⟨q i, 2, none⟩ (.bool is) = w7 at *
 have HC := hid (HSS.out _ _ _ HM2.out)
 go_region_held3 (fun w' => w'.cell? ⟨W.heap.size, 0, none⟩ = some (.slice (some ⟨bd, 0, none⟩) k cd) ∧ w'.cell? ⟨W.heap.size, 1, none⟩ = some (.slice (some ⟨bv, 0, none⟩) k cv) ∧ w'.cell? ⟨W.heap.size + 1, 8, none⟩ = some (.bool is) ∧ w'.cell? ⟨bd, i, none⟩ = some (ptr (p i)) ∧ w'.cell? ⟨bv, i, none⟩ = some (ptr (q i))) (exact HC.out) (
  (go_at_call 34; (first | refine (HP.out _ (HM2.out.below (below_drewN _ _))).mono ?_ | refine (HP.out _ HM2.out).mono ?_); rintro e w2 ⟨rfl, hm2⟩; have HM3 := hid hm2; have HC := hid (HSS.out _ _ _ hm2); clear hm2))
 go_wp2
 try go_ret
 first | exact HEND.out _ HM3.out | exact HEND.out _ (HM3.out.below (below_drewN _ _))
set_option maxHeartbeats 8000000 in
set_option maxRecDepth 100000 in
theorem happens_full {w W : World} {k : Nat} {p q : Nat → Nat} {X : FS} {dv wv : Value} {Z : Nat → Prop} (h : FY w k p q X X dv wv Z W) (hk : k ≤ 18) (h0 : 0 < k) (x : AcV) (h5 : x.kd = 7) :
  Calls Tryz.prog 7 #[.agg #[dv, wv], x.v] W (HXt w k p q ⟨upd X.d (pkN x.wh k) { X.d (pkN x.wh k) with full := x.is }, X.f⟩ dv wv Z W) := by
 obtain ⟨bd, cd, hdv⟩ := h.dform h0
 obtain ⟨bv, cv, hwv⟩ := h.wform h0
 subst hdv
 subst hwv
 obtain ⟨kd, wh, nn, at_, a, bp, bc, b, ⟨fpo, fc, rows⟩, np, nc, ns, is, m, kp, kc, ks⟩ := x
 dsimp only [AcV.v, AcV.cs, FsV.v] at *
 subst h5
 have HPK := hid (fun W' => pick_any wh k W' (by omega) (by omega))
 have hi := pkN_lt wh k (by omega)
 generalize pkN wh k = i at *
 have hi' : (i : Int) < (k : Int) := by omega
 have hi2 : (i : Int) < 1000 := by omega
 obtain ⟨hen, hz0, -⟩ := h.enter (.cells #[.slice (some ⟨bd, 0, none⟩) k cd, .slice (some ⟨bv, 0, none⟩) k cv] 26) (.cells #[.int .i64 7, .int .i64 wh, .int .i64 nn, .int .i64 at_, sv a, .slice bp b.length bc, .slice fpo rows.length fc, .slice np ns.length nc, .bool is, .int .u8 (m : Int), .slice kp ks.length kc] 35)
 obtain ⟨q1, q2⟩ := box_cells W #[.slice (some ⟨bd, 0, none⟩) k cd, .slice (some ⟨bv, 0, none⟩) k cv] #[.int .i64 7, .int .i64 wh, .int .i64 nn, .int .i64 at_, sv a, .slice bp b.length bc, .slice fpo rows.length fc, .slice np ns.length nc, .bool is, .int .u8 (m : Int), .slice kp ks.length kc] 26 35
 have HM0 := hid hen
 have HSS : Hid (∀ X' Y' W', HY w k p q X' Y' (.slice (some ⟨bd, 0, none⟩) k cd) (.slice (some ⟨bv, 0, none⟩) k cv) (fun b => Z b ∨ b = W.heap.size ∨ b = W.heap.size + 1) ((W.alloc (.cells #[.slice (some ⟨bd, 0, none⟩) k cd, .slice (some ⟨bv, 0, none⟩) k cv] 26)).alloc (.cells #[.int .i64 7, .int .i64 wh, .int .i64 nn, .int .i64 at_, sv a, .slice bp b.length bc, .slice fpo rows.length fc, .slice np ns.length nc, .bool is, .int .u8 (m : Int), .slice kp ks.length kc] 35)) W' → W'.cell? ⟨W.heap.size, 0, none⟩ = some (.slice (some ⟨bd, 0, none⟩) k cd) ∧ W'.cell? ⟨W.heap.size, 1, none⟩ = some (.slice (some ⟨bv, 0, none⟩) k cv) ∧ W'.cell? ⟨W.heap.size + 1, 8, none⟩ = some (.bool is) ∧ W'.cell? ⟨bd, i, none⟩ = some (ptr (p i)) ∧ W'.cell? ⟨bv, i, none⟩ = some (ptr (q i))) := hid (fun X' Y' W' hy => ⟨hy.box (.inr (.inl rfl)) (q1 0 _ rfl), hy.box (.inr (.inl rfl)) (q1 1 _ rfl), hy.box (.inr (.inr rfl)) (q2 8 _ rfl), hy.fy.dcell hi, hy.fy.wcell hi⟩)
 have HF : Hid (∀ W', HY w k p q X X (.slice (some ⟨bd, 0, none⟩) k cd) (.slice (some ⟨bv, 0, none⟩) k cv) (fun b => Z b ∨ b = W.heap.size ∨ b = W.heap.size + 1) ((W.alloc (.cells #[.slice (some ⟨bd, 0, none⟩) k cd, .slice (some ⟨bv, 0, none⟩) k cv] 26)).alloc (.cells #[.int .i64 7, .int .i64 wh, .int .i64 nn, .int .i64 at_, sv a, .slice bp b.length bc, .slice fpo rows.length fc, .slice np ns.length nc, .bool is, .int .u8 (m : Int), .slice kp ks.length kc] 35)) W' → W'.cell? ⟨q i, 3, none⟩ = some (.bool (X.d i).full) ∧ W'.frozen? ⟨q i, 3, none⟩ = false) := hid (fun W' hy => ⟨hy.fy.flagC hi |>.2.1, hy.fy.flagC hi |>.2.2.2⟩)
 have HQ : Hid (∀ W', HY w k p q X X (.slice (some ⟨bd, 0, none⟩) k cd) (.slice (some ⟨bv, 0, none⟩) k cv) (fun b => Z b ∨ b = W.heap.size ∨ b = W.heap.size + 1) ((W.alloc (.cells #[.slice (some ⟨bd, 0, none⟩) k cd, .slice (some ⟨bv, 0, none⟩) k cv] 26)).alloc (.cells #[.int .i64 7, .int .i64 wh, .int .i64 nn, .int .i64 at_, sv a, .slice bp b.length bc, .slice fpo rows.length fc, .slice np ns.length nc, .bool is, .int .u8 (m : Int), .slice kp ks.length kc] 35)) W' → HY w k p q X ⟨upd X.d i { X.d i with full := is }, X.f⟩ (.slice (some ⟨bd, 0, none⟩) k cd) (.slice (some ⟨bv, 0, none⟩) k cv) (fun b => Z b ∨ b = W.heap.size ∨ b = W.heap.size + 1) ((W.alloc (.cells #[.slice (some ⟨bd, 0, none⟩) k cd, .slice (some ⟨bv, 0, none⟩) k cv] 26)).alloc (.cells #[.int .i64 7, .int .i64 wh, .int .i64 nn, .int .i64 at_, sv a, .slice bp b.length bc, .slice fpo rows.length fc, .slice np ns.length nc, .bool is, .int .u8 (m : Int), .slice kp ks.length kc] 35)) (W'.setCell ⟨q i, 3, none⟩ (.bool is))) := hid (fun W' hy => hy.flag hi 3 (.bool is) (fun v fu => rfl) rfl)
 have HP : Hid (∀ W', HY w k p q X ⟨upd X.d i { X.d i with full := is }, X.f⟩ (.slice (some ⟨bd, 0, none⟩) k cd) (.slice (some ⟨bv, 0, none⟩) k cv) (fun b => Z b ∨ b = W.heap.size ∨ b = W.heap.size + 1) ((W.alloc (.cells #[.slice (some ⟨bd, 0, none⟩) k cd, .slice (some ⟨bv, 0, none⟩) k cv] 26)).alloc (.cells #[.int .i64 7, .int .i64 wh, .int .i64 nn, .int .i64 at_, sv a, .slice bp b.length bc, .slice fpo rows.length fc, .slice np ns.length nc, .bool is, .int .u8 (m : Int), .slice kp ks.length kc] 35)) W' → Calls Tryz.prog 35 #[ptr (p i), .bool is] W' fun e W2 => e = .returned (.int .i64 0) ∧ HY w k p q ⟨upd X.d i { X.d i with full := is }, X.f⟩ ⟨upd X.d i { X.d i with full := is }, X.f⟩ (.slice (some ⟨bd, 0, none⟩) k cd) (.slice (some ⟨bv, 0, none⟩) k cv) (fun b => Z b ∨ b = W.heap.size ∨ b = W.heap.size + 1) ((W.alloc (.cells #[.slice (some ⟨bd, 0, none⟩) k cd, .slice (some ⟨bv, 0, none⟩) k cv] 26)).alloc (.cells #[.int .i64 7, .int .i64 wh, .int .i64 nn, .int .i64 at_, sv a, .slice bp b.length bc, .slice fpo rows.length fc, .slice np ns.length nc, .bool is, .int .u8 (m : Int), .slice kp ks.length kc] 35)) W2) := hid (fun W' hy => hy.pstep (X2 := ⟨upd X.d i { X.d i with full := is }, X.f⟩) fun T hf _ _ => (hf.setA hi fun fu S m' L hd => full_any hd is).mono fun e W2 hh => ⟨hh.1, hh.2.out⟩)
 have HEND : Hid (∀ W', HY w k p q ⟨upd X.d i { X.d i with full := is }, X.f⟩ ⟨upd X.d i { X.d i with full := is }, X.f⟩ (.slice (some ⟨bd, 0, none⟩) k cd) (.slice (some ⟨bv, 0, none⟩) k cv) (fun b => Z b ∨ b = W.heap.size ∨ b = W.heap.size + 1) ((W.alloc (.cells #[.slice (some ⟨bd, 0, none⟩) k cd, .slice (some ⟨bv, 0, none⟩) k cv] 26)).alloc (.cells #[.int .i64 7, .int .i64 wh, .int .i64 nn, .int .i64 at_, sv a, .slice bp b.length bc, .slice fpo rows.length fc, .slice np ns.length nc, .bool is, .int .u8 (m : Int), .slice kp ks.length kc] 35)) W' → HXt w k p q ⟨upd X.d i { X.d i with full := is }, X.f⟩ (.slice (some ⟨bd, 0, none⟩) k cd) (.slice (some ⟨bv, 0, none⟩) k cv) Z W (.returned (.bool true)) W') := hid (fun W' hy => hy.leave hz0)
 clear q1 q2 hen h
 generalize HXt w k p q ⟨upd X.d i { X.d i with full := is }, X.f⟩ (.slice (some ⟨bd, 0, none⟩) k cd) (.slice (some ⟨bv, 0, none⟩) k cv) Z W = PP at *
 clear hz0
 go_enter Tryz.func7, Tryz.ntmps7
 go_wp2_with (go_at_call 31; refine (HPK.out _).mono ?_; rintro e w1 ⟨rfl, hw⟩; have hw2 := hw.symm; subst hw2)
 generalize (W.alloc (.cells #[.slice (some ⟨bd, 0, none⟩) k cd, .slice (some ⟨bv, 0, none⟩) k cv] 26)).alloc (.cells #[.int .i64 7, .int .i64 wh, .int .i64 nn, .int .i64 at_, sv a, .slice bp b.length bc, .slice fpo rows.length fc, .slice np ns.length nc, .bool is, .int .u8 (m : Int), .slice kp ks.length kc] 35) = Bx at *
 obtain ⟨x0, x1, x8, y0, y1⟩ := HSS.out _ _ _ HM0.out
 have HMd := hid (HM0.out.below ((Below.refl _ _).drew : Below Bx.heap.size Bx Bx.drew))
 refine wp_region_held_drew (S := (fun w' => w'.cell? ⟨W.heap.size, 0, none⟩ = some (.slice (some ⟨bd, 0, none⟩) k cd) ∧ w'.cell? ⟨W.heap.size, 1, none⟩ = some (.slice (some ⟨bv, 0, none⟩) k cv) ∧ w'.cell? ⟨W.heap.size + 1, 8, none⟩ = some (.bool is) ∧ w'.cell? ⟨bd, i, none⟩ = some (ptr (p i)) ∧ w'.cell? ⟨bv, i, none⟩ = some (ptr (q i)))) (by kernel_rfl) (HSS.out _ _ _ HMd.out) ?_
 clear x0 x1 x8 y0 y1
 generalize Bx.drew = w6 at HMd ⊢
 obtain ⟨z0, z1⟩ := HF.out _ HMd.out
 have HM2 := hid (HQ.out _ HMd.out)
 intro hHeld
 refine wpAnyH_take (i := 0) (v := .pointer (some ⟨W.heap.size, 1, none⟩)) rfl (by kernel_rfl) (by kernel_rfl) (by kernel_rfl) (fun _ _ _ h => h) (Or.inl ⟨by kernel_rfl, by intro W hW; obtain ⟨q0, q1, q2, q3, q4⟩ := hW; go_simp⟩) hHeld ?_
 refine wpAnyH_take (i := 1) (v := .slice (some ⟨bv, 0, none⟩) k cv) rfl (by kernel_rfl) (by kernel_rfl) (by kernel_rfl) (fun _ _ _ h => h) (Or.inl ⟨by kernel_rfl, by intro W hW; obtain ⟨q0, q1, q2, q3, q4⟩ := hW; go_simp⟩) hHeld ?_
 refine wpAnyH_take (i := 2) (v := .int .i64 (i : Int)) rfl (by kernel_rfl) (by kernel_rfl) (by kernel_rfl) (fun _ _ _ h => h) (Or.inl ⟨by kernel_rfl, by intro W hW; obtain ⟨q0, q1, q2, q3, q4⟩ := hW; go_simp⟩) hHeld ?_
 refine wpAnyH_take (i := 3) (v := .pointer (some ⟨bv, i, none⟩)) rfl (by kernel_rfl) (by kernel_rfl) (by kernel_rfl) (fun _ _ _ h => h) (Or.inl ⟨by kernel_rfl, by intro W hW; obtain ⟨q0, q1, q2, q3, q4⟩ := hW; go_simp⟩) hHeld ?_
 refine wpAnyH_take (i := 4) (v := ptr (q i)) rfl (by kernel_rfl) (by kernel_rfl) (by kernel_rfl) (fun _ _ _ h => h) (Or.inl ⟨by kernel_rfl, by intro W hW; obtain ⟨q0, q1, q2, q3, q4⟩ := hW; go_simp⟩) hHeld ?_
 refine wpAnyH_take (i := 5) (v := .pointer (some ⟨W.heap.size + 1, 8, none⟩)) rfl (by kernel_rfl) (by kernel_rfl) (by kernel_rfl) (fun _ _ _ h => h) (Or.inl ⟨by kernel_rfl, by intro W hW; obtain ⟨q0, q1, q2, q3, q4⟩ := hW; go_simp⟩) hHeld ?_
 refine wpAnyH_take (i := 6) (v := .bool is) rfl (by kernel_rfl) (by kernel_rfl) (by kernel_rfl) (fun _ _ _ h => h) (Or.inl ⟨by kernel_rfl, by intro W hW; obtain ⟨q0, q1, q2, q3, q4⟩ := hW; go_simp⟩) hHeld ?_
 refine wpAnyH_take (i := 7) (v := ptr (q i)) rfl (by kernel_rfl) (by kernel_rfl) (by kernel_rfl) (fun _ _ _ h => h) (Or.inl ⟨by kernel_rfl, by intro W hW; obtain ⟨q0, q1, q2, q3, q4⟩ := hW; go_simp⟩) hHeld ?_
 refine wpAnyH_take (i := 8) (v := .pointer (some ⟨q i, 3, none⟩)) rfl (by kernel_rfl) (by kernel_rfl) (by kernel_rfl) (fun _ _ _ h => h) (Or.inl ⟨by kernel_rfl, by intro W hW; obtain ⟨q0, q1, q2, q3, q4⟩ := hW; go_simp⟩) hHeld ?_
 refine wpAnyH_ready (rs := [9]) (by kernel_rfl) (by simp) ?_
 refine AllReadyH.cons rfl (fun K hK => ?_) AllReadyH.nil
 with_reducible refine step_storeF 4 ?_ ?_ (.tmp 109) (.tmp 107) ?_ (q i) 3 ?_ (.bool is) ?_ ?_ ?_ ?_ z0 z1 ?_
 ·exact rfl
 ·exact rfl
 ·exact rfl
 ·kernel_rfl
 ·kernel_rfl
 ·exact rfl
 ·kernel_rfl
 ·exact rfl
 refine hK.out _ _ (HSS.out _ _ _ HM2.out) (fun _ => ?_)
 clear hK K hHeld
 refine wpAnyH_done (by kernel_rfl) ?_ _
 clear z0 z1 HMd
 go_wp2_with fail
 generalize w6.setCell ⟨q i, 3, none⟩ (.bool is) = w7 at *
 have HC := hid (HSS.out _ _ _ HM2.out)
 go_region_held3 (fun w' => w'.cell? ⟨W.heap.size, 0, none⟩ = some (.slice (some ⟨bd, 0, none⟩) k cd) ∧ w'.cell? ⟨W.heap.size, 1, none⟩ = some (.slice (some ⟨bv, 0, none⟩) k cv) ∧ w'.cell? ⟨W.heap.size + 1, 8, none⟩ = some (.bool is) ∧ w'.cell? ⟨bd, i, none⟩ = some (ptr (p i)) ∧ w'.cell? ⟨bv, i, none⟩ = some (ptr (q i))) (exact HC.out) (
  (go_at_call 35; (first | refine (HP.out _ (HM2.out.below (below_drewN _ _))).mono ?_ | refine (HP.out _ HM2.out).mono ?_); rintro e w2 ⟨rfl, hm2⟩; have HM3 := hid hm2; have HC := hid (HSS.out _ _ _ hm2); clear hm2))
 go_wp2
 try go_ret
 first | exact HEND.out _ HM3.out | exact HEND.out _ (HM3.out.below (below_drewN _ _))
end Go.Proofs.YtfogkegmdgbecaaGreatDoor

/- happens of FanScript: a fuse. -/
namespace Go.Proofs.YtfogkegmdgbecaaGreatDoor
open Go Go.RowKit Go.Shelf
set_option maxHeartbeats 8000000 in
set_option maxRecDepth 100000 in
theorem happens_fuse {w W : World} {k : Nat} {p q : Nat → Nat} {X : FS} {dv wv : Value} {Z : Nat → Prop} (h : FY w k p q X X dv wv Z W) (hk : k ≤ 18) (x : AcV) (h5 : x.kd = 10) (h0 : 0 ≤ x.nn) (hn : x.nn ≤ 9223372036854775807) :
  Calls Tryz.prog 7 #[.agg #[dv, wv], x.v] W (HXt w k p q ⟨fun i => (X.d i).lit X.f, some (x.nn.toNat, false)⟩ dv wv Z W) := by
 obtain ⟨dp, dc, hdv⟩ := h.dls.form
 obtain ⟨wp, wc, hwv⟩ := h.wls.form
 subst hdv
 subst hwv
 obtain ⟨kd, wh, nn, at_, a, bp, bc, b, ⟨fpo, fc, rows⟩, np, nc, ns, is, m, kp, kc, ks⟩ := x
 dsimp only [AcV.v, AcV.cs, FsV.v] at *
 subst h5
 obtain ⟨hen, hz0, -⟩ := h.enter (.cells #[.slice dp k dc, .slice wp k wc] 26) (.cells #[.int .i64 10, .int .i64 wh, .int .i64 nn, .int .i64 at_, sv a, .slice bp b.length bc, .slice fpo rows.length fc, .slice np ns.length nc, .bool is, .int .u8 (m : Int), .slice kp ks.length kc] 35)
 obtain ⟨q1, q2⟩ := box_cells W #[.slice dp k dc, .slice wp k wc] #[.int .i64 10, .int .i64 wh, .int .i64 nn, .int .i64 at_, sv a, .slice bp b.length bc, .slice fpo rows.length fc, .slice np ns.length nc, .bool is, .int .u8 (m : Int), .slice kp ks.length kc] 26 35
 have HM0 := hid hen
 have HSS : Hid (∀ X' Y' W', HY w k p q X' Y' (.slice dp k dc) (.slice wp k wc) (fun b => Z b ∨ b = W.heap.size ∨ b = W.heap.size + 1) ((W.alloc (.cells #[.slice dp k dc, .slice wp k wc] 26)).alloc (.cells #[.int .i64 10, .int .i64 wh, .int .i64 nn, .int .i64 at_, sv a, .slice bp b.length bc, .slice fpo rows.length fc, .slice np ns.length nc, .bool is, .int .u8 (m : Int), .slice kp ks.length kc] 35)) W' → W'.cell? ⟨W.heap.size, 0, none⟩ = some (.slice dp k dc) ∧ W'.cell? ⟨W.heap.size, 1, none⟩ = some (.slice wp k wc) ∧ W'.cell? ⟨W.heap.size + 1, 2, none⟩ = some (.int .i64 nn)) := hid (fun X' Y' W' hy => ⟨hy.box (.inr (.inl rfl)) (q1 0 _ rfl), hy.box (.inr (.inl rfl)) (q1 1 _ rfl), hy.box (.inr (.inr rfl)) (q2 2 _ rfl)⟩)
 have HP : Hid (∀ W', HY w k p q X X (.slice dp k dc) (.slice wp k wc) (fun b => Z b ∨ b = W.heap.size ∨ b = W.heap.size + 1) ((W.alloc (.cells #[.slice dp k dc, .slice wp k wc] 26)).alloc (.cells #[.int .i64 10, .int .i64 wh, .int .i64 nn, .int .i64 at_, sv a, .slice bp b.length bc, .slice fpo rows.length fc, .slice np ns.length nc, .bool is, .int .u8 (m : Int), .slice kp ks.length kc] 35)) W' → Calls Tryz.prog 29 #[(.slice dp k dc), .int .i64 nn] W' fun e W2 => e = .returned (.int .i64 0) ∧ HY w k p q ⟨fun i => (X.d i).lit X.f, some (nn.toNat, false)⟩ X (.slice dp k dc) (.slice wp k wc) (fun b => Z b ∨ b = W.heap.size ∨ b = W.heap.size + 1) ((W.alloc (.cells #[.slice dp k dc, .slice wp k wc] 26)).alloc (.cells #[.int .i64 10, .int .i64 wh, .int .i64 nn, .int .i64 at_, sv a, .slice bp b.length bc, .slice fpo rows.length fc, .slice np ns.length nc, .bool is, .int .u8 (m : Int), .slice kp ks.length kc] 35)) W2) := hid (fun W' hy => hy.pstep (X2 := ⟨fun i => (X.d i).lit X.f, some (nn.toNat, false)⟩) fun T hf hl _ => by have e := fuse_fa hf hl (by omega) nn.toNat (by omega); rw [Int.toNat_of_nonneg h0] at e; exact e.mono fun e W2 hh => ⟨hh.1, hh.2.out⟩)
 have HQ : Hid (∀ W', HY w k p q ⟨fun i => (X.d i).lit X.f, some (nn.toNat, false)⟩ X (.slice dp k dc) (.slice wp k wc) (fun b => Z b ∨ b = W.heap.size ∨ b = W.heap.size + 1) ((W.alloc (.cells #[.slice dp k dc, .slice wp k wc] 26)).alloc (.cells #[.int .i64 10, .int .i64 wh, .int .i64 nn, .int .i64 at_, sv a, .slice bp b.length bc, .slice fpo rows.length fc, .slice np ns.length nc, .bool is, .int .u8 (m : Int), .slice kp ks.length kc] 35)) W' → Calls Tryz.prog 30 #[(.slice wp k wc), .int .i64 nn] W' fun e W2 => e = .returned (.int .i64 0) ∧ HY w k p q ⟨fun i => (X.d i).lit X.f, some (nn.toNat, false)⟩ ⟨fun i => (X.d i).lit X.f, some (nn.toNat, false)⟩ (.slice dp k dc) (.slice wp k wc) (fun b => Z b ∨ b = W.heap.size ∨ b = W.heap.size + 1) ((W.alloc (.cells #[.slice dp k dc, .slice wp k wc] 26)).alloc (.cells #[.int .i64 10, .int .i64 wh, .int .i64 nn, .int .i64 at_, sv a, .slice bp b.length bc, .slice fpo rows.length fc, .slice np ns.length nc, .bool is, .int .u8 (m : Int), .slice kp ks.length kc] 35)) W2) := hid (fun W' hy => hy.rstep (Y2 := ⟨fun i => (X.d i).lit X.f, some (nn.toNat, false)⟩) fun T hf hl _ => by have e := rlight_ra hf hl (by omega) nn.toNat (by omega); rw [Int.toNat_of_nonneg h0] at e; exact e.mono fun e W2 hh => ⟨hh.1, hh.2.out⟩)
 have HEND : Hid (∀ W', HY w k p q ⟨fun i => (X.d i).lit X.f, some (nn.toNat, false)⟩ ⟨fun i => (X.d i).lit X.f, some (nn.toNat, false)⟩ (.slice dp k dc) (.slice wp k wc) (fun b => Z b ∨ b = W.heap.size ∨ b = W.heap.size + 1) ((W.alloc (.cells #[.slice dp k dc, .slice wp k wc] 26)).alloc (.cells #[.int .i64 10, .int .i64 wh, .int .i64 nn, .int .i64 at_, sv a, .slice bp b.length bc, .slice fpo rows.length fc, .slice np ns.length nc, .bool is, .int .u8 (m : Int), .slice kp ks.length kc] 35)) W' → HXt w k p q ⟨fun i => (X.d i).lit X.f, some (nn.toNat, false)⟩ (.slice dp k dc) (.slice wp k wc) Z W (.returned (.bool true)) W') := hid (fun W' hy => hy.leave hz0)
 clear q1 q2 hen h
 generalize HXt w k p q ⟨fun i => (X.d i).lit X.f, some (nn.toNat, false)⟩ (.slice dp k dc) (.slice wp k wc) Z W = PP at *
 clear hz0 h0
 go_enter Tryz.func7, Tryz.ntmps7
 go_wp2_with fail
 generalize (W.alloc (.cells #[.slice dp k dc, .slice wp k wc] 26)).alloc (.cells #[.int .i64 10, .int .i64 wh, .int .i64 nn, .int .i64 at_, sv a, .slice bp b.length bc, .slice fpo rows.length fc, .slice np ns.length nc, .bool is, .int .u8 (m : Int), .slice kp ks.length kc] 35) = Bx at *
 have HC := hid (HSS.out _ _ _ HM0.out)
 go_region_held3 (fun w' => w'.cell? ⟨W.heap.size, 0, none⟩ = some (.slice dp k dc) ∧ w'.cell? ⟨W.heap.size, 1, none⟩ = some (.slice wp k wc) ∧ w'.cell? ⟨W.heap.size + 1, 2, none⟩ = some (.int .i64 nn)) (exact HC.out) (first
  | (go_at_call 29; (first | refine (HP.out _ (HM0.out.below (below_drewN _ _))).mono ?_ | refine (HP.out _ HM0.out).mono ?_); rintro e w2 ⟨rfl, hm2⟩; have HM1 := hid hm2; have HC := hid (HSS.out _ _ _ hm2); clear hm2)
  | (go_at_call 30; (first | refine (HQ.out _ (HM1.out.below (below_drewN _ _))).mono ?_ | refine (HQ.out _ HM1.out).mono ?_); rintro e w3 ⟨rfl, hm3⟩; have HM2 := hid hm3; have HC := hid (HSS.out _ _ _ hm3); clear hm3))
 go_wp2
 try go_ret
 first | exact HEND.out _ HM2.out | exact HEND.out _ (HM2.out.below (below_drewN _ _))
set_option maxHeartbeats 8000000 in
set_option maxRecDepth 100000 in
theorem happens_unfuse {w W : World} {k : Nat} {p q : Nat → Nat} {X : FS} {dv wv : Value} {Z : Nat → Prop} (h : FY w k p q X X dv wv Z W) (hk : k ≤ 18) (x : AcV) (h5 : x.kd = 10) (h0 : x.nn < 0) :
  Calls Tryz.prog 7 #[.agg #[dv, wv], x.v] W (HXt w k p q X dv wv Z W) := by
 obtain ⟨dp, dc, hdv⟩ := h.dls.form
 obtain ⟨wp, wc, hwv⟩ := h.wls.form
 subst hdv
 subst hwv
 obtain ⟨kd, wh, nn, at_, a, bp, bc, b, ⟨fpo, fc, rows⟩, np, nc, ns, is, m, kp, kc, ks⟩ := x
 dsimp only [AcV.v, AcV.cs, FsV.v] at *
 subst h5
 obtain ⟨hen, hz0, -⟩ := h.enter (.cells #[.slice dp k dc, .slice wp k wc] 26) (.cells #[.int .i64 10, .int .i64 wh, .int .i64 nn, .int .i64 at_, sv a, .slice bp b.length bc, .slice fpo rows.length fc, .slice np ns.length nc, .bool is, .int .u8 (m : Int), .slice kp ks.length kc] 35)
 obtain ⟨q1, q2⟩ := box_cells W #[.slice dp k dc, .slice wp k wc] #[.int .i64 10, .int .i64 wh, .int .i64 nn, .int .i64 at_, sv a, .slice bp b.length bc, .slice fpo rows.length fc, .slice np ns.length nc, .bool is, .int .u8 (m : Int), .slice kp ks.length kc] 26 35
 have HM0 := hid hen
 have HSS : Hid (∀ X' Y' W', HY w k p q X' Y' (.slice dp k dc) (.slice wp k wc) (fun b => Z b ∨ b = W.heap.size ∨ b = W.heap.size + 1) ((W.alloc (.cells #[.slice dp k dc, .slice wp k wc] 26)).alloc (.cells #[.int .i64 10, .int .i64 wh, .int .i64 nn, .int .i64 at_, sv a, .slice bp b.length bc, .slice fpo rows.length fc, .slice np ns.length nc, .bool is, .int .u8 (m : Int), .slice kp ks.length kc] 35)) W' → W'.cell? ⟨W.heap.size, 0, none⟩ = some (.slice dp k dc) ∧ W'.cell? ⟨W.heap.size, 1, none⟩ = some (.slice wp k wc) ∧ W'.cell? ⟨W.heap.size + 1, 2, none⟩ = some (.int .i64 nn)) := hid (fun X' Y' W' hy => ⟨hy.box (.inr (.inl rfl)) (q1 0 _ rfl), hy.box (.inr (.inl rfl)) (q1 1 _ rfl), hy.box (.inr (.inr rfl)) (q2 2 _ rfl)⟩)
 have HP : Hid (∀ W', HY w k p q X X (.slice dp k dc) (.slice wp k wc) (fun b => Z b ∨ b = W.heap.size ∨ b = W.heap.size + 1) ((W.alloc (.cells #[.slice dp k dc, .slice wp k wc] 26)).alloc (.cells #[.int .i64 10, .int .i64 wh, .int .i64 nn, .int .i64 at_, sv a, .slice bp b.length bc, .slice fpo rows.length fc, .slice np ns.length nc, .bool is, .int .u8 (m : Int), .slice kp ks.length kc] 35)) W' → Calls Tryz.prog 29 #[(.slice dp k dc), .int .i64 nn] W' fun e W2 => e = .returned (.int .i64 2) ∧ HY w k p q X X (.slice dp k dc) (.slice wp k wc) (fun b => Z b ∨ b = W.heap.size ∨ b = W.heap.size + 1) ((W.alloc (.cells #[.slice dp k dc, .slice wp k wc] 26)).alloc (.cells #[.int .i64 10, .int .i64 wh, .int .i64 nn, .int .i64 at_, sv a, .slice bp b.length bc, .slice fpo rows.length fc, .slice np ns.length nc, .bool is, .int .u8 (m : Int), .slice kp ks.length kc] 35)) W2) := hid (fun W' hy => hy.pstep (X2 := X) fun T hf hl _ => (fuse_bad nn h0 hf hl (by omega)).mono (by rintro e W2 ⟨rfl, rfl⟩; exact ⟨rfl, ⟨T, Grows.refl _ _, hf⟩, Only.refl _ _⟩))
 have HQ : Hid (∀ W', HY w k p q X X (.slice dp k dc) (.slice wp k wc) (fun b => Z b ∨ b = W.heap.size ∨ b = W.heap.size + 1) ((W.alloc (.cells #[.slice dp k dc, .slice wp k wc] 26)).alloc (.cells #[.int .i64 10, .int .i64 wh, .int .i64 nn, .int .i64 at_, sv a, .slice bp b.length bc, .slice fpo rows.length fc, .slice np ns.length nc, .bool is, .int .u8 (m : Int), .slice kp ks.length kc] 35)) W' → Calls Tryz.prog 30 #[(.slice wp k wc), .int .i64 nn] W' fun e W2 => e = .returned (.int .i64 2) ∧ HY w k p q X X (.slice dp k dc) (.slice wp k wc) (fun b => Z b ∨ b = W.heap.size ∨ b = W.heap.size + 1) ((W.alloc (.cells #[.slice dp k dc, .slice wp k wc] 26)).alloc (.cells #[.int .i64 10, .int .i64 wh, .int .i64 nn, .int .i64 at_, sv a, .slice bp b.length bc, .slice fpo rows.length fc, .slice np ns.length nc, .bool is, .int .u8 (m : Int), .slice kp ks.length kc] 35)) W2) := hid (fun W' hy => hy.rstep (Y2 := X) fun T hf hl _ => (rlight_bad wp k wc nn h0 _).mono (by rintro e W2 ⟨rfl, rfl⟩; exact ⟨rfl, ⟨T, Grows.refl _ _, hf⟩, Only.refl _ _⟩))
 have HEND : Hid (∀ W', HY w k p q X X (.slice dp k dc) (.slice wp k wc) (fun b => Z b ∨ b = W.heap.size ∨ b = W.heap.size + 1) ((W.alloc (.cells #[.slice dp k dc, .slice wp k wc] 26)).alloc (.cells #[.int .i64 10, .int .i64 wh, .int .i64 nn, .int .i64 at_, sv a, .slice bp b.length bc, .slice fpo rows.length fc, .slice np ns.length nc, .bool is, .int .u8 (m : Int), .slice kp ks.length kc] 35)) W' → HXt w k p q X (.slice dp k dc) (.slice wp k wc) Z W (.returned (.bool true)) W') := hid (fun W' hy => hy.leave hz0)
 clear q1 q2 hen h
 generalize HXt w k p q X (.slice dp k dc) (.slice wp k wc) Z W = PP at *
 clear hz0 h0
 go_enter Tryz.func7, Tryz.ntmps7
 go_wp2_with fail
 generalize (W.alloc (.cells #[.slice dp k dc, .slice wp k wc] 26)).alloc (.cells #[.int .i64 10, .int .i64 wh, .int .i64 nn, .int .i64 at_, sv a, .slice bp b.length bc, .slice fpo rows.length fc, .slice np ns.length nc, .bool is, .int .u8 (m : Int), .slice kp ks.length kc] 35) = Bx at *
 have HC := hid (HSS.out _ _ _ HM0.out)
 go_region_held3 (fun w' => w'.cell? ⟨W.heap.size, 0, none⟩ = some (.slice dp k dc) ∧ w'.cell? ⟨W.heap.size, 1, none⟩ = some (.slice wp k wc) ∧ w'.cell? ⟨W.heap.size + 1, 2, none⟩ = some (.int .i64 nn)) (exact HC.out) (first
  | (go_at_call 29; (first | refine (HP.out _ (HM0.out.below (below_drewN _ _))).mono ?_ | refine (HP.out _ HM0.out).mono ?_); rintro e w2 ⟨rfl, hm2⟩; have HM1 := hid hm2; have HC := hid (HSS.out _ _ _ hm2); clear hm2)
  | (go_at_call 30; (first | refine (HQ.out _ (HM1.out.below (below_drewN _ _))).mono ?_ | refine (HQ.out _ HM1.out).mono ?_); rintro e w3 ⟨rfl, hm3⟩; have HM2 := hid hm3; have HC := hid (HSS.out _ _ _ hm3); clear hm3))
 go_wp2
 try go_ret
 first | exact HEND.out _ HM2.out | exact HEND.out _ (HM2.out.below (below_drewN _ _))
set_option maxHeartbeats 8000000 in
set_option maxRecDepth 100000 in
theorem happens_none {w W : World} {k : Nat} {p q : Nat → Nat} {X : FS} {dv wv : Value} {Z : Nat → Prop} (h : FY w k p q X X dv wv Z W) (hk : k ≤ 18) (x : AcV) (h9 : x.kd ≠ 9) (h10 : x.kd ≠ 10) (hn : k = 0 ∨ (x.kd ≠ 4 ∧ x.kd ≠ 6 ∧ x.kd ≠ 7 ∧ x.kd ≠ 8 ∧ x.kd ≠ 11)) :
  Calls Tryz.prog 7 #[.agg #[dv, wv], x.v] W (HXt w k p q X dv wv Z W) := by
 obtain ⟨dp, dc, hdv⟩ := h.dls.form
 obtain ⟨wp, wc, hwv⟩ := h.wls.form
 subst hdv
 subst hwv
 obtain ⟨kd, wh, nn, at_, a, bp, bc, b, ⟨fpo, fc, rows⟩, np, nc, ns, is, m, kp, kc, ks⟩ := x
 dsimp only [AcV.v, AcV.cs, FsV.v] at *
 have HEND : Hid (HXt w k p q X (.slice dp k dc) (.slice wp k wc) Z W (.returned (.bool true)) ((W.alloc (.cells #[.slice dp k dc, .slice wp k wc] 26)).alloc (.cells #[.int .i64 kd, .int .i64 wh, .int .i64 nn, .int .i64 at_, sv a, .slice bp b.length bc, .slice fpo rows.length fc, .slice np ns.length nc, .bool is, .int .u8 (m : Int), .slice kp ks.length kc] 35))) := hid ((h.enter (.cells #[.slice dp k dc, .slice wp k wc] 26) (.cells #[.int .i64 kd, .int .i64 wh, .int .i64 nn, .int .i64 at_, sv a, .slice bp b.length bc, .slice fpo rows.length fc, .slice np ns.length nc, .bool is, .int .u8 (m : Int), .slice kp ks.length kc] 35)).1.leave (h.enter (.cells #[.slice dp k dc, .slice wp k wc] 26) (.cells #[.int .i64 kd, .int .i64 wh, .int .i64 nn, .int .i64 at_, sv a, .slice bp b.length bc, .slice fpo rows.length fc, .slice np ns.length nc, .bool is, .int .u8 (m : Int), .slice kp ks.length kc] 35)).2.1)
 have HPK := hid (fun (h1 : 1 ≤ k) W' => pick_any wh k W' h1 (by omega))
 clear h
 generalize HXt w k p q X (.slice dp k dc) (.slice wp k wc) Z W = PP at *
 by_cases h0 : k = 0
 ·subst h0
  clear hn
  go_enter Tryz.func7, Tryz.ntmps7
  go_wp2
  try go_ret
  exact HEND.out
 ·obtain ⟨n4, n6, n7, n8, n11⟩ := hn.resolve_left h0
  have hk0 : ¬ (k : Int) = 0 := by omega
  have HP1 := hid (HPK.out (by omega))
  go_enter Tryz.func7, Tryz.ntmps7
  go_wp2_with (go_at_call 31; refine (HP1.out _).mono ?_; rintro e w1 ⟨rfl, hw⟩; have hw2 := hw.symm; subst hw2)
  try go_ret
  exact HEND.out
end Go.Proofs.YtfogkegmdgbecaaGreatDoor
