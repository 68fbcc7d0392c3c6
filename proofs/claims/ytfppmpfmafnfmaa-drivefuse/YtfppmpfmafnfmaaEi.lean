/- The walk of DriveFuse. -/
import Derived.Test.YtfppmpfmafnfmaaEh
namespace Go.Proofs.Ytfppmpfmafnfmaa
open Go Go.RowKit

def Dn (pa pb pc pd : Nat) (Sa Sb Sc Sd : Nat → Prop) (d : Pd) : Nat → Dv
  | 0 => ⟨pa, Sa, none, d⟩
  | 1 => ⟨pb, Sb, none, d⟩
  | 2 => ⟨pc, Sc, none, d⟩
  | _ => ⟨pd, Sd, none, d⟩
theorem sys4_of {w wr : World} {pa pb pc pd : Nat} {Sa Sb Sc Sd : Nat → Prop} {d : Pd} (ha : AW w wr Sa pa d) (hb : AW w wr Sb pb d) (hc : AW w wr Sc pc d) (hd : AW w wr Sd pd d) (hab : ∀ b, Sa b → ¬ Sb b) (hac : ∀ b, Sa b → ¬ Sc b) (had : ∀ b, Sa b → ¬ Sd b) (hbc : ∀ b, Sb b → ¬ Sc b) (hbd : ∀ b, Sb b → ¬ Sd b) (hcd : ∀ b, Sc b → ¬ Sd b) :
    Sys w wr 4 (Dn pa pb pc pd Sa Sb Sc Sd d) (fun _ => (0, false)) := by
  refine ⟨fun i hi => ?_, fun i hi q e => ?_, fun i j hi hj hij b h1 h2 => ?_, fun i hi => ?_, ha.be⟩
  · have : i = 0 ∨ i = 1 ∨ i = 2 ∨ i = 3 := by omega
    rcases this with rfl | rfl | rfl | rfl
    · exact ha.dr
    · exact hb.dr
    · exact hc.dr
    · exact hd.dr
  · have : i = 0 ∨ i = 1 ∨ i = 2 ∨ i = 3 := by omega
    rcases this with rfl | rfl | rfl | rfl <;> cases e
  · have h3 : i = 0 ∨ i = 1 ∨ i = 2 ∨ i = 3 := by omega
    have h4 : j = 0 ∨ j = 1 ∨ j = 2 ∨ j = 3 := by omega
    rcases h3 with rfl | rfl | rfl | rfl <;> rcases h4 with rfl | rfl | rfl | rfl <;> first | exact absurd rfl hij | exact hab b h1 h2 | exact hab b h2 h1 | exact hac b h1 h2 | exact hac b h2 h1 | exact had b h1 h2 | exact had b h2 h1 | exact hbc b h1 h2 | exact hbc b h2 h1 | exact hbd b h1 h2 | exact hbd b h2 h1 | exact hcd b h1 h2 | exact hcd b h2 h1
  · have : i = 0 ∨ i = 1 ∨ i = 2 ∨ i = 3 := by omega
    rcases this with rfl | rfl | rfl | rfl
    · exact ha.ge
    · exact hb.ge
    · exact hc.ge
    · exact hd.ge
/-- What the loop carries: i acts are done; g: the fuse is gone. -/
def JI (w wr : World) (pa pb pc pd q n i : Nat) (g : Bool) : Prop := ∃ da db dc dd z, FZ w wr pa pb pc pd q da db dc dd z ∧ da.calm i ∧ db.calm i ∧ dc.calm i ∧ dd.calm i ∧
  (g = true → z = (0, true) ∧ da.ops + db.ops = n) ∧ (g = false → da = dc ∧ db = dd ∧ z = (n - (dc.ops + dd.ops), false) ∧ dc.ops + dd.ops ≤ n)
theorem JI.gone {w wr : World} {pa pb pc pd q n i : Nat} (h : JI w wr pa pb pc pd q n i true) : ∃ da db dc dd, FZ w wr pa pb pc pd q da db dc dd (0, true) ∧ da.calm i ∧ db.calm i ∧ dc.calm i ∧ dd.calm i ∧ da.ops + db.ops = n := by
  obtain ⟨da, db, dc, dd, z, h1, h2, h3, h4, h5, h6, _⟩ := h
  obtain ⟨rfl, h7⟩ := h6 rfl
  exact ⟨da, db, dc, dd, h1, h2, h3, h4, h5, h7⟩
theorem JI.live {w wr : World} {pa pb pc pd q n i : Nat} (h : JI w wr pa pb pc pd q n i false) : ∃ dc dd, FZ w wr pa pb pc pd q dc dd dc dd (n - (dc.ops + dd.ops), false) ∧ dc.calm i ∧ dd.calm i ∧ dc.ops + dd.ops ≤ n := by
  obtain ⟨da, db, dc, dd, z, h1, h2, h3, h4, h5, _, h6⟩ := h
  obtain ⟨rfl, rfl, rfl, h7⟩ := h6 rfl
  exact ⟨da, db, h1, h4, h5, h7⟩
theorem up_gone (d : Pd) : d.up (some (0, true)) = false := by unfold Pd.up Pd.isOut goneF; simp
theorem up_calm {d : Pd} {n : Nat} (h : d.calm n) : (d.crash []).up none = true := by unfold Pd.up Pd.isOut Pd.crash goneF; simp [h.offl]
theorem lit_fresh (n : Nat) : (fresh n).lit none = fresh n := rfl
theorem act_at2 {w : World} {b o len i : Nat} (h : ∀ i, i < len → ∃ x : AV, x.ok w ∧ ∀ j, j < 9 → w.cell? ⟨b, o + i * 9 + j, none⟩ = x.val[j]?) (hi : i < len) : ∃ x : AV, ∀ wr, Below w.heap.size w wr → x.ok wr ∧ ∀ j, j < 9 → wr.cell? ⟨b, o + i * 9 + j, none⟩ = x.val[j]? := by
  obtain ⟨x, hx, hc⟩ := h i hi
  refine ⟨x, fun wr hb => ⟨hx.below hb, fun j hj => ?_⟩⟩
  have hl : b < w.heap.size := cell_lt' (a := ⟨b, o + i * 9 + j, none⟩) (by
    rw [hc j hj]
    have : j = 0 ∨ j = 1 ∨ j = 2 ∨ j = 3 ∨ j = 4 ∨ j = 5 ∨ j = 6 ∨ j = 7 ∨ j = 8 := by omega
    rcases this with rfl | rfl | rfl | rfl | rfl | rfl | rfl | rfl | rfl <;> simp [AV.val])
  exact (World.cell?_of_block (hb.block b hl)).trans (hc j hj)
theorem Sys.fuse4 {w wr : World} {pa pb pc pd : Nat} {Sa Sb Sc Sd : Nat → Prop} {d : Pd} (h : Sys w wr 4 (Dn pa pb pc pd Sa Sb Sc Sd d) (fun _ => (0, false))) (hl : d.lit none = d) (bl c : Nat) (hc : CAt wr bl #[ptr pa, ptr pb] 23) (n : Nat) (hn : n ≤ 9223372036854775807) :
    Calls Try.prog 14 #[.slice (some ⟨bl, 0, none⟩) 2 c, .int .i64 (n : Int)] wr fun e w' => e = .returned (.int .i64 0) ∧ ∃ q, FZ w w' pa pb pc pd q d d d d (n, false) := by
  obtain ⟨m1, L1, h1⟩ := h.dr 0 (by omega)
  obtain ⟨m2, L2, h2⟩ := h.dr 1 (by omega)
  refine (fuse2_any h1 (f1 := none) trivial h2 (f2 := none) trivial (h.dj 0 1 (by omega) (by omega) (by omega)) bl c hc n hn).mono fun e w' ⟨e1, q, hq, k1, k2, k3, k4⟩ => ⟨e1, q, Sa, Sb, Sc, Sd, fun b => if b = q then (n, false) else (0, false), ?_, ?_⟩
  · refine (h.lit2 (i := 0) (j := 1) (by omega) (by omega) (by omega) hn hq k1 k2 k3 k4).congr fun i hi => ?_
    have : i = 0 ∨ i = 1 ∨ i = 2 ∨ i = 3 := by omega
    rcases this with rfl | rfl | rfl | rfl
    · show D4 pa pb pc pd q Sa Sb Sc Sd d d d d 0 = ⟨pa, Sa, some q, d.lit none⟩; rw [hl]; rfl
    · show D4 pa pb pc pd q Sa Sb Sc Sd d d d d 1 = ⟨pb, Sb, some q, d.lit none⟩; rw [hl]; rfl
    · rfl
    · rfl
  · exact if_pos rfl
theorem FZ.crash0 {w wr : World} {pa pb pc pd q : Nat} {da db dc dd : Pd} {z : Nat × Bool} (h : FZ w wr pa pb pc pd q da db dc dd z) (hl : da.F.length < 1000000000000) :
    Calls Try.prog 30 #[ptr pa, .slice none 0 0] wr fun e w' => e = .returned (.int .i64 0) ∧ Below w.heap.size w w' ∧ (Calls Try.prog 34 #[ptr pa] w' fun e w2 => e = .returned (.bool ((da.crash []).up none)) ∧ w2 = w') ∧ (Calls Try.prog 34 #[ptr pb] w' fun e w2 => e = .returned (.bool (db.up (some z))) ∧ w2 = w') := by
  obtain ⟨Sa, Sb, Sc, Sd, Z, hs, rfl⟩ := h
  refine (hs.crash (i := 0) (by omega) none 0 [] (Or.inl rfl) (by simp) hl).mono fun e w' ⟨h1, h2, _⟩ => ?_
  rw [setZ_same] at h2
  exact ⟨h1, h2.be, h2.up (i := 0) (by omega), h2.up (i := 1) (by omega)⟩
set_option maxHeartbeats 4000000 in
set_option maxRecDepth 100000 in
theorem driveFuse_walk (pa0 : Option Addr) (na ca : Nat) (n0 : Int) (w : World) (hA : IsActs w pa0 na) (hn64 : -9223372036854775808 ≤ n0 ∧ n0 ≤ 9223372036854775807) :
    Calls Try.prog 7 #[.slice pa0 na ca, .int .i64 n0] w fun e w' => e = .returned (.bool true) ∧ Below w.heap.size w w' := by
  have HAW := hid (awake_any w)
  have HNW := hid (fun W => new_ok 100000 (by omega) (by omega) W)
  have HA := hid hA
  clear hA
  have t1 : True := trivial
  by_cases h40 : 40 < na
  · have h40' : (40 : Int) < (na : Int) := by omega
    go_enter Try.func7, Try.ntmps7
    go_wp2_with (first
    | (go_at_call 20; refine HAW.out.mono ?_; rintro e w1 ⟨rfl, hb1⟩; have HB1 := hid hb1; clear hb1)
    | (go_at_call 9; have _t := t1; refine (HNW.out w1).mono ?_; rintro e w2 ⟨pa, rfl, hd2, hb2⟩; have HDA := hid ((AW.made hd2 hb2).base HB1.out); have HB2 := hid (below_on _ _ HB1.out hb2); have s2 := hb2.size; clear hd2 hb2 t1)
    | (go_at_call 9; refine (HNW.out w2).mono ?_; rintro e w3 ⟨pb, rfl, hd3, hb3⟩; have HDB := hid ((AW.made hd3 hb3).base HB2.out); have HDA := hid (HDA.out.below hb3); have s3 := hb3.size; clear hd3 hb3))
    go_ret
    exact ⟨rfl, HDA.out.be⟩
  by_cases hn0 : n0 < 0
  · have h40' : ¬ (40 : Int) < (na : Int) := by omega
    go_enter Try.func7, Try.ntmps7
    go_wp2_with (first
    | (go_at_call 20; refine HAW.out.mono ?_; rintro e w1 ⟨rfl, hb1⟩; have HB1 := hid hb1; clear hb1)
    | (go_at_call 9; have _t := t1; refine (HNW.out w1).mono ?_; rintro e w2 ⟨pa, rfl, hd2, hb2⟩; have HDA := hid ((AW.made hd2 hb2).base HB1.out); have HB2 := hid (below_on _ _ HB1.out hb2); have s2 := hb2.size; clear hd2 hb2 t1)
    | (go_at_call 9; refine (HNW.out w2).mono ?_; rintro e w3 ⟨pb, rfl, hd3, hb3⟩; have HDB := hid ((AW.made hd3 hb3).base HB2.out); have HDA := hid (HDA.out.below hb3); have s3 := hb3.size; clear hd3 hb3))
    go_ret
    exact ⟨rfl, HDA.out.be⟩
  by_cases hn60 : 60 < n0
  · have h40' : ¬ (40 : Int) < (na : Int) := by omega
    go_enter Try.func7, Try.ntmps7
    go_wp2_with (first
    | (go_at_call 20; refine HAW.out.mono ?_; rintro e w1 ⟨rfl, hb1⟩; have HB1 := hid hb1; clear hb1)
    | (go_at_call 9; have _t := t1; refine (HNW.out w1).mono ?_; rintro e w2 ⟨pa, rfl, hd2, hb2⟩; have HDA := hid ((AW.made hd2 hb2).base HB1.out); have HB2 := hid (below_on _ _ HB1.out hb2); have s2 := hb2.size; clear hd2 hb2 t1)
    | (go_at_call 9; refine (HNW.out w2).mono ?_; rintro e w3 ⟨pb, rfl, hd3, hb3⟩; have HDB := hid ((AW.made hd3 hb3).base HB2.out); have HDA := hid (HDA.out.below hb3); have s3 := hb3.size; clear hd3 hb3))
    go_ret
    exact ⟨rfl, HDA.out.be⟩
  have h40' : ¬ (40 : Int) < (na : Int) := by omega
  obtain ⟨n, rfl⟩ : ∃ n : Nat, n0 = (n : Int) := ⟨n0.toNat, by omega⟩
  have hn60' : n ≤ 60 := by omega
  have t2 : True := trivial
  go_enter Try.func7, Try.ntmps7
  go_wp2_with (first
    | (go_at_call 20; refine HAW.out.mono ?_; rintro e w1 ⟨rfl, hb1⟩; have HB1 := hid hb1; clear hb1)
    | (go_at_call 9; have _t := t1; refine (HNW.out w1).mono ?_; rintro e w2 ⟨pa, rfl, hd2, hb2⟩; have HDA := hid ((AW.made hd2 hb2).base HB1.out); have HB2 := hid (below_on _ _ HB1.out hb2); have s2 := hb2.size; clear hd2 hb2 t1)
    | (go_at_call 9; refine (HNW.out w2).mono ?_; rintro e w3 ⟨pb, rfl, hd3, hb3⟩; have HDB := hid ((AW.made hd3 hb3).base HB2.out); have HDA := hid (HDA.out.below hb3); have s3 := hb3.size; clear hd3 hb3)
    | (go_at_call 12; have _t := t2; refine (HDA.out.clone (by decide) (d2 := fresh 100000) rfl).mono ?_; rintro e w4 ⟨pc, rfl, hP, hb4⟩; have HDC := hid hP; have HDA := hid (HDA.out.below hb4); have HDB := hid (HDB.out.below hb4); have s4 := hb4.size; clear hP hb4 t2)
    | (go_at_call 12; refine (HDB.out.clone (by decide) (d2 := fresh 100000) rfl).mono ?_; rintro e w5 ⟨pd, rfl, hP, hb5⟩; have HDD := hid hP; have HDA := hid (HDA.out.below hb5); have HDB := hid (HDB.out.below hb5); have HDC := hid (HDC.out.below hb5); have s5 := hb5.size
       have HS := hid (sys4_of HDA.out HDB.out HDC.out HDD.out (fun b h1 h2 => by have := h1.2; have := h2.1; omega) (fun b h1 h2 => by have := h1.2; have := h2.1; omega) (fun b h1 h2 => by have := h1.2; have := h2.1; omega) (fun b h1 h2 => by have := h1.2; have := h2.1; omega) (fun b h1 h2 => by have := h1.2; have := h2.1; omega) (fun b h1 h2 => by have := h1.2; have := h2.1; omega))
       clear hP hb5)
    | (go_at_call 14; refine ((HS.out.below ((Below.refl _ _).alloc (Nat.le_refl _) _)).fuse4 (lit_fresh 100000) _ _ (CAt.made _ _ _) n (by omega)).mono ?_; rintro e w6 ⟨rfl, q, hZ⟩; have HJ0 : Hid (JI w w6 pa pb pc pd q n 0 false) := hid ⟨_, _, _, _, _, hZ, ⟨rfl, rfl, Nat.le_refl _, Nat.le_refl _⟩, ⟨rfl, rfl, Nat.le_refl _, Nat.le_refl _⟩, ⟨rfl, rfl, Nat.le_refl _, Nat.le_refl _⟩, ⟨rfl, rfl, Nat.le_refl _, Nat.le_refl _⟩, (fun h => by cases h), fun _ => ⟨rfl, rfl, rfl, Nat.zero_le _⟩⟩; clear hZ))
  clear s2 s3 s4 s5
  go_loopw [12, 13] (fun v12 v13 wr => ∃ (i : Nat) (g : Bool), i ≤ na ∧ v12 = .bool g ∧ v13 = .int .i64 (i : Int) ∧ JI w wr pa pb pc pd q n i g) (fun _ v _ => (na - intOf v).toNat)
  case atStart => exact ⟨0, false, by omega, rfl, rfl, HJ0.out⟩
  case round =>
    obtain ⟨i, g, hi, rfl, rfl, hJ⟩ := hrel
    have HJ := hid hJ
    clear hJ HJ0
    by_cases hlt : i < na
    · have hlt' : (i : Int) < (na : Int) := by omega
      rcases HA.out with h0 | ⟨ba, oa, rfl, hx⟩
      · omega
      obtain ⟨x, hxa⟩ := act_at2 hx hlt
      have HX := hid hxa
      clear hxa hx
      have hbe : Below w.heap.size w wr := by obtain ⟨_, _, _, _, _, hz, _⟩ := HJ.out; exact hz.be
      have hxc := (HX.out wr hbe).2
      have x0 : wr.cell? ⟨ba, oa + i * 9, none⟩ = some (.int .i64 x.kind) := hxc 0 (by omega)
      have x1 : wr.cell? ⟨ba, oa + i * 9 + 1, none⟩ = some (.int .i64 x.which) := hxc 1 (by omega)
      have x2 : wr.cell? ⟨ba, oa + i * 9 + 2, none⟩ = some (.int .i64 x.at_) := hxc 2 (by omega)
      have x3 : wr.cell? ⟨ba, oa + i * 9 + 3, none⟩ = some (sv x.A) := hxc 3 (by omega)
      have x4 : wr.cell? ⟨ba, oa + i * 9 + 4, none⟩ = some (sv x.C) := hxc 4 (by omega)
      have x5 : wr.cell? ⟨ba, oa + i * 9 + 5, none⟩ = some (.slice x.pb x.bs.length x.cb) := hxc 5 (by omega)
      have x6 : wr.cell? ⟨ba, oa + i * 9 + 6, none⟩ = some (.bool x.is_) := hxc 6 (by omega)
      have x7 : wr.cell? ⟨ba, oa + i * 9 + 7, none⟩ = some (.int .u8 x.mask) := hxc 7 (by omega)
      have x8 : wr.cell? ⟨ba, oa + i * 9 + 8, none⟩ = some (.slice x.pk x.ks.length x.ck) := hxc 8 (by omega)
      have HBE := hid hbe
      clear hxc hbe
      have HPK := hid (fun W => pick_any x.which 2 W (by omega) (by omega))
      have hpk := pkN_lt x.which 2 (by omega)
      generalize pkN x.which 2 = kw at *
      by_cases h500 : 500 < x.bs.length
      · have h5' : (500 : Int) < (x.bs.length : Int) := by omega
        go_wp2
        go_ret
        exact ⟨rfl, HBE.out⟩
      · have h5' : ¬ (500 : Int) < (x.bs.length : Int) := by omega
        cases g
        · obtain ⟨dc, dd, hz, hcc, hcd, hle⟩ := HJ.out.live
          have HZ := hid hz
          have HCC := hid hcc
          have HCD := hid hcd
          have ho1 := hcc.ops
          have ho2 := hcd.ops
          have hl1 := hcc.len
          have hl2 := hcd.len
          clear hz hcc hcd
          have : kw = 0 ∨ kw = 1 := by omega
          rcases this with rfl | rfl
          · have HR := hid (step_rel dc x)
            have HCR := hid (step_calm HCC.out none x)
            have t3 : True := trivial
            have t4 : True := trivial
            generalize hRR : dc.step none x = R at *
            have HRR := hid hRR
            clear hRR
            obtain ⟨r1, Rd, Rf⟩ := R
            simp only at *
            by_cases hr : r1 = 0
            · subst hr
              obtain ⟨k1, k2, k3⟩ := HR.out.ok rfl
              simp only at k3
              have K1 := hid k1
              have K2 := hid k2
              clear k1 k2
              cases hleft : n - (dc.ops + dd.ops) with
              | zero =>
                have hsum : dc.ops + dd.ops = n := by omega
                rw [hleft] at HZ
                have HZ := hid HZ.out
                go_wp2_with (first
                  | (go_at_call 11; refine (HPK.out _).mono ?_; rintro e w' ⟨rfl, hw'⟩; have hw2 := hw'.symm; subst hw2)
                  | (go_at_call 35; have _t := t3; refine (HZ.out.step2 x (HX.out _ HBE.out).1 (by omega) (by omega) (by omega)).mono ?_; rintro e z1 ⟨rfl, hf⟩; rw [HRR.out] at hf ⊢; dsimp only at hf; have HZ := hid hf; have hy := (HX.out _ hf.be).2; have y0 : z1.cell? ⟨ba, oa + i * 9, none⟩ = some (.int .i64 x.kind) := hy 0 (by omega); have y1 : z1.cell? ⟨ba, oa + i * 9 + 1, none⟩ = some (.int .i64 x.which) := hy 1 (by omega); have y2 : z1.cell? ⟨ba, oa + i * 9 + 2, none⟩ = some (.int .i64 x.at_) := hy 2 (by omega); have y3 : z1.cell? ⟨ba, oa + i * 9 + 3, none⟩ = some (sv x.A) := hy 3 (by omega); have y4 : z1.cell? ⟨ba, oa + i * 9 + 4, none⟩ = some (sv x.C) := hy 4 (by omega); have y5 : z1.cell? ⟨ba, oa + i * 9 + 5, none⟩ = some (.slice x.pb x.bs.length x.cb) := hy 5 (by omega); have y6 : z1.cell? ⟨ba, oa + i * 9 + 6, none⟩ = some (.bool x.is_) := hy 6 (by omega); have y7 : z1.cell? ⟨ba, oa + i * 9 + 7, none⟩ = some (.int .u8 x.mask) := hy 7 (by omega); have y8 : z1.cell? ⟨ba, oa + i * 9 + 8, none⟩ = some (.slice x.pk x.ks.length x.ck) := hy 8 (by omega); clear hf hy t3)
                  | (go_at_call 35; refine (HZ.out.step0 x (HX.out _ HZ.out.be).1 (by omega) (by omega) (by omega)).mono ?_; rintro e z2 ⟨rfl, hf⟩; rw [K1.out] at hf ⊢; dsimp only [Option.getD] at hf; have HZ := hid hf; clear hf)
                  | (go_at_call 33; have _t := t4; refine HZ.out.ops2.mono ?_; rintro e w' ⟨rfl, hw'⟩; have hw2 := hw'.symm; subst hw2; clear t4)
                  | (go_at_call 33; refine HZ.out.ops3.mono ?_; rintro e w' ⟨rfl, hw'⟩; have hw2 := hw'.symm; subst hw2))
                go_roundw
                case rel => exact ⟨i + 1, true, by omega, rfl, by go_num, _, _, _, _, _, HZ.out, HCC.out.more, HCD.out.more, HCR.out, HCD.out.more, fun _ => ⟨rfl, hsum⟩, fun h => by cases h⟩
                case measure => simp [intOf]; omega
              | succ l =>
                have hsum : dc.ops + dd.ops + 1 + l = n := by omega
                rw [hleft] at HZ
                have HZ := hid HZ.out
                go_wp2_with (first
                  | (go_at_call 11; refine (HPK.out _).mono ?_; rintro e w' ⟨rfl, hw'⟩; have hw2 := hw'.symm; subst hw2)
                  | (go_at_call 35; have _t := t3; refine (HZ.out.step2 x (HX.out _ HBE.out).1 (by omega) (by omega) (by omega)).mono ?_; rintro e z1 ⟨rfl, hf⟩; rw [HRR.out] at hf ⊢; dsimp only at hf; have HZ := hid hf; have hy := (HX.out _ hf.be).2; have y0 : z1.cell? ⟨ba, oa + i * 9, none⟩ = some (.int .i64 x.kind) := hy 0 (by omega); have y1 : z1.cell? ⟨ba, oa + i * 9 + 1, none⟩ = some (.int .i64 x.which) := hy 1 (by omega); have y2 : z1.cell? ⟨ba, oa + i * 9 + 2, none⟩ = some (.int .i64 x.at_) := hy 2 (by omega); have y3 : z1.cell? ⟨ba, oa + i * 9 + 3, none⟩ = some (sv x.A) := hy 3 (by omega); have y4 : z1.cell? ⟨ba, oa + i * 9 + 4, none⟩ = some (sv x.C) := hy 4 (by omega); have y5 : z1.cell? ⟨ba, oa + i * 9 + 5, none⟩ = some (.slice x.pb x.bs.length x.cb) := hy 5 (by omega); have y6 : z1.cell? ⟨ba, oa + i * 9 + 6, none⟩ = some (.bool x.is_) := hy 6 (by omega); have y7 : z1.cell? ⟨ba, oa + i * 9 + 7, none⟩ = some (.int .u8 x.mask) := hy 7 (by omega); have y8 : z1.cell? ⟨ba, oa + i * 9 + 8, none⟩ = some (.slice x.pk x.ks.length x.ck) := hy 8 (by omega); clear hf hy t3)
                  | (go_at_call 35; refine (HZ.out.step0 x (HX.out _ HZ.out.be).1 (by omega) (by omega) (by omega)).mono ?_; rintro e z2 ⟨rfl, hf⟩; rw [K2.out] at hf ⊢; dsimp only [Option.getD] at hf; have HZ := hid hf; clear hf)
                  | (go_at_call 33; have _t := t4; refine HZ.out.ops2.mono ?_; rintro e w' ⟨rfl, hw'⟩; have hw2 := hw'.symm; subst hw2; clear t4)
                  | (go_at_call 33; refine HZ.out.ops3.mono ?_; rintro e w' ⟨rfl, hw'⟩; have hw2 := hw'.symm; subst hw2))
                go_roundw
                case rel => exact ⟨i + 1, false, by omega, rfl, by go_num, _, _, _, _, _, HZ.out, HCR.out, HCD.out.more, HCR.out, HCD.out.more, fun h => (by cases h), fun _ => ⟨rfl, rfl, Prod.ext (by show l = _; omega) rfl, by omega⟩⟩
                case measure => simp [intOf]; omega
            · obtain ⟨k1, k2⟩ := HR.out.no hr
              simp only at k1
              subst k1
              have K2 := hid k2
              clear k2
              have hr' : ((r1 : Nat) : Int) ≠ 0 := by omega
              go_wp2_with (first
                | (go_at_call 11; refine (HPK.out _).mono ?_; rintro e w' ⟨rfl, hw'⟩; have hw2 := hw'.symm; subst hw2)
                | (go_at_call 35; have _t := t3; refine (HZ.out.step2 x (HX.out _ HBE.out).1 (by omega) (by omega) (by omega)).mono ?_; rintro e z1 ⟨rfl, hf⟩; rw [HRR.out] at hf ⊢; dsimp only at hf; have HZ := hid hf; have hy := (HX.out _ hf.be).2; have y0 : z1.cell? ⟨ba, oa + i * 9, none⟩ = some (.int .i64 x.kind) := hy 0 (by omega); have y1 : z1.cell? ⟨ba, oa + i * 9 + 1, none⟩ = some (.int .i64 x.which) := hy 1 (by omega); have y2 : z1.cell? ⟨ba, oa + i * 9 + 2, none⟩ = some (.int .i64 x.at_) := hy 2 (by omega); have y3 : z1.cell? ⟨ba, oa + i * 9 + 3, none⟩ = some (sv x.A) := hy 3 (by omega); have y4 : z1.cell? ⟨ba, oa + i * 9 + 4, none⟩ = some (sv x.C) := hy 4 (by omega); have y5 : z1.cell? ⟨ba, oa + i * 9 + 5, none⟩ = some (.slice x.pb x.bs.length x.cb) := hy 5 (by omega); have y6 : z1.cell? ⟨ba, oa + i * 9 + 6, none⟩ = some (.bool x.is_) := hy 6 (by omega); have y7 : z1.cell? ⟨ba, oa + i * 9 + 7, none⟩ = some (.int .u8 x.mask) := hy 7 (by omega); have y8 : z1.cell? ⟨ba, oa + i * 9 + 8, none⟩ = some (.slice x.pk x.ks.length x.ck) := hy 8 (by omega); clear hf hy t3)
                | (go_at_call 35; refine (HZ.out.step0 x (HX.out _ HZ.out.be).1 (by omega) (by omega) (by omega)).mono ?_; rintro e z2 ⟨rfl, hf⟩; rw [K2.out] at hf ⊢; dsimp only [Option.getD] at hf; have HZ := hid hf; clear hf))
              go_roundw
              case rel => exact ⟨i + 1, false, by omega, rfl, by go_num, _, _, _, _, _, HZ.out, HCC.out.more, HCD.out.more, HCC.out.more, HCD.out.more, fun h => (by cases h), fun _ => ⟨rfl, rfl, rfl, hle⟩⟩
              case measure => simp [intOf]; omega
          · have HR := hid (step_rel dd x)
            have HCR := hid (step_calm HCD.out none x)
            have t3 : True := trivial
            have t4 : True := trivial
            generalize hRR : dd.step none x = R at *
            have HRR := hid hRR
            clear hRR
            obtain ⟨r1, Rd, Rf⟩ := R
            simp only at *
            by_cases hr : r1 = 0
            · subst hr
              obtain ⟨k1, k2, k3⟩ := HR.out.ok rfl
              simp only at k3
              have K1 := hid k1
              have K2 := hid k2
              clear k1 k2
              cases hleft : n - (dc.ops + dd.ops) with
              | zero =>
                have hsum : dc.ops + dd.ops = n := by omega
                rw [hleft] at HZ
                have HZ := hid HZ.out
                go_wp2_with (first
                  | (go_at_call 11; refine (HPK.out _).mono ?_; rintro e w' ⟨rfl, hw'⟩; have hw2 := hw'.symm; subst hw2)
                  | (go_at_call 35; have _t := t3; refine (HZ.out.step3 x (HX.out _ HBE.out).1 (by omega) (by omega) (by omega)).mono ?_; rintro e z1 ⟨rfl, hf⟩; rw [HRR.out] at hf ⊢; dsimp only at hf; have HZ := hid hf; have hy := (HX.out _ hf.be).2; have y0 : z1.cell? ⟨ba, oa + i * 9, none⟩ = some (.int .i64 x.kind) := hy 0 (by omega); have y1 : z1.cell? ⟨ba, oa + i * 9 + 1, none⟩ = some (.int .i64 x.which) := hy 1 (by omega); have y2 : z1.cell? ⟨ba, oa + i * 9 + 2, none⟩ = some (.int .i64 x.at_) := hy 2 (by omega); have y3 : z1.cell? ⟨ba, oa + i * 9 + 3, none⟩ = some (sv x.A) := hy 3 (by omega); have y4 : z1.cell? ⟨ba, oa + i * 9 + 4, none⟩ = some (sv x.C) := hy 4 (by omega); have y5 : z1.cell? ⟨ba, oa + i * 9 + 5, none⟩ = some (.slice x.pb x.bs.length x.cb) := hy 5 (by omega); have y6 : z1.cell? ⟨ba, oa + i * 9 + 6, none⟩ = some (.bool x.is_) := hy 6 (by omega); have y7 : z1.cell? ⟨ba, oa + i * 9 + 7, none⟩ = some (.int .u8 x.mask) := hy 7 (by omega); have y8 : z1.cell? ⟨ba, oa + i * 9 + 8, none⟩ = some (.slice x.pk x.ks.length x.ck) := hy 8 (by omega); clear hf hy t3)
                  | (go_at_call 35; refine (HZ.out.step1 x (HX.out _ HZ.out.be).1 (by omega) (by omega) (by omega)).mono ?_; rintro e z2 ⟨rfl, hf⟩; rw [K1.out] at hf ⊢; dsimp only [Option.getD] at hf; have HZ := hid hf; clear hf)
                  | (go_at_call 33; have _t := t4; refine HZ.out.ops2.mono ?_; rintro e w' ⟨rfl, hw'⟩; have hw2 := hw'.symm; subst hw2; clear t4)
                  | (go_at_call 33; refine HZ.out.ops3.mono ?_; rintro e w' ⟨rfl, hw'⟩; have hw2 := hw'.symm; subst hw2))
                go_roundw
                case rel => exact ⟨i + 1, true, by omega, rfl, by go_num, _, _, _, _, _, HZ.out, HCC.out.more, HCD.out.more, HCC.out.more, HCR.out, fun _ => ⟨rfl, hsum⟩, fun h => by cases h⟩
                case measure => simp [intOf]; omega
              | succ l =>
                have hsum : dc.ops + dd.ops + 1 + l = n := by omega
                rw [hleft] at HZ
                have HZ := hid HZ.out
                go_wp2_with (first
                  | (go_at_call 11; refine (HPK.out _).mono ?_; rintro e w' ⟨rfl, hw'⟩; have hw2 := hw'.symm; subst hw2)
                  | (go_at_call 35; have _t := t3; refine (HZ.out.step3 x (HX.out _ HBE.out).1 (by omega) (by omega) (by omega)).mono ?_; rintro e z1 ⟨rfl, hf⟩; rw [HRR.out] at hf ⊢; dsimp only at hf; have HZ := hid hf; have hy := (HX.out _ hf.be).2; have y0 : z1.cell? ⟨ba, oa + i * 9, none⟩ = some (.int .i64 x.kind) := hy 0 (by omega); have y1 : z1.cell? ⟨ba, oa + i * 9 + 1, none⟩ = some (.int .i64 x.which) := hy 1 (by omega); have y2 : z1.cell? ⟨ba, oa + i * 9 + 2, none⟩ = some (.int .i64 x.at_) := hy 2 (by omega); have y3 : z1.cell? ⟨ba, oa + i * 9 + 3, none⟩ = some (sv x.A) := hy 3 (by omega); have y4 : z1.cell? ⟨ba, oa + i * 9 + 4, none⟩ = some (sv x.C) := hy 4 (by omega); have y5 : z1.cell? ⟨ba, oa + i * 9 + 5, none⟩ = some (.slice x.pb x.bs.length x.cb) := hy 5 (by omega); have y6 : z1.cell? ⟨ba, oa + i * 9 + 6, none⟩ = some (.bool x.is_) := hy 6 (by omega); have y7 : z1.cell? ⟨ba, oa + i * 9 + 7, none⟩ = some (.int .u8 x.mask) := hy 7 (by omega); have y8 : z1.cell? ⟨ba, oa + i * 9 + 8, none⟩ = some (.slice x.pk x.ks.length x.ck) := hy 8 (by omega); clear hf hy t3)
                  | (go_at_call 35; refine (HZ.out.step1 x (HX.out _ HZ.out.be).1 (by omega) (by omega) (by omega)).mono ?_; rintro e z2 ⟨rfl, hf⟩; rw [K2.out] at hf ⊢; dsimp only [Option.getD] at hf; have HZ := hid hf; clear hf)
                  | (go_at_call 33; have _t := t4; refine HZ.out.ops2.mono ?_; rintro e w' ⟨rfl, hw'⟩; have hw2 := hw'.symm; subst hw2; clear t4)
                  | (go_at_call 33; refine HZ.out.ops3.mono ?_; rintro e w' ⟨rfl, hw'⟩; have hw2 := hw'.symm; subst hw2))
                go_roundw
                case rel => exact ⟨i + 1, false, by omega, rfl, by go_num, _, _, _, _, _, HZ.out, HCC.out.more, HCR.out, HCC.out.more, HCR.out, fun h => (by cases h), fun _ => ⟨rfl, rfl, Prod.ext (by show l = _; omega) rfl, by omega⟩⟩
                case measure => simp [intOf]; omega
            · obtain ⟨k1, k2⟩ := HR.out.no hr
              simp only at k1
              subst k1
              have K2 := hid k2
              clear k2
              have hr' : ((r1 : Nat) : Int) ≠ 0 := by omega
              go_wp2_with (first
                | (go_at_call 11; refine (HPK.out _).mono ?_; rintro e w' ⟨rfl, hw'⟩; have hw2 := hw'.symm; subst hw2)
                | (go_at_call 35; have _t := t3; refine (HZ.out.step3 x (HX.out _ HBE.out).1 (by omega) (by omega) (by omega)).mono ?_; rintro e z1 ⟨rfl, hf⟩; rw [HRR.out] at hf ⊢; dsimp only at hf; have HZ := hid hf; have hy := (HX.out _ hf.be).2; have y0 : z1.cell? ⟨ba, oa + i * 9, none⟩ = some (.int .i64 x.kind) := hy 0 (by omega); have y1 : z1.cell? ⟨ba, oa + i * 9 + 1, none⟩ = some (.int .i64 x.which) := hy 1 (by omega); have y2 : z1.cell? ⟨ba, oa + i * 9 + 2, none⟩ = some (.int .i64 x.at_) := hy 2 (by omega); have y3 : z1.cell? ⟨ba, oa + i * 9 + 3, none⟩ = some (sv x.A) := hy 3 (by omega); have y4 : z1.cell? ⟨ba, oa + i * 9 + 4, none⟩ = some (sv x.C) := hy 4 (by omega); have y5 : z1.cell? ⟨ba, oa + i * 9 + 5, none⟩ = some (.slice x.pb x.bs.length x.cb) := hy 5 (by omega); have y6 : z1.cell? ⟨ba, oa + i * 9 + 6, none⟩ = some (.bool x.is_) := hy 6 (by omega); have y7 : z1.cell? ⟨ba, oa + i * 9 + 7, none⟩ = some (.int .u8 x.mask) := hy 7 (by omega); have y8 : z1.cell? ⟨ba, oa + i * 9 + 8, none⟩ = some (.slice x.pk x.ks.length x.ck) := hy 8 (by omega); clear hf hy t3)
                | (go_at_call 35; refine (HZ.out.step1 x (HX.out _ HZ.out.be).1 (by omega) (by omega) (by omega)).mono ?_; rintro e z2 ⟨rfl, hf⟩; rw [K2.out] at hf ⊢; dsimp only [Option.getD] at hf; have HZ := hid hf; clear hf))
              go_roundw
              case rel => exact ⟨i + 1, false, by omega, rfl, by go_num, _, _, _, _, _, HZ.out, HCC.out.more, HCD.out.more, HCC.out.more, HCD.out.more, fun h => (by cases h), fun _ => ⟨rfl, rfl, rfl, hle⟩⟩
              case measure => simp [intOf]; omega
        · obtain ⟨da, db, dc, dd, hz, hca, hcb, hcc, hcd, hsum⟩ := HJ.out.gone
          have HZ := hid hz
          have HCA := hid hca
          have HCB := hid hcb
          have HCC := hid hcc
          have HCD := hid hcd
          have ho1 := hca.ops
          have ho2 := hcb.ops
          have hl1 := hca.len
          have hl2 := hcb.len
          clear hz hcc hcd hca hcb
          have t4 : True := trivial
          have : kw = 0 ∨ kw = 1 := by omega
          rcases this with rfl | rfl
          · go_wp2_with (first
              | (go_at_call 11; refine (HPK.out _).mono ?_; rintro e w' ⟨rfl, hw'⟩; have hw2 := hw'.symm; subst hw2)
              | (go_at_call 35; refine (HZ.out.step0 x (HX.out _ HBE.out).1 (by omega) (by omega) (by omega)).mono ?_; rintro e z1 ⟨rfl, hf⟩; rw [step_gone] at hf ⊢; have HZ : Hid (FZ w z1 pa pb pc pd q da db dc dd (0, true)) := hid hf; clear hf)
              | (go_at_call 34; have _t := t4; refine HZ.out.up0.mono ?_; rintro e w' ⟨rfl, hw'⟩; rw [up_gone]; have hw2 := hw'.symm; subst hw2; clear t4)
              | (go_at_call 34; refine HZ.out.up1.mono ?_; rintro e w' ⟨rfl, hw'⟩; rw [up_gone]; have hw2 := hw'.symm; subst hw2))
            go_roundw
            case rel => exact ⟨i + 1, true, by omega, rfl, by go_num, _, _, _, _, _, HZ.out, HCA.out.more, HCB.out.more, HCC.out.more, HCD.out.more, fun _ => ⟨rfl, hsum⟩, fun h => by cases h⟩
            case measure => simp [intOf]; omega
          · go_wp2_with (first
              | (go_at_call 11; refine (HPK.out _).mono ?_; rintro e w' ⟨rfl, hw'⟩; have hw2 := hw'.symm; subst hw2)
              | (go_at_call 35; refine (HZ.out.step1 x (HX.out _ HBE.out).1 (by omega) (by omega) (by omega)).mono ?_; rintro e z1 ⟨rfl, hf⟩; rw [step_gone] at hf ⊢; have HZ : Hid (FZ w z1 pa pb pc pd q da db dc dd (0, true)) := hid hf; clear hf)
              | (go_at_call 34; have _t := t4; refine HZ.out.up0.mono ?_; rintro e w' ⟨rfl, hw'⟩; rw [up_gone]; have hw2 := hw'.symm; subst hw2; clear t4)
              | (go_at_call 34; refine HZ.out.up1.mono ?_; rintro e w' ⟨rfl, hw'⟩; rw [up_gone]; have hw2 := hw'.symm; subst hw2))
            go_roundw
            case rel => exact ⟨i + 1, true, by omega, rfl, by go_num, _, _, _, _, _, HZ.out, HCA.out.more, HCB.out.more, HCC.out.more, HCD.out.more, fun _ => ⟨rfl, hsum⟩, fun h => by cases h⟩
            case measure => simp [intOf]; omega
    · have hlt' : ¬ (i : Int) < (na : Int) := by omega
      have t4 : True := trivial
      have t5 : True := trivial
      cases g
      · obtain ⟨dc, dd, hz, hcc, hcd, hle⟩ := HJ.out.live
        have HZ := hid hz
        have ho1 := hcc.ops
        have ho2 := hcd.ops
        have hl1 := hcc.len
        have HCR := hid (hz.crash0 (by omega))
        have HUC := hid (up_calm hcc)
        clear hz hcc hcd
        go_wp2_with (first
          | (go_at_call 33; have _t := t4; refine HZ.out.ops0.mono ?_; rintro e w' ⟨rfl, hw'⟩; have hw2 := hw'.symm; subst hw2; clear t4)
          | (go_at_call 33; refine HZ.out.ops1.mono ?_; rintro e w' ⟨rfl, hw'⟩; have hw2 := hw'.symm; subst hw2)
          | (go_at_call 30; refine HCR.out.mono ?_; rintro e z9 ⟨rfl, hb9, hu1, hu2⟩; rw [HUC.out] at hu1; have HB9 := hid hb9; have HU1 := hid hu1; clear hb9 hu1 hu2)
          | (go_at_call 34; refine HU1.out.mono ?_; rintro e w' ⟨rfl, hw'⟩; have hw2 := hw'.symm; subst hw2))
        go_ret
        exact ⟨rfl, HB9.out⟩
      · obtain ⟨da, db, dc, dd, hz, hca, hcb, hcc, hcd, hsum⟩ := HJ.out.gone
        have HZ := hid hz
        have ho1 := hca.ops
        have ho2 := hcb.ops
        have hl1 := hca.len
        have HCR := hid (hz.crash0 (by omega))
        have HUC := hid (up_calm hca)
        have t6 : True := trivial
        have hq1 : ¬ (n : Int) < (da.ops : Int) + (db.ops : Int) := by omega
        have hq2 : (da.ops : Int) + (db.ops : Int) = (n : Int) := by omega
        clear hz hca hcb hcc hcd
        go_wp2_with (first
          | (go_at_call 33; have _t := t4; refine HZ.out.ops0.mono ?_; rintro e w' ⟨rfl, hw'⟩; have hw2 := hw'.symm; subst hw2; clear t4)
          | (go_at_call 33; have _t := t5; refine HZ.out.ops1.mono ?_; rintro e w' ⟨rfl, hw'⟩; have hw2 := hw'.symm; subst hw2; clear t5)
          | (go_at_call 33; have _t := t6; refine HZ.out.ops0.mono ?_; rintro e w' ⟨rfl, hw'⟩; have hw2 := hw'.symm; subst hw2; clear t6)
          | (go_at_call 33; refine HZ.out.ops1.mono ?_; rintro e w' ⟨rfl, hw'⟩; have hw2 := hw'.symm; subst hw2)
          | (go_at_call 30; refine HCR.out.mono ?_; rintro e z9 ⟨rfl, hb9, hu1, hu2⟩; rw [HUC.out] at hu1; rw [up_gone] at hu2; have HB9 := hid hb9; have HU1 := hid hu1; have HU2 := hid hu2; have t7 : True := trivial; clear hb9 hu1 hu2)
          | (go_at_call 34; have _t := t7; refine HU1.out.mono ?_; rintro e w' ⟨rfl, hw'⟩; have hw2 := hw'.symm; subst hw2; clear t7)
          | (go_at_call 34; refine HU2.out.mono ?_; rintro e w' ⟨rfl, hw'⟩; have hw2 := hw'.symm; subst hw2))
        go_ret
        exact ⟨rfl, HB9.out⟩
#print axioms driveFuse_walk
end Go.Proofs.Ytfppmpfmafnfmaa
