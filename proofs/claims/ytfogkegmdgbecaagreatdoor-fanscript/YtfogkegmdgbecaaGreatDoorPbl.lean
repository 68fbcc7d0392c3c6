/- Texts laid into one, cut to what is needed: the remark ahead of each part says what is proved there. -/
import Derived.Test.YtfogkegmdgbecaaGreatDoorPbi
/- happens of FanScript: all crash. -/
namespace Go.Proofs.YtfogkegmdgbecaaGreatDoor
open Go Go.RowKit Go.Shelf

/-- Both sets while they crash, one drive behind the other. -/
structure FYc (w : World) (k : Nat) (p q : Nat → Nat) (d d' : Nat → Pd) (f : Fs) (c c' : Nat) (dv wv : Value) (Z : Nat → Prop) (W0 W : World) : Prop where
 ex : ∃ T U, FA w W T k p d f c ∧ RA w W U k q d' f c' ∧ (∀ b, T b → ¬ U b) ∧ LsAt W (fun b => T b ∨ U b) dv k p ∧ LsAt W (fun b => T b ∨ U b) wv k q ∧ ∀ b, Z b → b < W.heap.size ∧ ¬ T b ∧ ¬ U b
 kz : Kz Z W0 W
def crD (ks : List Bool) (c : Nat) (d : Nat → Pd) : Nat → Pd := fun j => if j < c then (d j).crash ks else d j
theorem crD_at (ks : List Bool) (c : Nat) (d : Nat → Pd) : crD ks c d c = d c := by unfold crD; rw [if_neg (Nat.lt_irrefl _)]
theorem crD_step (ks : List Bool) (c : Nat) (d : Nat → Pd) : upd (crD ks c d) c ((d c).crash ks) = crD ks (c + 1) d := by
 funext j
 by_cases e : j = c
 ·subst e; rw [upd_same]; unfold crD; rw [if_pos (by omega)]
 ·rw [upd_ne _ _ e]; unfold crD
  by_cases h : j < c
  ·rw [if_pos h, if_pos (by omega)]
  ·rw [if_neg h, if_neg (by omega)]
theorem crD_zero (ks : List Bool) (d : Nat → Pd) : crD ks 0 d = d := by funext j; unfold crD; rw [if_neg (by omega)]
theorem KAt.up {w W : World} {T : Nat → Prop} {po : Option Addr} {ks : List Bool} (h : KAt w (fun _ => False) po ks) (hb : Below w.heap.size w W) (hT : ∀ b, T b → w.heap.size ≤ b) : KAt W T po ks := by
 by_cases e : ks = []
 ·exact .inl e
 ·rcases h with h | ⟨b, o, rfl, _, h⟩
  ·exact absurd h e
  ·have hl : b < w.heap.size := cell_lt2 (h 0 (List.length_pos_iff.2 e))
   exact .inr ⟨b, o, rfl, fun ht => by have := hT b ht; omega, fun i hi => (World.cell?_of_block (a := ⟨b, o + i, none⟩) (hb.block b hl)).trans (h i hi)⟩
section
variable {w W W0 W' : World} {k : Nat} {p q : Nat → Nat} {d d' : Nat → Pd} {f : Fs} {c c' : Nat} {X : FS} {dv wv : Value} {Z : Nat → Prop}
theorem HY.crashes (h : HY w k p q X X dv wv Z W0 W) (ks : List Bool) : FYc w k p q (crD ks 0 X.d) (crD ks 0 X.d) X.f 0 0 dv wv Z W0 W := by
 rw [crD_zero]
 exact ⟨h.fy.ex, h.kz⟩
theorem FYc.done (h : FYc w k p q d d f k k dv wv Z W0 W) : HY w k p q ⟨d, none⟩ ⟨d, none⟩ dv wv Z W0 W := by
 obtain ⟨T, U, h1, h2, h3⟩ := h.ex
 exact ⟨⟨T, U, h1.calm, h2.calm, h3⟩, h.kz⟩
theorem FYc.below (h : FYc w k p q d d' f c c' dv wv Z W0 W) (hb : Below W.heap.size W W') : FYc w k p q d d' f c c' dv wv Z W0 W' := by
 obtain ⟨T, U, h1, h2, h3, h4, h5, h6⟩ := h.ex
 exact ⟨⟨T, U, h1.below hb, h2.below hb, h3, h4.keep (fun b hb' _ => hb.block b hb') (fun _ _ h => h), h5.keep (fun b hb' _ => hb.block b hb') (fun _ _ h => h), fun b hz => ⟨Nat.lt_of_lt_of_le (h6 b hz).1 hb.size, (h6 b hz).2⟩⟩, h.kz.trans fun b hz => hb.block b (h6 b hz).1⟩
theorem FYc.box (h : FYc w k p q d d' f c c' dv wv Z W0 W) {b i : Nat} {v : Value} (hz : Z b) (hc : W0.cell? ⟨b, i, none⟩ = some v) : W.cell? ⟨b, i, none⟩ = some v := (World.cell?_of_block (a := ⟨b, i, none⟩) (h.kz b hz)).trans hc
theorem FYc.dcell {bd cd : Nat} (h : FYc w k p q d d' f c c' (.slice (some ⟨bd, 0, none⟩) k cd) wv Z W0 W) {i : Nat} (hi : i < k) : W.cell? ⟨bd, i, none⟩ = some (ptr (p i)) := by
 obtain ⟨T, U, h1, h2, h3, h4, h5, h6⟩ := h.ex
 rcases h4.ex with ⟨h0, _⟩ | ⟨_, b, c, e, _, h3⟩
 ·omega
 ·cases e; exact h3 i hi
theorem FYc.wcell {bd cd : Nat} (h : FYc w k p q d d' f c c' dv (.slice (some ⟨bd, 0, none⟩) k cd) Z W0 W) {i : Nat} (hi : i < k) : W.cell? ⟨bd, i, none⟩ = some (ptr (q i)) := by
 obtain ⟨T, U, h1, h2, h3, h4, h5, h6⟩ := h.ex
 rcases h5.ex with ⟨h0, _⟩ | ⟨_, b, c, e, _, h3⟩
 ·omega
 ·cases e; exact h3 i hi
theorem FYc.crash (h : FYc w k p q d d' f c c' dv wv Z W0 W) (hi : c < k) (po : Option Addr) (cc : Nat) (ks : List Bool) (hk : KAt w (fun _ => False) po ks) (hkn : ks.length ≤ 1000000000) (hl : (d c).F.length < 1000000000000) :
  Calls Tryz.prog 27 #[ptr (p c), .slice po ks.length cc] W fun e W' => e = .returned (.int .i64 0) ∧ FYc w k p q (upd d c ((d c).crash ks)) d' f (c + 1) c' dv wv Z W0 W' := by
 obtain ⟨T, U, h1, h2, h3, h4, h5, h6⟩ := h.ex
 refine (h1.crash hi po cc ks (hk.up h1.be h1.ge) hkn hl).mono ?_
 rintro e W' ⟨he, T', hg, hf, ho, _⟩
 have hTT : ∀ b, b < W.heap.size → T' b → T b := fun b hb ht => (hg.2 b ht).elim id (fun h => by omega)
 have hk2 : ∀ b, b < W.heap.size → ¬ (T b ∨ U b) → W'.heap[b]? = W.heap[b]? := fun b hb hn => ho.block b hb (fun ht => hn (.inl ht))
 have hT2 : ∀ b, b < W.heap.size → (T' b ∨ U b) → (T b ∨ U b) := fun b hb e => e.elim (fun ht => .inl (hTT b hb ht)) .inr
 exact ⟨he, ⟨T', U, hf, h2.only ho (fun b hb ht => by have := h1.ge b ht; omega) (fun b hu ht => h3 b ht hu), fun b ht hu => h3 b (hTT b (h2.lt b hu) ht) hu, h4.keep hk2 hT2, h5.keep hk2 hT2, fun b hz => ⟨Nat.lt_of_lt_of_le (h6 b hz).1 ho.size, fun ht => (h6 b hz).2.1 (hTT b (h6 b hz).1 ht), (h6 b hz).2.2⟩⟩, h.kz.trans fun b hz => ho.block b (h6 b hz).1 (h6 b hz).2.1⟩
theorem FYc.rcrash (h : FYc w k p q d d' f c c' dv wv Z W0 W) (hi : c' < k) (po : Option Addr) (cc : Nat) (ks : List Bool) (hk : KAt w (fun _ => False) po ks) (hkn : ks.length ≤ 1000000000) (hl : (d' c').F.length < 999000) :
  Calls Tryz.prog 28 #[ptr (q c'), .slice po ks.length cc] W fun e W' => e = .returned (.int .i64 0) ∧ FYc w k p q d (upd d' c' ((d' c').crash ks)) f c (c' + 1) dv wv Z W0 W' := by
 obtain ⟨T, U, h1, h2, h3, h4, h5, h6⟩ := h.ex
 refine (h2.crash hi po cc ks (hk.up h1.be (fun _ h => h.elim)) hkn hl).mono ?_
 rintro e W' ⟨he, U', hg, hf, ho⟩
 have hUU : ∀ b, b < W.heap.size → U' b → U b := fun b hb ht => (hg.2 b ht).elim id (fun h => by omega)
 have hk2 : ∀ b, b < W.heap.size → ¬ (T b ∨ U b) → W'.heap[b]? = W.heap[b]? := fun b hb hn => ho.block b hb (fun ht => hn (.inr ht))
 have hT2 : ∀ b, b < W.heap.size → (T b ∨ U' b) → (T b ∨ U b) := fun b hb e => e.elim .inl (fun ht => .inr (hUU b hb ht))
 exact ⟨he, ⟨T, U', h1.only ho (fun b hb ht => by have := h2.ge b ht; omega) (fun b ht hu => h3 b ht hu), hf, fun b ht hu => h3 b ht (hUU b (h1.lt b ht) hu), h4.keep hk2 hT2, h5.keep hk2 hT2, fun b hz => ⟨Nat.lt_of_lt_of_le (h6 b hz).1 ho.size, (h6 b hz).2.1, fun ht => (h6 b hz).2.2 (hUU b (h6 b hz).1 ht)⟩⟩, h.kz.trans fun b hz => ho.block b (h6 b hz).1 (h6 b hz).2.2⟩
end
set_option maxHeartbeats 8000000 in
set_option maxRecDepth 100000 in
theorem happens_crash {w W : World} {k : Nat} {p q : Nat → Nat} {X : FS} {dv wv : Value} {Z : Nat → Prop} (h : FY w k p q X X dv wv Z W) (hk : k ≤ 18) (h0 : 0 < k) {nB : Nat} (hP : Pms nB k X.d) (hnB : nB ≤ 40000) (x : AcV) (h5 : x.kd = 9) (hka : KAt w (fun _ => False) x.kp x.ks) (hkn : x.ks.length ≤ 1000000) :
  Calls Tryz.prog 7 #[.agg #[dv, wv], x.v] W (HXt w k p q ⟨crD x.ks k X.d, none⟩ dv wv Z W) := by
 obtain ⟨bd, cd, hdv⟩ := h.dform h0
 obtain ⟨bv, cv, hwv⟩ := h.wform h0
 subst hdv
 subst hwv
 obtain ⟨kd, wh, nn, at_, a, bp, bc, b, ⟨fpo, fc, rows⟩, np, nc, ns, is, m, kp, kc, ks⟩ := x
 dsimp only [AcV.v, AcV.cs, FsV.v] at *
 subst h5
 obtain ⟨hen, hz0, -⟩ := h.enter (.cells #[.slice (some ⟨bd, 0, none⟩) k cd, .slice (some ⟨bv, 0, none⟩) k cv] 26) (.cells #[.int .i64 9, .int .i64 wh, .int .i64 nn, .int .i64 at_, sv a, .slice bp b.length bc, .slice fpo rows.length fc, .slice np ns.length nc, .bool is, .int .u8 (m : Int), .slice kp ks.length kc] 35)
 obtain ⟨q1, q2⟩ := box_cells W #[.slice (some ⟨bd, 0, none⟩) k cd, .slice (some ⟨bv, 0, none⟩) k cv] #[.int .i64 9, .int .i64 wh, .int .i64 nn, .int .i64 at_, sv a, .slice bp b.length bc, .slice fpo rows.length fc, .slice np ns.length nc, .bool is, .int .u8 (m : Int), .slice kp ks.length kc] 26 35
 have HM0 := hid hen
 have HS0 : Hid (FYc w k p q (crD ks 0 X.d) (crD ks 0 X.d) X.f 0 0 (.slice (some ⟨bd, 0, none⟩) k cd) (.slice (some ⟨bv, 0, none⟩) k cv) (fun b => Z b ∨ b = W.heap.size ∨ b = W.heap.size + 1) ((W.alloc (.cells #[.slice (some ⟨bd, 0, none⟩) k cd, .slice (some ⟨bv, 0, none⟩) k cv] 26)).alloc (.cells #[.int .i64 9, .int .i64 wh, .int .i64 nn, .int .i64 at_, sv a, .slice bp b.length bc, .slice fpo rows.length fc, .slice np ns.length nc, .bool is, .int .u8 (m : Int), .slice kp ks.length kc] 35)) ((W.alloc (.cells #[.slice (some ⟨bd, 0, none⟩) k cd, .slice (some ⟨bv, 0, none⟩) k cv] 26)).alloc (.cells #[.int .i64 9, .int .i64 wh, .int .i64 nn, .int .i64 at_, sv a, .slice bp b.length bc, .slice fpo rows.length fc, .slice np ns.length nc, .bool is, .int .u8 (m : Int), .slice kp ks.length kc] 35))) := hid (hen.crashes ks)
 have HSS : Hid (∀ i j W', FYc w k p q (crD ks i X.d) (crD ks j X.d) X.f i j (.slice (some ⟨bd, 0, none⟩) k cd) (.slice (some ⟨bv, 0, none⟩) k cv) (fun b => Z b ∨ b = W.heap.size ∨ b = W.heap.size + 1) ((W.alloc (.cells #[.slice (some ⟨bd, 0, none⟩) k cd, .slice (some ⟨bv, 0, none⟩) k cv] 26)).alloc (.cells #[.int .i64 9, .int .i64 wh, .int .i64 nn, .int .i64 at_, sv a, .slice bp b.length bc, .slice fpo rows.length fc, .slice np ns.length nc, .bool is, .int .u8 (m : Int), .slice kp ks.length kc] 35)) W' → W'.cell? ⟨W.heap.size, 0, none⟩ = some (.slice (some ⟨bd, 0, none⟩) k cd) ∧ W'.cell? ⟨W.heap.size, 1, none⟩ = some (.slice (some ⟨bv, 0, none⟩) k cv) ∧ W'.cell? ⟨W.heap.size + 1, 10, none⟩ = some (.slice kp ks.length kc)) := hid (fun i j W' hy => ⟨hy.box (.inr (.inl rfl)) (q1 0 _ rfl), hy.box (.inr (.inl rfl)) (q1 1 _ rfl), hy.box (.inr (.inr rfl)) (q2 10 _ rfl)⟩)
 have HSD : Hid (∀ i j t W', t < k → FYc w k p q (crD ks i X.d) (crD ks j X.d) X.f i j (.slice (some ⟨bd, 0, none⟩) k cd) (.slice (some ⟨bv, 0, none⟩) k cv) (fun b => Z b ∨ b = W.heap.size ∨ b = W.heap.size + 1) ((W.alloc (.cells #[.slice (some ⟨bd, 0, none⟩) k cd, .slice (some ⟨bv, 0, none⟩) k cv] 26)).alloc (.cells #[.int .i64 9, .int .i64 wh, .int .i64 nn, .int .i64 at_, sv a, .slice bp b.length bc, .slice fpo rows.length fc, .slice np ns.length nc, .bool is, .int .u8 (m : Int), .slice kp ks.length kc] 35)) W' → W'.cell? ⟨bd, t, none⟩ = some (ptr (p t)) ∧ W'.cell? ⟨bv, t, none⟩ = some (ptr (q t))) := hid (fun i j t W' ht hy => ⟨hy.dcell ht, hy.wcell ht⟩)
 have HP : Hid (∀ i, i < k → ∀ W', FYc w k p q (crD ks i X.d) (crD ks i X.d) X.f i i (.slice (some ⟨bd, 0, none⟩) k cd) (.slice (some ⟨bv, 0, none⟩) k cv) (fun b => Z b ∨ b = W.heap.size ∨ b = W.heap.size + 1) ((W.alloc (.cells #[.slice (some ⟨bd, 0, none⟩) k cd, .slice (some ⟨bv, 0, none⟩) k cv] 26)).alloc (.cells #[.int .i64 9, .int .i64 wh, .int .i64 nn, .int .i64 at_, sv a, .slice bp b.length bc, .slice fpo rows.length fc, .slice np ns.length nc, .bool is, .int .u8 (m : Int), .slice kp ks.length kc] 35)) W' → Calls Tryz.prog 27 #[ptr (p i), .slice kp ks.length kc] W' fun e W2 => e = .returned (.int .i64 0) ∧ FYc w k p q (crD ks (i + 1) X.d) (crD ks i X.d) X.f (i + 1) i (.slice (some ⟨bd, 0, none⟩) k cd) (.slice (some ⟨bv, 0, none⟩) k cv) (fun b => Z b ∨ b = W.heap.size ∨ b = W.heap.size + 1) ((W.alloc (.cells #[.slice (some ⟨bd, 0, none⟩) k cd, .slice (some ⟨bv, 0, none⟩) k cv] 26)).alloc (.cells #[.int .i64 9, .int .i64 wh, .int .i64 nn, .int .i64 at_, sv a, .slice bp b.length bc, .slice fpo rows.length fc, .slice np ns.length nc, .bool is, .int .u8 (m : Int), .slice kp ks.length kc] 35)) W2) := hid (fun i hi W' hy => by
  have := hy.crash hi kp kc ks hka (by omega) (by rw [crD_at]; have := (hP i hi).bnd.1; omega)
  rwa [crD_at, crD_step] at this)
 have HQ : Hid (∀ i, i < k → ∀ W', FYc w k p q (crD ks (i + 1) X.d) (crD ks i X.d) X.f (i + 1) i (.slice (some ⟨bd, 0, none⟩) k cd) (.slice (some ⟨bv, 0, none⟩) k cv) (fun b => Z b ∨ b = W.heap.size ∨ b = W.heap.size + 1) ((W.alloc (.cells #[.slice (some ⟨bd, 0, none⟩) k cd, .slice (some ⟨bv, 0, none⟩) k cv] 26)).alloc (.cells #[.int .i64 9, .int .i64 wh, .int .i64 nn, .int .i64 at_, sv a, .slice bp b.length bc, .slice fpo rows.length fc, .slice np ns.length nc, .bool is, .int .u8 (m : Int), .slice kp ks.length kc] 35)) W' → Calls Tryz.prog 28 #[ptr (q i), .slice kp ks.length kc] W' fun e W2 => e = .returned (.int .i64 0) ∧ FYc w k p q (crD ks (i + 1) X.d) (crD ks (i + 1) X.d) X.f (i + 1) (i + 1) (.slice (some ⟨bd, 0, none⟩) k cd) (.slice (some ⟨bv, 0, none⟩) k cv) (fun b => Z b ∨ b = W.heap.size ∨ b = W.heap.size + 1) ((W.alloc (.cells #[.slice (some ⟨bd, 0, none⟩) k cd, .slice (some ⟨bv, 0, none⟩) k cv] 26)).alloc (.cells #[.int .i64 9, .int .i64 wh, .int .i64 nn, .int .i64 at_, sv a, .slice bp b.length bc, .slice fpo rows.length fc, .slice np ns.length nc, .bool is, .int .u8 (m : Int), .slice kp ks.length kc] 35)) W2) := hid (fun i hi W' hy => by
  have := hy.rcrash hi kp kc ks hka (by omega) (by rw [crD_at]; have := (hP i hi).bnd.1; omega)
  rwa [crD_at, crD_step] at this)
 have HEND : Hid (∀ W', FYc w k p q (crD ks k X.d) (crD ks k X.d) X.f k k (.slice (some ⟨bd, 0, none⟩) k cd) (.slice (some ⟨bv, 0, none⟩) k cv) (fun b => Z b ∨ b = W.heap.size ∨ b = W.heap.size + 1) ((W.alloc (.cells #[.slice (some ⟨bd, 0, none⟩) k cd, .slice (some ⟨bv, 0, none⟩) k cv] 26)).alloc (.cells #[.int .i64 9, .int .i64 wh, .int .i64 nn, .int .i64 at_, sv a, .slice bp b.length bc, .slice fpo rows.length fc, .slice np ns.length nc, .bool is, .int .u8 (m : Int), .slice kp ks.length kc] 35)) W' → HXt w k p q ⟨crD ks k X.d, none⟩ (.slice (some ⟨bd, 0, none⟩) k cd) (.slice (some ⟨bv, 0, none⟩) k cv) Z W (.returned (.bool true)) W') := hid (fun W' hy => hy.done.leave hz0)
 clear q1 q2 hen h hka
 generalize HXt w k p q ⟨crD ks k X.d, none⟩ (.slice (some ⟨bd, 0, none⟩) k cd) (.slice (some ⟨bv, 0, none⟩) k cv) Z W = PP at *
 clear hz0 hP HM0
 go_enter Tryz.func7, Tryz.ntmps7
 go_wp2_with fail
 generalize (W.alloc (.cells #[.slice (some ⟨bd, 0, none⟩) k cd, .slice (some ⟨bv, 0, none⟩) k cv] 26)).alloc (.cells #[.int .i64 9, .int .i64 wh, .int .i64 nn, .int .i64 at_, sv a, .slice bp b.length bc, .slice fpo rows.length fc, .slice np ns.length nc, .bool is, .int .u8 (m : Int), .slice kp ks.length kc] 35) = Bx at *
 go_loopg [5] k (fun gg v wr => ∃ i : Nat, i ≤ k ∧ k - i ≤ gg ∧ v = .int .i64 (i : Int) ∧ FYc w k p q (crD ks i X.d) (crD ks i X.d) X.f i i (.slice (some ⟨bd, 0, none⟩) k cd) (.slice (some ⟨bv, 0, none⟩) k cv) (fun b => Z b ∨ b = W.heap.size ∨ b = W.heap.size + 1) (Bx) wr)
 case atStart => exact ⟨0, Nat.zero_le _, by omega, rfl, HS0.out⟩
 case round =>
  obtain ⟨i, hi, hgg, rfl, hs⟩ := hrel
  have HI := hid hs
  clear hs HS0
  obtain ⟨x0, x1, x10⟩ := HSS.out _ _ _ HI.out
  by_cases hlt : i < k
  ·have hlt' : (i : Int) < (k : Int) := by omega
   have hi2 : (i : Int) < 1000 := by omega
   have P1 := hid (HP.out i hlt)
   have Q1 := hid (HQ.out i hlt)
   have HSE : Hid (∀ i' j' W', FYc w k p q (crD ks i' X.d) (crD ks j' X.d) X.f i' j' (.slice (some ⟨bd, 0, none⟩) k cd) (.slice (some ⟨bv, 0, none⟩) k cv) (fun b => Z b ∨ b = W.heap.size ∨ b = W.heap.size + 1) (Bx) W' → W'.cell? ⟨W.heap.size, 0, none⟩ = some (.slice (some ⟨bd, 0, none⟩) k cd) ∧ W'.cell? ⟨W.heap.size, 1, none⟩ = some (.slice (some ⟨bv, 0, none⟩) k cv) ∧ W'.cell? ⟨W.heap.size + 1, 10, none⟩ = some (.slice kp ks.length kc) ∧ W'.cell? ⟨bd, i, none⟩ = some (ptr (p i)) ∧ W'.cell? ⟨bv, i, none⟩ = some (ptr (q i))) := hid (fun i' j' W' hy => ⟨(HSS.out i' j' W' hy).1, (HSS.out i' j' W' hy).2.1, (HSS.out i' j' W' hy).2.2, HSD.out i' j' i W' hlt hy⟩)
   clear HP HQ HSS HSD
   go_wp2_with fail
   clear x0 x1 x10
   have HC := hid (HSE.out _ _ _ HI.out)
   go_region_held3 (fun w' => w'.cell? ⟨W.heap.size, 0, none⟩ = some (.slice (some ⟨bd, 0, none⟩) k cd) ∧ w'.cell? ⟨W.heap.size, 1, none⟩ = some (.slice (some ⟨bv, 0, none⟩) k cv) ∧ w'.cell? ⟨W.heap.size + 1, 10, none⟩ = some (.slice kp ks.length kc) ∧ w'.cell? ⟨bd, i, none⟩ = some (ptr (p i)) ∧ w'.cell? ⟨bv, i, none⟩ = some (ptr (q i))) (exact HC.out) (
    (go_at_call 27; (first | refine (P1.out _ (HI.out.below (below_drewN _ _))).mono ?_ | refine (P1.out _ HI.out).mono ?_); rintro e w2 ⟨rfl, hm2⟩; have HM1 := hid hm2; have HC := hid (HSE.out _ _ _ hm2); clear hm2))
   go_wp2_with fail
   have HM1' := hid (HM1.out.below (below_drewN w2 0))
   go_region_held3 (fun w' => w'.cell? ⟨W.heap.size, 0, none⟩ = some (.slice (some ⟨bd, 0, none⟩) k cd) ∧ w'.cell? ⟨W.heap.size, 1, none⟩ = some (.slice (some ⟨bv, 0, none⟩) k cv) ∧ w'.cell? ⟨W.heap.size + 1, 10, none⟩ = some (.slice kp ks.length kc) ∧ w'.cell? ⟨bd, i, none⟩ = some (ptr (p i)) ∧ w'.cell? ⟨bv, i, none⟩ = some (ptr (q i))) (exact HC.out) (
    (go_at_call 28; (first | refine (Q1.out _ (HM1.out.below (below_drewN _ _))).mono ?_ | refine (Q1.out _ HM1.out).mono ?_); rintro e w3 ⟨rfl, hm3⟩; have HM2 := hid hm3; have HC := hid (HSE.out _ _ _ hm3); clear hm3))
   go_wp2
   go_roundg (k - (i + 1))
   case measure => omega
   case rel => exact ⟨i + 1, by omega, by omega, by go_num, (by first | exact HM2.out | exact HM2.out.below (below_drewN _ _))⟩
  ·have hlt' : ¬ (i : Int) < (k : Int) := by omega
   have e : i = k := by omega
   have HE := hid (HEND.out wr (by have h1 := HI.out; rw [e] at h1; exact h1))
   go_wp2
   try go_ret
   exact HE.out
set_option maxHeartbeats 8000000 in
set_option maxRecDepth 100000 in
theorem happens_crash0 {w W : World} {p q : Nat → Nat} {X : FS} {dv wv : Value} {Z : Nat → Prop} (h : FY w 0 p q X X dv wv Z W) (x : AcV) (h5 : x.kd = 9) :
  Calls Tryz.prog 7 #[.agg #[dv, wv], x.v] W (HXt w 0 p q ⟨crD x.ks 0 X.d, none⟩ dv wv Z W) := by
 obtain ⟨dp, dc, hdv⟩ := h.dls.form
 obtain ⟨wp, wc, hwv⟩ := h.wls.form
 subst hdv
 subst hwv
 obtain ⟨kd, wh, nn, at_, a, bp, bc, b, ⟨fpo, fc, rows⟩, np, nc, ns, is, m, kp, kc, ks⟩ := x
 dsimp only [AcV.v, AcV.cs, FsV.v] at *
 subst h5
 have HEND : Hid (HXt w 0 p q ⟨crD ks 0 X.d, none⟩ (.slice dp 0 dc) (.slice wp 0 wc) Z W (.returned (.bool true)) ((W.alloc (.cells #[.slice dp 0 dc, .slice wp 0 wc] 26)).alloc (.cells #[.int .i64 9, .int .i64 wh, .int .i64 nn, .int .i64 at_, sv a, .slice bp b.length bc, .slice fpo rows.length fc, .slice np ns.length nc, .bool is, .int .u8 (m : Int), .slice kp ks.length kc] 35))) := hid (((h.enter (.cells #[.slice dp 0 dc, .slice wp 0 wc] 26) (.cells #[.int .i64 9, .int .i64 wh, .int .i64 nn, .int .i64 at_, sv a, .slice bp b.length bc, .slice fpo rows.length fc, .slice np ns.length nc, .bool is, .int .u8 (m : Int), .slice kp ks.length kc] 35)).1.crashes ks).done.leave (h.enter (.cells #[.slice dp 0 dc, .slice wp 0 wc] 26) (.cells #[.int .i64 9, .int .i64 wh, .int .i64 nn, .int .i64 at_, sv a, .slice bp b.length bc, .slice fpo rows.length fc, .slice np ns.length nc, .bool is, .int .u8 (m : Int), .slice kp ks.length kc] 35)).2.1)
 have c0 := (box_cells W #[.slice dp 0 dc, .slice wp 0 wc] #[.int .i64 9, .int .i64 wh, .int .i64 nn, .int .i64 at_, sv a, .slice bp b.length bc, .slice fpo rows.length fc, .slice np ns.length nc, .bool is, .int .u8 (m : Int), .slice kp ks.length kc] 26 35).1 0 _ rfl
 clear h
 generalize HXt w 0 p q ⟨crD ks 0 X.d, none⟩ (.slice dp 0 dc) (.slice wp 0 wc) Z W = PP at *
 go_enter Tryz.func7, Tryz.ntmps7
 go_wp2_with fail
 generalize (W.alloc (.cells #[.slice dp 0 dc, .slice wp 0 wc] 26)).alloc (.cells #[.int .i64 9, .int .i64 wh, .int .i64 nn, .int .i64 at_, sv a, .slice bp b.length bc, .slice fpo rows.length fc, .slice np ns.length nc, .bool is, .int .u8 (m : Int), .slice kp ks.length kc] 35) = Bx at *
 refine wp_loop_rounds 1 ?_
 rw [rounds_succ]
 go_wp2
 try go_ret
 exact HEND.out
end Go.Proofs.YtfogkegmdgbecaaGreatDoor

/- call of FanScript: Delete, Commit. -/
namespace Go.Proofs.YtfogkegmdgbecaaGreatDoor
open Go Go.RowKit Go.Shelf
set_option maxHeartbeats 8000000 in
set_option maxRecDepth 100000 in
theorem call_delete {w W : World} {k : Nat} {p q : Nat → Nat} {X : FS} {dv wv : Value} {Z : Nat → Prop} (h : FY w k p q X X dv wv Z W) (hk : k ≤ 18) (x : AcV) (h5 : x.kd = 2) (hE : Erh w) {nB : Nat} (hP : Pms nB k X.d) (hnB : nB ≤ 40000) (hx : TxO w x.np x.ns) (hnil : x.np = none → x.ns = [] ∧ x.nc = 0) (hls : ∀ y ∈ x.ns, y.length ≤ maxLen) (hn : x.ns.length ≤ 1000000) :
  Calls Tryz.prog 6 #[.agg #[dv, wv], x.v] W (HXt w k p q (delR k x.ns X).2.2 dv wv Z W) := by
 obtain ⟨dp, dc, hdv⟩ := h.dls.form
 obtain ⟨wp, wc, hwv⟩ := h.wls.form
 subst hdv
 subst hwv
 obtain ⟨kd, wh, nn, at_, a, bp, bc, b, ⟨fpo, fc, rows⟩, np, nc, ns, is, m, kp, kc, ks⟩ := x
 dsimp only [AcV.v, AcV.cs, FsV.v] at *
 subst h5
 obtain ⟨hen, hz0, -⟩ := h.enter (.cells #[.slice dp k dc, .slice wp k wc] 26) (.cells #[.int .i64 2, .int .i64 wh, .int .i64 nn, .int .i64 at_, sv a, .slice bp b.length bc, .slice fpo rows.length fc, .slice np ns.length nc, .bool is, .int .u8 (m : Int), .slice kp ks.length kc] 35)
 obtain ⟨q1, q2⟩ := box_cells W #[.slice dp k dc, .slice wp k wc] #[.int .i64 2, .int .i64 wh, .int .i64 nn, .int .i64 at_, sv a, .slice bp b.length bc, .slice fpo rows.length fc, .slice np ns.length nc, .bool is, .int .u8 (m : Int), .slice kp ks.length kc] 26 35
 have HM0 := hid hen
 have HSS : Hid (∀ X' Y' W', HY w k p q X' Y' (.slice dp k dc) (.slice wp k wc) (fun b => Z b ∨ b = W.heap.size ∨ b = W.heap.size + 1) ((W.alloc (.cells #[.slice dp k dc, .slice wp k wc] 26)).alloc (.cells #[.int .i64 2, .int .i64 wh, .int .i64 nn, .int .i64 at_, sv a, .slice bp b.length bc, .slice fpo rows.length fc, .slice np ns.length nc, .bool is, .int .u8 (m : Int), .slice kp ks.length kc] 35)) W' → W'.cell? ⟨W.heap.size, 0, none⟩ = some (.slice dp k dc) ∧ W'.cell? ⟨W.heap.size, 1, none⟩ = some (.slice wp k wc) ∧ W'.cell? ⟨W.heap.size + 1, 7, none⟩ = some (.slice np ns.length nc)) := hid (fun X' Y' W' hy => ⟨hy.box (.inr (.inl rfl)) (q1 0 _ rfl), hy.box (.inr (.inl rfl)) (q1 1 _ rfl), hy.box (.inr (.inr rfl)) (q2 7 _ rfl)⟩)
 have HB : Hid (∀ X' Y' W', HY w k p q X' Y' (.slice dp k dc) (.slice wp k wc) (fun b => Z b ∨ b = W.heap.size ∨ b = W.heap.size + 1) ((W.alloc (.cells #[.slice dp k dc, .slice wp k wc] 26)).alloc (.cells #[.int .i64 2, .int .i64 wh, .int .i64 nn, .int .i64 at_, sv a, .slice bp b.length bc, .slice fpo rows.length fc, .slice np ns.length nc, .bool is, .int .u8 (m : Int), .slice kp ks.length kc] 35)) W' → TxO W' np ns) := hid (fun X' Y' W' hy => hx.below hy.fy.be)
 have HCB : Hid (∀ W', HY w k p q X X (.slice dp k dc) (.slice wp k wc) (fun b => Z b ∨ b = W.heap.size ∨ b = W.heap.size + 1) ((W.alloc (.cells #[.slice dp k dc, .slice wp k wc] 26)).alloc (.cells #[.int .i64 2, .int .i64 wh, .int .i64 nn, .int .i64 at_, sv a, .slice bp b.length bc, .slice fpo rows.length fc, .slice np ns.length nc, .bool is, .int .u8 (m : Int), .slice kp ks.length kc] 35)) W' → Calls Tryz.prog 20 #[.slice np ns.length nc] W' fun e W1 => ∃ po' c', e = .returned (.slice po' ns.length c') ∧ ∀ W2, Below W1.heap.size W1 W2 → (HY w k p q X X (.slice dp k dc) (.slice wp k wc) (fun b => Z b ∨ b = W.heap.size ∨ b = W.heap.size + 1) ((W.alloc (.cells #[.slice dp k dc, .slice wp k wc] 26)).alloc (.cells #[.int .i64 2, .int .i64 wh, .int .i64 nn, .int .i64 at_, sv a, .slice bp b.length bc, .slice fpo rows.length fc, .slice np ns.length nc, .bool is, .int .u8 (m : Int), .slice kp ks.length kc] 35)) W2 ∧ Calls Tryz.prog 19 #[(.slice dp k dc), .slice po' ns.length c'] W2 fun e W3 => e = .returned (.tuple #[.int .i64 ((delR k ns X).2.1 : Int), .int .i64 ((delR k ns X).1 : Int)]) ∧ HY w k p q (delR k ns X).2.2 X (.slice dp k dc) (.slice wp k wc) (fun b => Z b ∨ b = W.heap.size ∨ b = W.heap.size + 1) ((W.alloc (.cells #[.slice dp k dc, .slice wp k wc] 26)).alloc (.cells #[.int .i64 2, .int .i64 wh, .int .i64 nn, .int .i64 at_, sv a, .slice bp b.length bc, .slice fpo rows.length fc, .slice np ns.length nc, .bool is, .int .u8 (m : Int), .slice kp ks.length kc] 35)) W3)) := hid (fun W' hy => (copyT_any (HB.out _ _ _ hy) hn hnil).mono (by
  rintro e W1 ⟨po', c', rfl, ht, hb1⟩
  refine ⟨po', c', rfl, fun W2 hb2 => ⟨(hy.below hb1).below hb2, ?_⟩⟩
  have hfy := ((hy.fy.below hb1).below hb2)
  refine (HY.pstep (Z := fun b => (Z b ∨ b = W.heap.size ∨ b = W.heap.size + 1) ∨ (W'.heap.size ≤ b ∧ b < W1.heap.size)) (W0 := W2) (X2 := (delR k ns X).2.2) ⟨hfy.less (fun b hb => .inl hb), fun _ _ => rfl⟩ (fun T hf hl hzT => (fdelete_any hf hl (by omega) hE (fun j hj => (hP j hj).bnd.mono (by omega) (by omega)) po' c' ns (own_base (ht.below hb2) (Nat.zero_le _)) (fun b hb => hzT b (.inr ⟨(own_ge ht b hb).1, (own_ge ht b hb).2⟩)) hls hn).mono fun e W3 hh => hh)).mono ?_
  rintro e W3 ⟨rfl, hy3⟩
  exact ⟨rfl, hy3.fy.less (fun b hb => .inl hb), ((hy.below hb1).below hb2).kz.trans (hy3.kz.less fun b hb => .inl hb)⟩))
 have HQ : Hid (∀ W', HY w k p q (delR k ns X).2.2 X (.slice dp k dc) (.slice wp k wc) (fun b => Z b ∨ b = W.heap.size ∨ b = W.heap.size + 1) ((W.alloc (.cells #[.slice dp k dc, .slice wp k wc] 26)).alloc (.cells #[.int .i64 2, .int .i64 wh, .int .i64 nn, .int .i64 at_, sv a, .slice bp b.length bc, .slice fpo rows.length fc, .slice np ns.length nc, .bool is, .int .u8 (m : Int), .slice kp ks.length kc] 35)) W' → Calls Tryz.prog 21 #[(.slice wp k wc), .slice np ns.length nc] W' fun e W2 => e = .returned (.tuple #[.int .i64 ((delR k ns X).2.1 : Int), .int .i64 ((delR k ns X).1 : Int)]) ∧ HY w k p q (delR k ns X).2.2 (delR k ns X).2.2 (.slice dp k dc) (.slice wp k wc) (fun b => Z b ∨ b = W.heap.size ∨ b = W.heap.size + 1) ((W.alloc (.cells #[.slice dp k dc, .slice wp k wc] 26)).alloc (.cells #[.int .i64 2, .int .i64 wh, .int .i64 nn, .int .i64 at_, sv a, .slice bp b.length bc, .slice fpo rows.length fc, .slice np ns.length nc, .bool is, .int .u8 (m : Int), .slice kp ks.length kc] 35)) W2) := hid (fun W' hy => hy.rstep (Y2 := (delR k ns X).2.2) fun T hf hl _ => (rfdelete_any hf hl (by omega) (fun j hj => (hP j hj).bnd.mono (by omega) (by omega)) np nc ns (HB.out _ _ _ hy) (fun y hy2 hne ht => by have := hf.ge _ ht; have := hx.lt y hy2 hne; omega) hls hn).mono fun e W2 hh => ⟨hh.1, hh.2.out⟩)
 have HEND : Hid (∀ W', HY w k p q (delR k ns X).2.2 (delR k ns X).2.2 (.slice dp k dc) (.slice wp k wc) (fun b => Z b ∨ b = W.heap.size ∨ b = W.heap.size + 1) ((W.alloc (.cells #[.slice dp k dc, .slice wp k wc] 26)).alloc (.cells #[.int .i64 2, .int .i64 wh, .int .i64 nn, .int .i64 at_, sv a, .slice bp b.length bc, .slice fpo rows.length fc, .slice np ns.length nc, .bool is, .int .u8 (m : Int), .slice kp ks.length kc] 35)) W' → HXt w k p q (delR k ns X).2.2 (.slice dp k dc) (.slice wp k wc) Z W (.returned (.bool true)) W') := hid (fun W' hy => hy.leave hz0)
 clear q1 q2 hen h
 generalize delR k ns X = R at *
 obtain ⟨er, nd, X2⟩ := R
 dsimp only at *
 generalize HXt w k p q X2 (.slice dp k dc) (.slice wp k wc) Z W = PP at *
 have hee : ((er : Int) == (er : Int)) = true := by simp
 have hen : ((nd : Int) == (nd : Int)) = true := by simp
 clear hz0 hP HB hx hnil hls hE
 go_enter Tryz.func6, Tryz.ntmps6
 go_wp2_with fail
 generalize (W.alloc (.cells #[.slice dp k dc, .slice wp k wc] 26)).alloc (.cells #[.int .i64 2, .int .i64 wh, .int .i64 nn, .int .i64 at_, sv a, .slice bp b.length bc, .slice fpo rows.length fc, .slice np ns.length nc, .bool is, .int .u8 (m : Int), .slice kp ks.length kc] 35) = Bx at *
 have HC := hid (HSS.out _ _ _ HM0.out)
 go_region_held3 (fun w' => w'.cell? ⟨W.heap.size, 0, none⟩ = some (.slice dp k dc) ∧ w'.cell? ⟨W.heap.size, 1, none⟩ = some (.slice wp k wc) ∧ w'.cell? ⟨W.heap.size + 1, 7, none⟩ = some (.slice np ns.length nc)) (exact HC.out) (first
  | (go_at_call 20; (first | refine (HCB.out _ (HM0.out.below (below_drewN _ _))).mono ?_ | refine (HCB.out _ HM0.out).mono ?_); rintro e w4 ⟨po4, c4, rfl, hm4⟩; have HF1 := hid hm4; have HC := hid (HSS.out _ _ _ (hm4 _ (Below.refl _ _)).1); clear hm4)
  | (go_at_call 19; (first | refine ((HF1.out _ (below_drewN _ _)).2).mono ?_ | refine ((HF1.out _ (Below.refl _ _)).2).mono ?_); rintro e w2 ⟨rfl, hm2⟩; have HM1 := hid hm2; have HC := hid (HSS.out _ _ _ hm2); clear hm2))
 obtain ⟨x0, x1, x7⟩ := HC.out
 go_wp2_with (go_at_call 21; (first | refine (HQ.out _ (HM1.out.below (below_drewN _ _))).mono ?_ | refine (HQ.out _ HM1.out).mono ?_); rintro e w3 ⟨rfl, hm3⟩; have HM2 := hid hm3; clear hm3 x0 x1 x7)
 try go_ret
 first | exact HEND.out _ HM2.out | exact HEND.out _ (HM2.out.below (below_drewN _ _))
end Go.Proofs.YtfogkegmdgbecaaGreatDoor
