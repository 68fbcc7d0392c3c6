/- Texts laid into one, cut to what is needed: the remark ahead of each part says what is proved there. -/
import Derived.Test.YtfogkegmdgbecaaGreatDoorPba
import Derived.Test.YtfogkegmdgbecaaGreatDoorPbb
/- The document's Read; what is told of copies. -/
namespace Go.Proofs.YtfogkegmdgbecaaGreatDoor
open Go Go.RowKit Go.Shelf

theorem own_at {W : World} {B t sz n : Nat} {v : Value} {xs : List Value} (h : W.ownsRow B t sz v n xs) {b : Nat} (hb : v.ownBlock = some b) : ∃ cur, W.heap[b]? = some (.cells cur t (0, 0)) := by
 rcases h.2 with ⟨rfl, _⟩ | ⟨g, cap, cur, rfl, _, hg, _⟩
 ·cases hb
 ·cases hb; exact ⟨cur, hg⟩
/-- Copies in a row of their own. -/
structure CqL (B : Nat) (W : World) (v : Value) (i : Nat) (E : Nat → Nat) (Bs : Nat → List Nat) : Prop where
 ex : ∃ xs, W.ownsRow B 115 2 v i xs ∧ ∀ j, j < i → ∃ po c, xs[j * 2]? = some (.int .i64 (E j : Int)) ∧ xs[j * 2 + 1]? = some (.slice po (Bs j).length c) ∧ W.ownsRow B 5 1 (.slice po (Bs j).length c) (Bs j).length ((Bs j).map u8)
theorem CqL.form {B : Nat} {W : World} {v : Value} {i : Nat} {E : Nat → Nat} {Bs : Nat → List Nat} (h : CqL B W v i E Bs) : ∃ po c, v = .slice po i c := by obtain ⟨xs, h1, _⟩ := h.ex; exact own_form h1
theorem CqL.below {B : Nat} {W W' : World} {v : Value} {i : Nat} {E : Nat → Nat} {Bs : Nat → List Nat} (h : CqL B W v i E Bs) (hb : Below W.heap.size W W') : CqL B W' v i E Bs := by
 obtain ⟨xs, h1, h2⟩ := h.ex
 exact ⟨xs, ownsRow_keep h1 fun b hv => hb.block b (own_ge h1 b hv).2, fun j hj => by obtain ⟨po, c, a1, a2, o⟩ := h2 j hj; exact ⟨po, c, a1, a2, ownsRow_keep o fun b hv => hb.block b (own_ge o b hv).2⟩⟩
theorem Tryz.infoCq : (Tryz.prog.info? 115).map (fun i => (i.zero, i.size, i.bytes)) = some (some (.agg #[.int .i64 0, .slice none 0 0]), 2, 32) := by kernel_rfl
theorem CqL.push {B : Nat} {W : World} {v : Value} {i : Nat} {E : Nat → Nat} {Bs : Nat → List Nat} (h : CqL B W v i E Bs) (hi : i ≤ 1000) (hB : B ≤ W.heap.size) (po : Option Addr) (c : Nat) (ho : W.ownsRow B 5 1 (.slice po (Bs i).length c) (Bs i).length ((Bs i).map u8)) :
  ∃ vp vc w', (Builtin.append_ #[54, 54] 54 #[v, .slice (some ⟨W.heap.size, 0, none⟩) 1 1]).run Tryz.prog (W.alloc (.cells #[.int .i64 (E i : Int), .slice po (Bs i).length c] 115)) = .ok (.slice vp (i + 1) vc) w' ∧ CqL B w' (.slice vp (i + 1) vc) (i + 1) E Bs ∧ Below B W w' := by
 obtain ⟨xs, h1, h2⟩ := h.ex
 obtain ⟨v', w', hr, h3, h4, h5, _⟩ := own_push (T := 54) Tryz.underlying54 Tryz.infoCq rfl (by decide) h1 #[.int .i64 (E i : Int), .slice po (Bs i).length c] rfl (by simp [Value.oneCell']) (by omega) (by decide) hB
 obtain ⟨vp, vc, rfl⟩ := own_form h3
 have hx : xs.length = i * 2 := h1.1
 have kp : ∀ {q : Value} {n : Nat} {ys : List Value}, W.ownsRow B 5 1 q n ys → w'.ownsRow B 5 1 q n ys := fun o => ownsRow_keep o fun b hb => h4.block b (own_ge o b hb).2 (fun e => by
  obtain ⟨c1, e1⟩ := own_at o hb
  obtain ⟨c2, e2⟩ := own_at h1 e
  rw [e1] at e2; cases e2)
 refine ⟨vp, vc, w', hr, ⟨_, h3, fun j hj => ?_⟩, h4.below hB (fun b hb => (own_ge h1 b hb).1)⟩
 by_cases e : j = i
 ·subst e
  refine ⟨po, c, ?_, ?_, kp ho⟩
  ·rw [List.getElem?_append_right (by omega), hx, Nat.sub_self]; rfl
  ·rw [List.getElem?_append_right (by omega), hx, show j * 2 + 1 - j * 2 = 1 by omega]; rfl
 ·obtain ⟨p1, c1, a1, a2, o⟩ := h2 j (by omega)
  exact ⟨p1, c1, by rw [List.getElem?_append_left (by omega)]; exact a1, by rw [List.getElem?_append_left (by omega)]; exact a2, kp o⟩
/-- What the document's Read answers. -/
def RdO (w1 : World) (k : Nat) (X : FS) (s : Nm) (e : Ending) (w' : World) : Prop :=
 ∃ v, e = .returned (.tuple #[v, .int .i64 (rdN k X s : Int)]) ∧ Below w1.heap.size w1 w' ∧ ((rdN k X s ≠ 0 ∧ v = .slice none 0 0) ∨ (rdN k X s = 0 ∧ CqL w1.heap.size w' v k (fun j => (X.d j).readE X.f s) (fun j => (X.d j).readB X.f s)))
structure RRI (w1 : World) (X0 : FS) (s : Nm) (i : Nat) (v : Value) (W : World) : Prop where
 be : Below w1.heap.size w1 W
 cq : CqL w1.heap.size W v i (fun j => (X0.d j).readE X0.f s) (fun j => (X0.d j).readB X0.f s)
 ok : ∀ j, j < i → (X0.d j).readE X0.f s ≠ 11
section
variable {w w1 : World} {T : Nat → Prop} {k : Nat} {p : Nat → Nat} {X0 : FS}
set_option maxHeartbeats 4000000 in
set_option maxRecDepth 100000 in
theorem rfread_any (h : RA w w1 T k p X0.d X0.f 0) {lv : Value} (hl : LsAt w1 T lv k p) (hk : k ≤ 1000) (hG : ∀ i, i < k → (X0.d i).fine) (hB : ∀ i, i < k → (X0.d i).F.length ≤ 50000) (s : Nm) (hs : s.length ≤ maxLen) :
  Calls Tryz.prog 17 #[lv, sv s] w1 (RdO w1 k X0 s) := by
 obtain ⟨lpo, lc, hlv⟩ := hl.form
 subst hlv
 have HD := hid (fun W => rdrives_any lpo k lc hk W)
 have HNM := hid (fun W => rname_any s W hs)
 by_cases hck : ckD k = 0
 ·rw [decide_eq_true hck] at HD
  have hk16 : 1 ≤ k ∧ k ≤ 16 := by unfold ckD at hck; split at hck <;> simp_all
  by_cases hok : okNm s = true
  ·rw [hok] at HNM
   have HFB : Hid (∀ W i, i < k → (X0.d i).readE X0.f s = 11 → Below w1.heap.size w1 W → RdO w1 k X0 s (.returned (.tuple #[.slice none 0 0, .int .i64 11])) W) := hid (fun W i hi e hb => by
    have hE : rdN k X0 s = 11 := by
     unfold rdN
     rw [if_neg (by omega), if_neg (by simp [hok]), if_pos (List.any_eq_true.2 ⟨i, List.mem_range.2 hi, by simp [e]⟩)]
    unfold RdO; rw [hE]
    exact ⟨_, rfl, hb, .inl ⟨by decide, rfl⟩⟩)
   have HFO : Hid (∀ W v, RRI w1 X0 s k v W → RdO w1 k X0 s (.returned (.tuple #[v, .int .i64 0])) W) := hid (fun W v hr => by
    have hE : rdN k X0 s = 0 := by
     unfold rdN
     rw [if_neg (by omega), if_neg (by simp [hok]), if_neg]
     intro ha
     obtain ⟨j, hj, h2⟩ := List.any_eq_true.1 ha
     exact hr.ok j (List.mem_range.1 hj) (by simpa using h2)
    unfold RdO; rw [hE]
    exact ⟨_, rfl, hr.be, .inr ⟨rfl, hr.cq⟩⟩)
   generalize RdO w1 k X0 s = PP at *
   have H0 : Hid (RRI w1 X0 s 0 (.slice none 0 0) w1) := hid ⟨Below.refl _ _, ⟨[], World.ownsRow_nil _ _ _ _, fun j hj => absurd hj (Nat.not_lt_zero _)⟩, fun j hj => absurd hj (Nat.not_lt_zero _)⟩
   obtain ⟨bl, hbl, hlc⟩ : ∃ bl, lpo = some ⟨bl, 0, none⟩ ∧ ∀ j, j < k → w1.cell? ⟨bl, j, none⟩ = some (ptr (p j)) := by
    rcases hl.ex with ⟨h0, _⟩ | ⟨h0, b, c, h1, h2, h3⟩
    ·omega
    ·cases h1; exact ⟨b, rfl, h3⟩
   subst hbl
   have HLS : Hid (∀ W, Below w1.heap.size w1 W → ∀ i, i < k → W.cell? ⟨bl, i, none⟩ = some (ptr (p i))) := hid (fun W hb i hi => (World.cell?_of_block (a := ⟨bl, i, none⟩) (hb.block bl (cell_lt2 (hlc 0 (by omega))))).trans (hlc i hi))
   have HRD : Hid (∀ W, Below w1.heap.size w1 W → ∀ i, i < k → Calls Tryz.prog 51 #[ptr (p i), sv s] W (ReadAt W ((X0.d i).readE X0.f s) ((X0.d i).readB X0.f s))) := hid (fun W hb i hi => (h.below hb).look hi fun fu S v L hd hf => rread_any hd (by simpa [fAt] using hf) s hs (by rw [hd.lenF]; exact Nat.lt_of_le_of_lt (hB i hi) (by decide)) (hd.lens (hG i hi)))
   have HCD : Hid (∀ i, (X0.d i).readE X0.f s ≤ 13) := hid (fun i => readE_cd _ _ _)
   clear h hl hB hG hck hlc
   go_enter Tryz.func17, Tryz.ntmps17
   go_wp2_with (first
    | (go_at_call 75; refine (HD.out _).mono ?_; rintro e w5 ⟨rfl, hw5⟩; have hw6 := hw5.symm; subst hw6)
    | (go_at_call 76; refine (HNM.out _).mono ?_; rintro e w5 ⟨rfl, hw5⟩; have hw6 := hw5.symm; subst hw6))
   go_loopg [6, 7] k (fun gg o v wr => ∃ i : Nat, i ≤ k ∧ k - i ≤ gg ∧ v = .int .i64 (i : Int) ∧ RRI w1 X0 s i o wr)
   case atStart => exact ⟨0, Nat.zero_le _, by omega, rfl, H0.out⟩
   case round =>
    clear H0
    obtain ⟨i, hi, hgg, rfl, hI⟩ := hrel
    have HI := hid hI
    clear hI
    obtain ⟨opo, oc, hov⟩ := HI.out.cq.form
    subst hov
    by_cases hlt : i < k
    ·have hlt' : (i : Int) < (k : Int) := by omega
     have hi2 : (i : Int) < 1000 := by omega
     have z0 := HLS.out wr HI.out.be i hlt
     have HR6 := hid (HRD.out wr HI.out.be i hlt)
     have hcd := HCD.out i
     have HBR := hid (fun W (e : (X0.d i).readE X0.f s = 11) hb => HFB.out W i hlt e hb)
     have HNX : Hid (∀ w6 po c, (X0.d i).readE X0.f s ≠ 11 → w6.ownsRow wr.heap.size 5 1 (.slice po ((X0.d i).readB X0.f s).length c) ((X0.d i).readB X0.f s).length (((X0.d i).readB X0.f s).map Go.Proofs.YtfogkegmdgbecaaGreatDoor.u8) → Below wr.heap.size wr w6 → ∃ vp vc w', (Builtin.append_ #[54, 54] 54 #[.slice opo i oc, .slice (some ⟨w6.heap.size, 0, none⟩) 1 1]).run Tryz.prog (w6.alloc (.cells #[.int .i64 ((X0.d i).readE X0.f s : Int), .slice po ((X0.d i).readB X0.f s).length c] 115)) = .ok (.slice vp (i + 1) vc) w' ∧ RRI w1 X0 s (i + 1) (.slice vp (i + 1) vc) w') := hid (fun w6 po c hne ho hb => by
      have hs1 := HI.out.be.size
      have hs2 := hb.size
      obtain ⟨vp, vc, w', hr, hq, hbw⟩ := (HI.out.cq.below hb).push (by omega) (by omega) po c (own_base ho hs1)
      refine ⟨vp, vc, w', hr, (below_on _ _ HI.out.be hb).trans hbw, hq, fun j hj => ?_⟩
      by_cases e : j = i
      ·rw [e]; exact hne
      ·exact HI.out.ok j (by omega))
     have HBE := hid HI.out.be
     clear HI
     generalize (X0.d i).readE X0.f s = er at *
     generalize (X0.d i).readB X0.f s = bs at *
     go_upto_region 10 with (go_at_call 51; refine HR6.out.mono ?_; rintro e w6 ⟨npo, nc, rfl, ho6, hb6⟩; have HO6 := hid ho6; have HB6 := hid hb6; clear ho6 hb6)
     by_cases q11 : er = 11
     ·subst q11
      go_wp2
      exact HBR.out w6 (by first | rfl | trivial) (below_on _ _ HBE.out HB6.out)
     ·have q11' : ((er : Int) == 11) = false := beq_eq_false_iff_ne.2 (by omega)
      obtain ⟨vp, vc, w7, hrun, hrr⟩ := HNX.out w6 npo nc q11 HO6.out HB6.out
      have HRUN := hid hrun
      have HRR := hid hrr
      clear hrun hrr HNX
      go_wp2_with (at_builtin; refine wpList_append_run _ _ 54 rfl rfl _ _ (.slice vp (i + 1) vc) rfl rfl HRUN.out ?_)
      go_roundg (k - (i + 1))
      case measure => omega
      case rel => exact ⟨i + 1, by omega, by omega, by go_num, HRR.out⟩
    ·have hlt' : ¬ (i : Int) < (k : Int) := by omega
     have hik : i = k := by omega
     subst hik
     have HE := hid (HFO.out wr _ HI.out)
     clear HI
     go_wp2
     exact HE.out
  ·have hok' : okNm s = false := by simpa using hok
   rw [hok'] at HNM
   have HE : Hid (∀ W, Below w1.heap.size w1 W → RdO w1 k X0 s (.returned (.tuple #[.slice none 0 0, .int .i64 13])) W) := hid (fun W hb => by
    have hE : rdN k X0 s = 13 := by unfold rdN; rw [if_neg (by omega), if_pos hok']
    unfold RdO; rw [hE]
    exact ⟨_, rfl, hb, .inl ⟨by decide, rfl⟩⟩)
   generalize RdO w1 k X0 s = PP at *
   clear h hl hB hG
   go_enter Tryz.func17, Tryz.ntmps17
   go_wp2_with (first
    | (go_at_call 75; refine (HD.out _).mono ?_; rintro e w5 ⟨rfl, hw5⟩; have hw6 := hw5.symm; subst hw6)
    | (go_at_call 76; refine (HNM.out _).mono ?_; rintro e w5 ⟨rfl, hw5⟩; have hw6 := hw5.symm; subst hw6))
   exact HE.out _ (Below.refl _ _)
 ·rw [decide_eq_false hck] at HD
  have HE : Hid (∀ W, Below w1.heap.size w1 W → RdO w1 k X0 s (.returned (.tuple #[.slice none 0 0, .int .i64 2])) W) := hid (fun W hb => by
   have hE : rdN k X0 s = 2 := by unfold rdN; rw [if_pos hck]; unfold ckD at hck ⊢; split at hck; exact absurd rfl hck; rw [if_neg ‹_›]
   unfold RdO; rw [hE]
   exact ⟨_, rfl, hb, .inl ⟨by decide, rfl⟩⟩)
  generalize RdO w1 k X0 s = PP at *
  clear h hl hB hG
  go_enter Tryz.func17, Tryz.ntmps17
  go_wp2_with (first
   | (go_at_call 75; refine (HD.out _).mono ?_; rintro e w5 ⟨rfl, hw5⟩; have hw6 := hw5.symm; subst hw6))
  exact HE.out _ (Below.refl _ _)
end
end Go.Proofs.YtfogkegmdgbecaaGreatDoor

/- The document's Light of a set; a fuse below nought. -/
namespace Go.Proofs.YtfogkegmdgbecaaGreatDoor
open Go Go.RowKit Go.Shelf

/-- While a fuse z is given, drive by drive. -/
structure RLt (w w1 : World) (T : Nat → Prop) (k : Nat) (p : Nat → Nat) (d : Nat → Pd) (f : Fs) (R : Nat → Nat → Prop) (fu : Option Nat) (z n i : Nat) (W : World) : Prop where
 dr : ∀ j, j < k → RfAt W (R j) (p j) (if j < i then some z else fu) (if j < i then (d j).lit f else d j)
 fz : FuR W (fun b => ∃ j, j < k ∧ R j b) fu f
 cz : CAt W z #[.int .i64 (n : Int), .bool false] 138
 on : Only T w1 W
section
variable {w w1 W : World} {T : Nat → Prop} {k : Nat} {p : Nat → Nat} {d : Nat → Pd} {f : Fs} {R : Nat → Nat → Prop} {fu : Option Nat} {z n i : Nat}
theorem RLt.next (h : RLt w w1 T k p d f R fu z n i W) (hi : i < k) (hdj : ∀ i j, i < k → j < k → i ≠ j → ∀ b, R i b → ¬ R j b) (hRT : ∀ i, i < k → ∀ b, R i b → T b) (hz : ∀ i, i < k → ¬ R i z) {W' : World} (hb : Below W.heap.size W W') :
  RLt w w1 T k p d f R fu z n (i + 1) ((W'.setCell ⟨p i, 4, none⟩ (.bool ((d i).isOut f))).setCell ⟨p i, 5, none⟩ (ptr z)) := by
 have hpi : R i (p i) := by obtain ⟨v, L, hd⟩ := h.dr i hi; exact hd.sp
 have kp : ∀ b, b ≠ p i → ((W'.setCell ⟨p i, 4, none⟩ (.bool ((d i).isOut f))).setCell ⟨p i, 5, none⟩ (ptr z)).heap[b]? = W'.heap[b]? := fun b hb => (heap_setCell_ne _ _ _ _ hb).trans (heap_setCell_ne _ _ _ _ hb)
 have sz : ((W'.setCell ⟨p i, 4, none⟩ (.bool ((d i).isOut f))).setCell ⟨p i, 5, none⟩ (ptr z)).heap.size = W'.heap.size := by rw [setCell_size, setCell_size]
 refine ⟨fun j hj => ?_, ?_, ?_, ?_⟩
 ·by_cases e : j = i
  ·subst e
   have hd := h.dr j hj
   rw [if_neg (Nat.lt_irrefl _), if_neg (Nat.lt_irrefl _)] at hd
   obtain ⟨v, L, hd⟩ := hd
   rw [if_pos (Nat.lt_succ_self _), if_pos (Nat.lt_succ_self _)]
   exact ⟨v, L, (hd.below hb).litC ((d j).isOut f) z⟩
  ·have hd := h.dr j hj
   have e1 : (if j < i then some z else fu) = (if j < i + 1 then some z else fu) := by
    by_cases a : j < i
    ·rw [if_pos a, if_pos (by omega)]
    ·rw [if_neg a, if_neg (by omega)]
   have e2 : (if j < i then (d j).lit f else d j) = (if j < i + 1 then (d j).lit f else d j) := by
    by_cases a : j < i
    ·rw [if_pos a, if_pos (by omega)]
    ·rw [if_neg a, if_neg (by omega)]
   rw [e1, e2] at hd
   have hl := hd.lt
   refine (hd.keep (w' := W') hb.size fun b hR => hb.block b (hl b hR)).keep (by rw [sz]; exact Nat.le_refl _) fun b hR => kp b (fun e3 => hdj j i hj hi e b hR (e3 ▸ hpi))
 ·exact (h.fz.below hb).keep fun q e => kp q (fun e3 => h.fz.ne q e ⟨i, hi, e3 ▸ hpi⟩)
 ·exact (h.cz.below hb).keep (kp z (fun e => hz i hi (e ▸ hpi)))
 ·refine (h.on.then (Only.of_below (S := fun _ => False) hb) (fun _ _ h => h.elim)).then (Only.set W' ⟨p i, 4, none⟩ (.bool ((d i).isOut f)) (rfl : (fun b => p i = b) _)) (fun b _ e => by first | (subst e; exact hRT i hi _ hpi) | exact hRT i hi _ (e ▸ hpi)) |>.then (Only.set _ ⟨p i, 5, none⟩ (ptr z) (rfl : (fun b => p i = b) _)) (fun b _ e => by first | (subst e; exact hRT i hi _ hpi) | exact hRT i hi _ (e ▸ hpi))
set_option maxRecDepth 100000 in
theorem fuse_bad {wr : World} {c : Nat} (n : Int) (hn : n < 0) (h : FA w wr T k p d f c) {v : Value} (hl : LsAt wr T v k p) (hk : k ≤ 1000) : Calls Tryz.prog 29 #[v, .int .i64 n] wr fun e w' => e = .returned (.int .i64 2) ∧ w' = wr := by
 have H := hid (fun i (hi : i < k) => h.made hi)
 have HK := hid hk
 rcases hl.ex with ⟨rfl, rfl⟩ | ⟨h0, b, cc, rfl, _, hb⟩
 ·clear h hl
  go_enter Tryz.func29, Tryz.ntmps29
  go_wp2
  refine wp_loop_rounds 1 ?_
  rw [rounds_succ]
  go_wp2
  go_ret
  exact ⟨rfl, by first | rfl | trivial⟩
 ·have HB := hid hb
  clear h hl hb hk
  go_enter Tryz.func29, Tryz.ntmps29
  go_wp2
  go_loopw [12] (fun x wx => ∃ i : Nat, i ≤ k ∧ x = .int .i64 (i : Int) ∧ wr = wx) (fun x _ => (1000 - intOf x).toNat)
  case atStart => exact ⟨0, by omega, rfl, rfl⟩
  case round =>
   obtain ⟨i, hi, rfl, hw⟩ := hrel
   subst hw
   by_cases hlt : i < k
   ·have hx := HB.out i hlt
    have hm := H.out i hlt
    have hlt' : (i : Int) < (k : Int) := by omega
    have hi2 : (i : Int) < 1000 := by have := HK.out; omega
    go_wp2_with (go_at_call 88; refine hm.mono ?_; rintro e w' ⟨rfl, hw'⟩; have hw2 := hw'.symm; subst hw2)
    go_roundw
    case rel => exact ⟨i + 1, by omega, by go_num, by trivial⟩
    case measure => simp [intOf]; omega
   ·have hlt' : ¬ (i : Int) < (k : Int) := by omega
    go_wp2
    go_ret
    exact ⟨by first | rfl | trivial, by first | rfl | trivial⟩
set_option maxHeartbeats 4000000 in
set_option maxRecDepth 100000 in
theorem rlight_ra (h : RA w w1 T k p d f 0) {lv : Value} (hl : LsAt w1 T lv k p) (hk : k ≤ 64) (n : Nat) (hn : n ≤ 9223372036854775807) :
  Calls Tryz.prog 30 #[lv, .int .i64 (n : Int)] w1 fun e w' => e = .returned (.int .i64 0) ∧ RStep w w1 T k p (fun i => (d i).lit f) (some (n, false)) 0 w' := by
 have hn0 : ¬ (n : Int) < 0 := by omega
 have hk0 : ¬ 64 < (k : Int) := by omega
 obtain ⟨R, fu, hdr, hdj, hRT, hfz, hfT⟩ := h.ex
 have hlt := h.lt
 have H0 : Hid (RLt w w1 T k p d f R fu w1.heap.size n 0 (w1.alloc (.cells #[.int .i64 (n : Int), .bool false] 138))) := hid ⟨fun j hj => by
   have := hdr j hj
   simp only [Nat.not_lt_zero, if_false] at this ⊢
   exact this.keep (by simp) fun b hb => heap_alloc_old _ _ (hlt b (hRT j hj b hb)), hfz.alloc _, CAt.made _ _ _, Only.alloc _ _⟩
 have HNX := hid (fun i W W' (hI : RLt w w1 T k p d f R fu w1.heap.size n i W) hi (hb : Below W.heap.size W W') => hI.next hi hdj hRT (fun j hj hr => by have := hlt _ (hRT j hj _ hr); omega) hb)
 have HFI : Hid (∀ W, RLt w w1 T k p d f R fu w1.heap.size n k W → (Ending.returned (.int .i64 0) = .returned (.int .i64 0) ∧ RStep w w1 T k p (fun i => (d i).lit f) (some (n, false)) 0 W)) := hid (fun W hI => by
  refine ⟨rfl, fun b => T b ∨ b = w1.heap.size, ⟨fun b hb => .inl hb, fun b hb => hb.elim .inl (fun e => .inr (by omega))⟩, ⟨⟨R, some w1.heap.size, fun j hj => ?_, hdj, fun j hj b hb => .inl (hRT j hj b hb), ⟨hI.cz, fun ⟨j, hj, hr⟩ => by have := hlt _ (hRT j hj _ hr); omega, hn⟩, fun q e => .inr (by cases e; rfl)⟩, fun b hb => ?_, fun b hb => ?_, ?_⟩, hI.on⟩
  ·have := hI.dr j hj
   rw [if_pos hj, if_pos hj] at this
   simpa using this
  ·exact hb.elim (fun hb => Nat.lt_of_lt_of_le (hlt b hb) hI.on.size) (fun e => by rw [e]; exact hI.cz.lt)
  ·exact hb.elim (h.ge b) (fun e => by rw [e]; exact h.be.size)
  ·exact ⟨hI.on.os.trans h.be.os, hI.on.tape.trans h.be.tape, hI.on.output.trans h.be.output, Nat.le_trans h.be.size hI.on.size, fun b hb => (hI.on.block b (Nat.lt_of_lt_of_le hb h.be.size) (fun ht => by have := h.ge b ht; omega)).trans (h.be.block b hb)⟩)
 rcases hl.ex with ⟨rfl, rfl⟩ | ⟨h0, bl, lc, rfl, hTb, hlc⟩
 ·have HE := hid (HFI.out _ H0.out)
  clear h hl hdr hdj hRT hfz hfT H0 HFI HNX
  go_enter Tryz.func30, Tryz.ntmps30
  go_wp2
  refine wp_loop_rounds 1 ?_
  rw [rounds_succ]
  go_wp2
  go_ret
  exact ⟨rfl, HE.out.2⟩
 ·have hbl := cell_lt2 (hlc 0 h0)
  have HLS : Hid (∀ W, Only T w1 W → ∀ i, i < k → W.cell? ⟨bl, i, none⟩ = some (ptr (p i))) := hid (fun W ho i hi => (World.cell?_of_block (a := ⟨bl, i, none⟩) (ho.block bl hbl hTb)).trans (hlc i hi))
  have HPB : Hid (∀ i W, RLt w w1 T k p d f R fu w1.heap.size n i W → ∀ j, j < k → p j ≠ bl) := hid (fun i W hI j hj e => hTb (e ▸ hRT j hj _ (by obtain ⟨v, L, hd⟩ := hdr j hj; exact hd.sp)))
  have HOU : Hid (∀ i W, RLt w w1 T k p d f R fu w1.heap.size n i W → i < k → ∀ W', Below W.heap.size W W' → Calls Tryz.prog 92 #[ptr (p i)] W' fun e w' => e = .returned (.bool ((d i).isOut f)) ∧ w' = W') := hid (fun i W hI hi W' hb => by
   have hd := hI.dr i hi
   rw [if_neg (Nat.lt_irrefl _), if_neg (Nat.lt_irrefl _)] at hd
   obtain ⟨v, L, hd⟩ := hd
   exact rout_any (hd.below hb) ((hI.fz.thin fun b hb => ⟨i, hi, hb⟩).below hb))
  have HCE : Hid (∀ i W, RLt w w1 T k p d f R fu w1.heap.size n i W → i < k → ∀ W', Below W.heap.size W W' → W'.cell? ⟨p i, 4, none⟩ = some (.bool (d i).out) ∧ W'.frozen? ⟨p i, 4, none⟩ = false ∧ W'.cell? ⟨p i, 5, none⟩ = some (fuV fu) ∧ W'.frozen? ⟨p i, 5, none⟩ = false) := hid (fun i W hI hi W' hb => by
   have hd := hI.dr i hi
   rw [if_neg (Nat.lt_irrefl _), if_neg (Nat.lt_irrefl _)] at hd
   obtain ⟨v, L, hd⟩ := hd
   have hc := (hd.below hb).c
   exact ⟨hc.cell 4, hc.free 4, hc.cell 5, hc.free 5⟩)
  clear h hl hdr hdj hRT hfz hfT hlc hTb
  go_enter Tryz.func30, Tryz.ntmps30
  go_wp2
  generalize w1.alloc (.cells #[.int .i64 (n : Int), .bool false] 138) = W0 at *
  go_loopw [6] (fun x wx => ∃ i : Nat, i ≤ k ∧ x = .int .i64 (i : Int) ∧ RLt w w1 T k p d f R fu w1.heap.size n i wx) (fun x _ => (1000 - intOf x).toNat)
  case atStart => exact ⟨0, Nat.zero_le _, rfl, H0.out⟩
  case round =>
   clear H0
   obtain ⟨i, hi, rfl, hI⟩ := hrel
   have HI := hid hI
   clear hI
   by_cases hlt2 : i < k
   ·have hlt' : (i : Int) < (k : Int) := by omega
    have hi2 : (i : Int) < 1000 := by omega
    have z0 := HLS.out wr HI.out.on i hlt2
    have hpb := HPB.out i wr HI.out i hlt2
    have hpb2 : bl ≠ p i := fun e => hpb e.symm
    have HO := hid (HOU.out i wr HI.out hlt2)
    have HC := hid (HCE.out i wr HI.out hlt2)
    have HN := hid (fun W' hb => HNX.out i wr W' HI.out hlt2 hb)
    have HZ : Hid (∀ W', Below wr.heap.size wr W' → W'.cell? ⟨bl, i, none⟩ = some (ptr (p i))) := hid (fun W' hb => (World.cell?_of_block (a := ⟨bl, i, none⟩) (hb.block bl (cell_lt2 z0))).trans z0)
    clear HI
    generalize (d i).isOut f = ob at *
    obtain ⟨a4, y4, a5, y5⟩ := HC.out _ (below_drewN wr 1)
    have k5 : ((wr.drewN 1).setCell ⟨p i, 4, none⟩ (.bool ob)).cell? ⟨p i, 5, none⟩ = some (fuV fu) := (World.cell?_setCell_other _ ⟨p i, 4, none⟩ ⟨p i, 5, none⟩ _ (by intro e; cases e)).trans a5
    have k6 : ((wr.drewN 1).setCell ⟨p i, 4, none⟩ (.bool ob)).frozen? ⟨p i, 5, none⟩ = false := by rw [World.frozen?_setCell]; exact y5
    have k7 : ((wr.drewN 1).setCell ⟨p i, 4, none⟩ (.bool ob)).cell? ⟨bl, i, none⟩ = some (ptr (p i)) := (World.cell?_of_block (a := ⟨bl, i, none⟩) (heap_setCell_ne _ _ _ _ hpb2)).trans (HZ.out _ (below_drewN wr 1))
    go_wp2_with fail
    go_region_held3 (fun w' => w'.cell? ⟨bl, i, none⟩ = some (ptr (p i))) (first | exact z0 | exact (World.cell?_of_block (heap_setCell_ne _ _ _ _ hpb2)).trans (HZ.out _ (below_drewN wr 1))) ((go_at_call 92; (first | refine (HO.out _ (below_drewN _ _)).mono ?_ | refine (HO.out _ (Below.refl _ _)).mono ?_); rintro e w' ⟨rfl, hw'⟩; have hw2 := hw'.symm; subst hw2))
    go_wp2
    go_roundw
    case rel => exact ⟨i + 1, by omega, by go_num, HN.out _ (below_drewN wr 1)⟩
    case measure => simp only [intOf]; omega
   ·have hlt' : ¬ (i : Int) < (k : Int) := by omega
    have hik : i = k := by omega
    subst hik
    have HE := hid (HFI.out _ HI.out)
    clear HI
    go_wp2
    go_ret
    exact ⟨rfl, HE.out.2⟩
end
end Go.Proofs.YtfogkegmdgbecaaGreatDoor
