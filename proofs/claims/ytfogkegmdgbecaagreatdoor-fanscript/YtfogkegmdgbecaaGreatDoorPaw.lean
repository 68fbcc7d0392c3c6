/- Texts laid into one, cut to what is needed: the remark ahead of each part says what is proved there. -/
import Derived.Test.YtfogkegmdgbecaaGreatDoorPat
import Derived.Test.YtfogkegmdgbecaaGreatDoorPas
import Derived.Test.YtfogkegmdgbecaaGreatDoorPav
import Derived.Deep.LoopGhost
/- list, Clean. -/
namespace Go.Proofs.YtfogkegmdgbecaaGreatDoor
open Go Go.RowKit Go.Shelf

section
variable {w w1 : World} {T : Nat → Prop} {k : Nat} {p : Nat → Nat} {d : Nat → Pd} {f : Fs} {c : Nat}
theorem FA.drc (h : FA w w1 T k p d f c) {i : Nat} (hi : i < k) : ∃ S m fu L, DrC w1 S (p i) m fu (d i) L := by
 obtain ⟨D, Z, fu, hs, hd, hf, hq⟩ := h.ex
 obtain ⟨m, L, hr⟩ := hs.dr i hi
 obtain ⟨h1, h2, h3, h4⟩ := hd i hi
 rw [h1, h3] at hr
 exact ⟨_, m, _, L, hr⟩
theorem FA.okn (h : FA w w1 T k p d f c) {i : Nat} (hi : i < k) : ∀ x ∈ (d i).F, okNm x.1 = true := by
 obtain ⟨S, m, fu, L, hr⟩ := h.drc hi
 intro x hx
 rw [hr.fs] at hx
 obtain ⟨y, hy, rfl⟩ := List.mem_map.1 hx
 exact hr.nm y hy
end
theorem list_mem {d : Pd} {f : Fs} {pre x : Nm} (h : x ∈ d.list f pre) : ∃ y ∈ d.F, y.1 = x := by
 unfold Pd.list namesOf at h
 split at h
 ·obtain ⟨y, hy, e⟩ := List.mem_map.1 h
  exact ⟨y, (List.mem_filter.1 hy).1, e⟩
 ·simp at h
theorem list_len (d : Pd) (f : Fs) (pre : Nm) : (d.list f pre).length ≤ d.F.length := by
 unfold Pd.list namesOf
 split
 ·rw [List.length_map]; exact List.length_filter_le _ _
 ·simp
/-- fan's list of a drive. -/
theorem flist_any {W : World} {S : Nat → Prop} {p m : Nat} {fu : Option Nat} {d : Pd} {L : List (Nm × Ent)} {f : Fs} (hd : DrC W S p m fu d L) (hf : FuAt W S fu f) (pre : Nm) (hl : d.F.length < 1000000000000) : Calls Tryz.prog 83 #[ptr p, sv pre] W (NmAt W (d.ans f [], d.list f pre)) := by
 have HL := hid (list_any hd hf pre hl)
 have hcd := ans_cd d f []
 clear hd hf
 generalize d.ans f [] = er at *
 generalize d.list f pre = ns at *
 have HBR := hid (fun W => breaks_any er W (by omega))
 go_enter Tryz.func83, Tryz.ntmps83
 go_wp2_with (first
  | (go_at_call 41; refine HL.out.mono ?_; rintro e w2 ⟨po, c, rfl, ht2, hb2⟩; have HT := hid (ht2.base (Nat.zero_le _)); have HB := hid hb2; clear ht2 hb2)
  | (go_at_call 113; refine (HBR.out _).mono ?_; rintro e w' ⟨rfl, hw'⟩; have hw2 := hw'.symm; subst hw2))
 go_ret2
 exact ⟨po, c, rfl, HT.out, HB.out⟩
theorem clean1_any (W : World) (Bx : Nat) (i q : Nat) (s : Nm) (hs : s.length ≤ 1000) (r : Nat × List Nm) (hx : CAt W Bx #[sv s] 9) (hl : Calls Tryz.prog 83 #[ptr q, sv (tmpN s)] W (NmAt W r)) :
  Calls Tryz.prog 82 #[.int .i64 (i : Int), ptr q, ptr Bx] W (NmAt W r) := by
 have c0 : W.cell? ⟨Bx, 0, none⟩ = some (sv s) := hx.cell 0
 have hcat := tmp_cat s W hs
 have HL := hid hl
 clear hx hl
 go_enter Tryz.func82, Tryz.ntmps82
 go_wp2_with (go_at_call 83; refine HL.out.mono ?_; rintro e w2 ⟨po, c, rfl, ht2, hb2⟩; have HT := hid ht2; have HB := hid hb2; clear ht2 hb2)
 go_ret2
 exact ⟨po, c, rfl, HT.out, HB.out⟩
def clnN (s : Nm) : Nat → Pd → Fs → Nat × List Nm := fun _ d f => (d.ans f [], d.list f (tmpN s))
def clnR (k : Nat) (s : Nm) (X : FS) : Nat × Nat × FS :=
 if ckD k ≠ 0 then (ckD k, 0, X)
 else ((if (delD (clnN s) k 0 0 X).1 then 11 else 0), (if (delD (clnN s) k 0 0 X).1 then 0 else (delD (clnN s) k 0 0 X).2.1), (delD (clnN s) k 0 0 X).2.2)
section
variable {w w1 : World} {T : Nat → Prop} {k : Nat} {p : Nat → Nat} {X0 : FS}
set_option maxHeartbeats 2000000 in
set_option maxRecDepth 100000 in
theorem fclean_any (h : FA w w1 T k p X0.d X0.f 0) {lv : Value} (hl : LsAt w1 T lv k p) (hk : k ≤ 1000) (hE : Erh w) (hB : ∀ i, i < k → Bnd 10000000000 10000000000 (X0.d i)) (s : Nm) (hs : s.length ≤ 1000) :
  Calls Tryz.prog 22 #[lv, sv s] w1 (DCat w w1 T k p (clnR k s X0).1 (clnR k s X0).2.1 (clnR k s X0).2.2) := by
 obtain ⟨lpo, lc, rfl⟩ := hl.form
 have hb2 : Below w1.heap.size w1 (w1.alloc (.cells #[sv s] 9)) := (Below.refl _ _).alloc (Nat.le_refl _) _
 have h2 := h.below hb2
 have hl2 : LsAt (w1.alloc (.cells #[sv s] 9)) T (.slice lpo k lc) k p := hl.keep (fun b hb _ => hb2.block b hb) (fun _ _ h => h)
 have hx2 := CAt.made w1 #[sv s] 9
 have HCD := hid (checkDrives_fa h2 hl2 hk)
 have hmf := run_mf Tryz.prog
 have HST := hid (h.stay hb2)
 by_cases hcd : ckD k = 0
 ·have hk16 : 1 ≤ k ∧ k ≤ 16 := by unfold ckD at hcd; split at hcd <;> omega
  have HDE := hid (deleteEachC h2 hl2 hk16 w1.heap.size (clnN s) hB (fun i f hi => ⟨Nat.le_trans (list_len _ _ _) (hB i hi).1, Nat.le_trans (ans_cd _ _ _) (by omega), fun x hx => by
    obtain ⟨y, hy, rfl⟩ := list_mem hx
    have := ok_len (h.okn hi y hy); unfold maxLen; omega⟩) (fun i d f W hi hctx hbi => clean1_any W w1.heap.size i (p i) s hs _
   (hx2.keep (hctx.kp _ (by simp) (fun ht => by have := h.lt _ ht; omega)))
   (by obtain ⟨T', hf'⟩ := hctx.fa; exact hf'.look hi fun fu S m L hd hf => flist_any hd (by simpa [fAt] using hf) _ (by have := hbi.1; omega))))
  have eR : clnR k s X0 = ((if (delD (clnN s) k 0 0 X0).1 then 11 else 0), (if (delD (clnN s) k 0 0 X0).1 then 0 else (delD (clnN s) k 0 0 X0).2.1), (delD (clnN s) k 0 0 X0).2.2) := by
   unfold clnR; rw [if_neg (by omega)]
  rw [eR]
  clear eR
  have HDF : Hid (∀ R e w', DEat w (w1.alloc (.cells #[sv s] 9)) T k p R e w' → DEat w w1 T k p R e w' ∧ Erh w') := fun R e w' hd => ⟨hd.from hb2, by obtain ⟨_, ⟨T', _, hf⟩, _⟩ := hd; exact hE.below hf.be hE.lt⟩
  generalize delD (clnN s) k 0 0 X0 = R at *
  rw [hcd] at HCD
  clear h hl h2 hl2 hx2 hb2 hE hB HST
  go_enter Tryz.func22, Tryz.ntmps22
  go_wp2_with (first
   | (go_at_call 71; refine HCD.out.mono ?_; rintro e w' ⟨rfl, hw'⟩; have hw2 := hw'.symm; subst hw2)
   | (go_at_call 78; refine HDE.out.mono ?_; intro e w5 hd; obtain rfl := hd.1; have HD5 := hid (HDF.out R _ w5 hd); clear hd)
   | (go_at_call 58; refine (told_any _ _ HD5.out.2).mono ?_; rintro e w6 ⟨rfl, hb6⟩; have HB6 := hid hb6; clear hb6))
  all_goals
   go_ret2
   obtain ⟨⟨_, ⟨T', hg, hf⟩, ho⟩, _⟩ := HD5.out
   exact ⟨by simp [tld], ⟨T', hg, hf.below HB6.out⟩, ho.then (Only.of_below (S := fun _ => False) HB6.out) (fun _ _ h => h.elim)⟩
 ·have eR : clnR k s X0 = (ckD k, 0, X0) := by unfold clnR; rw [if_pos hcd]
  rw [eR]
  have hcd2 : (((ckD k : Nat) : Int) != 0) = true := by simp; omega
  clear h hl h2 hl2 hx2 hb2 hE hB eR
  generalize ckD k = q at *
  go_enter Tryz.func22, Tryz.ntmps22
  go_wp2_with (go_at_call 71; refine HCD.out.mono ?_; rintro e w' ⟨rfl, hw'⟩; have hw2 := hw'.symm; subst hw2)
  go_ret2
  exact ⟨by simp, HST.out.1, HST.out.2⟩
end
end Go.Proofs.YtfogkegmdgbecaaGreatDoor

/- The document's Delete, Finish and Clean. (Written by tools/gen_Yi.py.) -/
namespace Go.Proofs.YtfogkegmdgbecaaGreatDoor
open Go Go.RowKit Go.Shelf

def RDC (w w1 : World) (T : Nat → Prop) (k : Nat) (p : Nat → Nat) (er n : Nat) (X : FS) (e : Ending) (w' : World) : Prop :=
 e = .returned (.tuple #[.int .i64 (n : Int), .int .i64 (er : Int)]) ∧ RStep w w1 T k p X.d X.f 0 w'
def Bg (k i : Nat) (d : Nat → Pd) : Prop := ∀ j, j < k → i ≤ j → Bnd 800000 800000000 (d j)
theorem Bg.set {k i : Nat} {d : Nat → Pd} (h : Bg k i d) (x : Pd) : Bg k (i + 1) (upd d i x) := fun j hj hi => by rw [upd_ne _ _ (by omega)]; exact h j hj (by omega)
theorem delN_brk {ns : List Nm} {m i n : Nat} {X : FS} (h2 : (delL ns (X.d i) X.f n).1 = true) : delD (fun _ _ _ => (0, ns)) (m + 1) i n X = (true, (delL ns (X.d i) X.f n).2.1, ⟨upd X.d i (delL ns (X.d i) X.f n).2.2.1, (delL ns (X.d i) X.f n).2.2.2⟩) := by
 rw [delD, if_neg (by simp)]; dsimp only; rw [if_pos h2]
theorem delN_on {ns : List Nm} {m i n : Nat} {X : FS} (h2 : (delL ns (X.d i) X.f n).1 = false) : delD (fun _ _ _ => (0, ns)) (m + 1) i n X = delD (fun _ _ _ => (0, ns)) m (i + 1) (delL ns (X.d i) X.f n).2.1 ⟨upd X.d i (delL ns (X.d i) X.f n).2.2.1, (delL ns (X.d i) X.f n).2.2.2⟩ := by
 rw [delD, if_neg (by simp)]; dsimp only; rw [if_neg (by simp [h2])]
/-- While drives are gone through. -/
structure RDo (w w1 : World) (T : Nat → Prop) (k : Nat) (p : Nat → Nat) (nm : Nat → Pd → Fs → Nat × List Nm) (R : Bool × Nat × FS) (i n : Nat) (W : World) : Prop where
 ex : ∃ Y, R = delD nm (k - i) i n Y ∧ RI w w1 T k p Y.d Y.f W ∧ Bg k i Y.d
/-- While names are deleted of drive i. -/
structure RDi (w w1 : World) (T : Nat → Prop) (k : Nat) (p : Nat → Nat) (d : Nat → Pd) (i : Nat) (L : List Nm) (R : Bool × Nat × Pd × Fs) (j n : Nat) (W : World) : Prop where
 ex : ∃ dj fj, R = delL (L.drop j) dj fj n ∧ RI w w1 T k p (upd d i dj) fj W ∧ Bnd 800000 (800000000 + j) dj
/-- Texts that no call of a drive turns. -/
theorem RI.tx {w w1 W : World} {T : Nat → Prop} {k : Nat} {p : Nat → Nat} {d : Nat → Pd} {f : Fs} (h : RI w w1 T k p d f W) {po : Option Addr} {ns : List Nm} (hv : TxO w1 po ns) (hT : ∀ a, po = some a → ns ≠ [] → ¬ T a.block) : TxO W po ns := by
 rcases hv with h0 | ⟨b, o, rfl, h2⟩
 ·exact .inl h0
 ·refine .inr ⟨b, o, rfl, fun i hi => (World.cell?_of_block (a := ⟨b, o + i, none⟩) (h.on.block b (cell_lt2 (h2 i hi)) (hT _ rfl (by intro e; rw [e] at hi; exact absurd hi (Nat.not_lt_zero _))))).trans (h2 i hi)⟩
theorem RI.ls {w w1 W : World} {T : Nat → Prop} {k : Nat} {p : Nat → Nat} {d : Nat → Pd} {f : Fs} (h : RI w w1 T k p d f W) {lv : Value} (hl : LsAt w1 T lv k p) : LsAt W T lv k p := hl.keep (fun b hb hn => h.on.block b hb hn) (fun _ _ h => h)
section
variable {w w1 : World} {T : Nat → Prop} {k : Nat} {p : Nat → Nat} {X0 : FS}
set_option maxHeartbeats 4000000 in
set_option maxRecDepth 100000 in
theorem rfdelete_any (h : RA w w1 T k p X0.d X0.f 0) {lv : Value} (hl : LsAt w1 T lv k p) (hk : k ≤ 1000) (hB : ∀ i, i < k → Bnd 800000 800000000 (X0.d i)) (po : Option Addr) (c : Nat) (ns : List Nm) (hv : TxO w1 po ns) (hT : ∀ a, po = some a → ns ≠ [] → ¬ T a.block) (hls : ∀ x ∈ ns, x.length ≤ maxLen) (hn : ns.length ≤ 1000000) :
  Calls Tryz.prog 21 #[lv, .slice po ns.length c] w1 (RDC w w1 T k p (delR k ns X0).1 (delR k ns X0).2.1 (delR k ns X0).2.2) := by
 obtain ⟨lpo, lc, hlv⟩ := hl.form
 subst hlv
 have HD := hid (fun W => rdrives_any lpo k lc hk W)
 have HNS := hid (rnames_any po c ns w1 hv hls hn)
 unfold delR
 by_cases hck : ckD k = 0
 ·rw [if_neg (by omega)]
  rw [decide_eq_true hck] at HD
  have hk16 : 1 ≤ k ∧ k ≤ 16 := by unfold ckD at hck; split at hck <;> simp_all
  by_cases hcn : ckN ns = 0
  ·rw [if_neg (by omega)]
   rw [hcn] at HNS
   have hn128 : ns.length ≤ 128 := by unfold ckN at hcn; split at hcn; cases hcn; omega
   obtain ⟨R, hR⟩ : ∃ R, delD (fun _ _ _ => (0, ns)) k 0 0 X0 = R := ⟨_, rfl⟩
   rw [hR]
   have HFB : Hid (∀ W d f n, RI w w1 T k p d f W → R = (true, n, ⟨d, f⟩) → RDC w w1 T k p (if R.1 then 11 else 0) (if R.1 then 0 else R.2.1) R.2.2 (.returned (.tuple #[.int .i64 0, .int .i64 11])) W) := hid (fun W d f n h e => by rw [e]; exact ⟨rfl, h.done⟩)
   have HFO : Hid (∀ W d f n, RI w w1 T k p d f W → R = (false, n, ⟨d, f⟩) → RDC w w1 T k p (if R.1 then 11 else 0) (if R.1 then 0 else R.2.1) R.2.2 (.returned (.tuple #[.int .i64 (n : Int), .int .i64 0])) W) := hid (fun W d f n h e => by rw [e]; exact ⟨rfl, h.done⟩)
   have H0 : Hid (RDo w w1 T k p (fun _ _ _ => (0, ns)) R 0 0 w1) := hid ⟨X0, hR.symm, RI.start h, fun j hj _ => hB j hj⟩
   generalize RDC w w1 T k p (if R.1 then 11 else 0) (if R.1 then 0 else R.2.1) R.2.2 = PP at *
   obtain ⟨bl, hbl, hnl, hlc⟩ : ∃ bl, lpo = some ⟨bl, 0, none⟩ ∧ ¬ T bl ∧ ∀ j, j < k → w1.cell? ⟨bl, j, none⟩ = some (ptr (p j)) := by
    rcases hl.ex with ⟨h0, _⟩ | ⟨h0, b, c, h1, h2, h3⟩
    ·omega
    ·cases h1; exact ⟨b, rfl, h2, h3⟩
   subst hbl
   have HLS : Hid (∀ W d f, RI w w1 T k p d f W → ∀ i, i < k → W.cell? ⟨bl, i, none⟩ = some (ptr (p i))) := hid (fun W d f hx i hi => (World.cell?_of_block (a := ⟨bl, i, none⟩) (hx.on.block bl (cell_lt2 (hlc 0 (by omega))) hnl)).trans (hlc i hi))
   have HTX : Hid (∀ W d f, RI w w1 T k p d f W → TxO W po ns) := hid (fun W d f hx => hx.tx hv hT)
   have HLN : Hid (∀ j, j < ns.length → (ns.getD j []).length ≤ maxLen) := hid (fun j hj => hls _ (by rw [getD_in _ _ _ hj]; exact List.getElem_mem hj))
   have HGE : Hid (∀ j (hj : j < ns.length), ns.drop j = ns.getD j [] :: ns.drop (j + 1)) := hid (fun j hj => by rw [getD_in _ _ _ hj]; exact List.drop_eq_getElem_cons hj)
   clear h hl hB hv hT hls hR hck hcn hnl hlc
   go_enter Tryz.func21, Tryz.ntmps21
   go_wp2_with (first
    | (go_at_call 75; refine (HD.out _).mono ?_; rintro e w5 ⟨rfl, hw5⟩; have hw6 := hw5.symm; subst hw6)
    | (go_at_call 80; refine HNS.out.mono ?_; rintro e w5 ⟨rfl, hw5⟩; have hw6 := hw5.symm; subst hw6))
   go_loopg [7, 8] k (fun gg q v wr => ∃ i n : Nat, i ≤ k ∧ k - i ≤ gg ∧ n ≤ 128 * i ∧ q = .int .i64 (n : Int) ∧ v = .int .i64 (i : Int) ∧ RDo w w1 T k p (fun _ _ _ => (0, ns)) R i n wr)
   case atStart => exact ⟨0, 0, Nat.zero_le _, by omega, Nat.le_refl _, rfl, rfl, H0.out⟩
   case round =>
    clear H0
    obtain ⟨i, n, hi, hgg, hni, rfl, rfl, hI⟩ := hrel
    obtain ⟨Y, hRi, hX, hBg⟩ := hI.ex
    clear hI
    by_cases hlt : i < k
    ·have hlt' : (i : Int) < (k : Int) := by omega
     have hi2 : (i : Int) < 1000 := by omega
     rw [show k - i = (k - (i + 1)) + 1 by omega] at hRi
     have HA := hid (fun e => hRi.trans (delN_brk e))
     have HO := hid (fun e => hRi.trans (delN_on e))
     have HBG := hid (fun x => hBg.set x)
     obtain ⟨E, hE⟩ : ∃ E, delL ns (Y.d i) Y.f n = E := ⟨_, rfl⟩
     have HI0 : Hid (RDi w w1 T k p Y.d i ns E 0 n wr) := hid ⟨Y.d i, Y.f, by rw [← hE]; rfl, by rw [upd_id]; exact hX, hBg i hlt (Nat.le_refl _)⟩
     rw [hE] at HA HO
     clear hE hRi hX hBg
     obtain ⟨b1, m1, d1, f1⟩ := E
     dsimp only at HA HO
     go_wp2
     go_loopg [7, 9] ns.length (fun gg q v wq => ∃ j m : Nat, j ≤ ns.length ∧ ns.length - j ≤ gg ∧ m ≤ n + j ∧ q = .int .i64 (m : Int) ∧ v = .int .i64 (j : Int) ∧ RDi w w1 T k p Y.d i ns (b1, m1, d1, f1) j m wq)
     case atStart => exact ⟨0, n, Nat.zero_le _, by omega, Nat.le_refl _, rfl, rfl, HI0.out⟩
     case round =>
      clear HI0
      obtain ⟨j, m, hj, hgj, hm, rfl, rfl, hI⟩ := hrel
      obtain ⟨dj, fj, hRj, hX, hBj⟩ := hI.ex
      clear hI
      by_cases hjt : j < ns.length
      ·have hjt' : (j : Int) < (ns.length : Int) := by omega
       have hj2 : (j : Int) < 1000 := by omega
       have hm2 : (m : Int) < 1000000 := by omega
       have z0 := HLS.out wr _ _ hX i hlt
       obtain ⟨br, or_, hp, z1⟩ := (HTX.out wr _ _ hX).cell hjt
       subst hp
       rw [HGE.out j hjt] at hRj
       have HDE : Hid (∀ W', Below wr.heap.size wr W' → Calls Tryz.prog 81 #[ptr (p i), sv (ns.getD j [])] W' fun e W2 => e = .returned (.int .i64 ((dj.delete fj (ns.getD j [])).1 : Int)) ∧ RI w w1 T k p (upd Y.d i (dj.delete fj (ns.getD j [])).2.1) (dj.delete fj (ns.getD j [])).2.2 W2) := hid (fun W' hb => by
        have hc := (hX.below hb).delete hlt (by rw [upd_same]; exact hBj.mono (by omega) (by omega)) (ns.getD j []) (HLN.out j hjt)
        rw [upd_same, upd_upd] at hc
        exact hc)
       have HSC : Hid (∀ W d f, RI w w1 T k p d f W → W.cell? ⟨bl, i, none⟩ = some (ptr (p i)) ∧ W.cell? ⟨br, or_ + j, none⟩ = some (sv (ns.getD j []))) := hid (fun W d f hx => ⟨HLS.out W _ _ hx i hlt, by
        obtain ⟨b', o', e', h'⟩ := (HTX.out W _ _ hx).cell hjt
        cases e'; exact h'⟩)
       have HCC : Hid (∀ W', Below wr.heap.size wr W' → W'.cell? ⟨bl, i, none⟩ = some (ptr (p i)) ∧ W'.cell? ⟨br, or_ + j, none⟩ = some (sv (ns.getD j []))) := hid (fun W' hb => HSC.out _ _ _ (hX.below hb))
       have HGA := hid (fun hh => hRj.trans (delL_go (r := ns.drop (j + 1)) (s := ns.getD j []) (d := dj) (f := fj) (n := m) hh))
       have HGS := hid (fun hh => hRj.trans (delL_stop (r := ns.drop (j + 1)) (s := ns.getD j []) (d := dj) (f := fj) (n := m) hh))
       have HB1 := hid (bnd_delete hBj fj (ns.getD j []))
       clear hRj hX hBj
       generalize ns.getD j [] = s at *
       generalize dj.delete fj s = ew at *
       obtain ⟨e1, d2, f2⟩ := ew
       dsimp only at *
       go_wp2_with fail
       go_region_held3 (fun w' => w'.cell? ⟨bl, i, none⟩ = some (ptr (p i)) ∧ w'.cell? ⟨br, or_ + j, none⟩ = some (sv s)) (first | exact hc6 | exact HCC.out _ (Below.refl _ _) | exact HCC.out _ (below_drewN _ _)) (first | (go_at_call 81; (first | refine (HDE.out _ (below_drewN _ _)).mono ?_ | refine (HDE.out _ (Below.refl _ _)).mono ?_); rintro e w6 ⟨rfl, hx6⟩; have HX6 := hid hx6; have hc6 := HSC.out _ _ _ hx6; clear hx6))
       clear hc6 z0 z1 HDE HSC HCC
       by_cases q1 : e1 = 11
       ·subst q1
        have HE := hid (HGS.out rfl)
        clear HGA HGS
        go_wp2
        have e := HE.out
        cases e
        exact HFB.out _ _ _ _ HX6.out (HA.out rfl)
       ·have q1' : ((e1 : Int) == 11) = false := beq_eq_false_iff_ne.2 (by omega)
        have HE := hid (HGA.out q1)
        clear HGA HGS
        by_cases q0 : e1 = 0
        ·subst q0
         go_wp2
         go_roundg (ns.length - (j + 1))
         case measure => omega
         case rel => exact ⟨j + 1, m + 1, by omega, by omega, by omega, by go_num, by go_num, ⟨d2, f2, HE.out, HX6.out, HB1.out.mono (by omega) (by omega)⟩⟩
        ·have q0' : ((e1 : Int) == 0) = false := beq_eq_false_iff_ne.2 (by omega)
         have he := HE.out
         rw [if_neg q0] at he
         have HE2 := hid he
         clear he HE
         go_wp2
         go_roundg (ns.length - (j + 1))
         case measure => omega
         case rel => exact ⟨j + 1, m, by omega, by omega, by omega, by go_num, by go_num, ⟨d2, f2, HE2.out, HX6.out, HB1.out.mono (by omega) (by omega)⟩⟩
      ·have hjt' : ¬ (j : Int) < (ns.length : Int) := by omega
       have he : (b1, m1, d1, f1) = (false, m, dj, fj) := by rw [hRj, List.drop_of_length_le (by omega)]; rfl
       cases he
       have HXX := hid hX
       have HE := hid (HO.out rfl)
       clear HA HO hRj hX hBj
       go_wp2
       go_roundg (k - (i + 1))
       case measure => omega
       case rel => exact ⟨i + 1, _, by omega, by omega, by omega, by go_num, by go_num, ⟨⟨upd Y.d i _, _⟩, HE.out, HXX.out, HBG.out _⟩⟩
    ·have hlt' : ¬ (i : Int) < (k : Int) := by omega
     have hik : i = k := by omega
     have hE : R = (false, n, Y) := by rw [hRi, hik, Nat.sub_self]; rfl
     have HE := hid (HFO.out wr _ _ n hX hE)
     clear hRi hX hBg hE
     go_wp2
     exact HE.out
  ·rw [if_pos hcn]
   have HH := hid h
   clear h hl hB hv hT hls
   have hc13 := ckN_le ns
   generalize ckN ns = er at *
   have he' : ((er : Int) == 0) = false := beq_eq_false_iff_ne.2 (by omega)
   go_enter Tryz.func21, Tryz.ntmps21
   go_wp2_with (first
    | (go_at_call 75; refine (HD.out _).mono ?_; rintro e w5 ⟨rfl, hw5⟩; have hw6 := hw5.symm; subst hw6)
    | (go_at_call 80; refine HNS.out.mono ?_; rintro e w5 ⟨rfl, hw5⟩; have hw6 := hw5.symm; subst hw6))
   go_ret2
   exact ⟨rfl, (RI.start HH.out).done⟩
 ·rw [if_pos hck, show ckD k = 2 from by unfold ckD at hck ⊢; split at hck; exact absurd rfl hck; rw [if_neg ‹_›]]
  rw [decide_eq_false hck] at HD
  have HH := hid h
  clear h hl hB hv hT hls
  go_enter Tryz.func21, Tryz.ntmps21
  go_wp2_with (go_at_call 75; refine (HD.out _).mono ?_; rintro e w5 ⟨rfl, hw5⟩; have hw6 := hw5.symm; subst hw6)
  go_ret2
  exact ⟨rfl, (RI.start HH.out).done⟩
end
end Go.Proofs.YtfogkegmdgbecaaGreatDoor

/- The document's Finish and Clean. (Written by tools/gen_Yj.py.) -/
namespace Go.Proofs.YtfogkegmdgbecaaGreatDoor
open Go Go.RowKit Go.Shelf

structure RFi (w w1 : World) (T : Nat → Prop) (k : Nat) (p : Nat → Nat) (d : Nat → Pd) (i : Nat) (L : List Nm) (R : Nat × Pd × Fs) (j : Nat) (W : World) : Prop where
 ex : ∃ dj fj, R = finL (L.drop j) dj fj ∧ RI w w1 T k p (upd d i dj) fj W ∧ Bnd (800000 + j) (800000000 + j) dj
section
variable {w w1 : World} {T : Nat → Prop} {k : Nat} {p : Nat → Nat} {X0 : FS}
set_option maxHeartbeats 4000000 in
set_option maxRecDepth 100000 in
theorem rffinish_any (h : RA w w1 T k p X0.d X0.f 0) {i : Nat} (hi : i < k) (hB : Bnd 800000 800000000 (X0.d i)) (po : Option Addr) (c : Nat) (ns : List Nm) (hv : TxO w1 po ns) (hT : ∀ a, po = some a → ns ≠ [] → ¬ T a.block) (hls : ∀ x ∈ ns, x.length ≤ maxLen) (hn : ns.length ≤ 1000000) :
  Calls Tryz.prog 33 #[ptr (p i), .slice po ns.length c] w1 fun e w' => e = .returned (.int .i64 ((finR ns (X0.d i) X0.f).1 : Int)) ∧ RStep w w1 T k p (upd X0.d i (finR ns (X0.d i) X0.f).2.1) (finR ns (X0.d i) X0.f).2.2 0 w' := by
 have HNS := hid (rnames_any po c ns w1 hv hls hn)
 unfold finR
 by_cases hcn : ckN ns = 0
 ·rw [if_neg (by omega)]
  rw [hcn] at HNS
  have hn128 : ns.length ≤ 128 := by unfold ckN at hcn; split at hcn; cases hcn; omega
  have hok : ns.all okNm = true := by
   unfold ckN at hcn; split at hcn
   ·cases hcn
   ·split at hcn
    ·assumption
    ·cases hcn
  obtain ⟨R, hR⟩ : ∃ R, finL ns (X0.d i) X0.f = R := ⟨_, rfl⟩
  rw [hR]
  have HFI : Hid (∀ dj fj W er, RI w w1 T k p (upd X0.d i dj) fj W → R = (er, dj, fj) → (Ending.returned (.int .i64 (er : Int)) = .returned (.int .i64 (R.1 : Int)) ∧ RStep w w1 T k p (upd X0.d i R.2.1) R.2.2 0 W)) := hid (fun dj fj W er h e => by rw [e]; exact ⟨rfl, h.done⟩)
  have H0 : Hid (RFi w w1 T k p X0.d i ns R 0 w1) := hid ⟨X0.d i, X0.f, hR.symm, by rw [upd_id]; exact RI.start h, hB⟩
  have HTX : Hid (∀ W d f, RI w w1 T k p d f W → TxO W po ns) := hid (fun W d f hx => hx.tx hv hT)
  have HLN : Hid (∀ j, j < ns.length → (ns.getD j []).length ≤ 512) := hid (fun j hj => ok_len (List.all_eq_true.1 hok _ (by rw [getD_in _ _ _ hj]; exact List.getElem_mem hj)))
  have HGE : Hid (∀ j (hj : j < ns.length), ns.drop j = ns.getD j [] :: ns.drop (j + 1)) := hid (fun j hj => by rw [getD_in _ _ _ hj]; exact List.drop_eq_getElem_cons hj)
  clear h hB hv hT hls hR hcn hok
  go_enter Tryz.func33, Tryz.ntmps33
  go_wp2_with (go_at_call 80; refine HNS.out.mono ?_; rintro e w5 ⟨rfl, hw5⟩; have hw6 := hw5.symm; subst hw6)
  go_loopw [6] (fun v wr => ∃ j : Nat, j ≤ ns.length ∧ v = .int .i64 (j : Int) ∧ RFi w w1 T k p X0.d i ns R j wr) (fun v _ => (1000 - intOf v).toNat)
  case atStart => exact ⟨0, Nat.zero_le _, rfl, H0.out⟩
  case round =>
   clear H0
   obtain ⟨j, hj, rfl, hI⟩ := hrel
   obtain ⟨dj, fj, hRj, hX, hBj⟩ := hI.ex
   clear hI
   by_cases hjt : j < ns.length
   ·have hjt' : (j : Int) < (ns.length : Int) := by omega
    have hj2 : (j : Int) < 1000 := by omega
    obtain ⟨br, or_, hp, z1⟩ := (HTX.out wr _ _ hX).cell hjt
    subst hp
    rw [HGE.out j hjt] at hRj
    have hl5 := HLN.out j hjt
    have HRE : Hid (∀ W', Below wr.heap.size wr W' → Calls Tryz.prog 94 #[ptr (p i), sv (tmpN (ns.getD j [])), sv (ns.getD j [])] W' fun e W2 => e = .returned (.int .i64 ((dj.rename fj (tmpN (ns.getD j [])) (ns.getD j [])).1 : Int)) ∧ RI w w1 T k p (upd X0.d i (dj.rename fj (tmpN (ns.getD j [])) (ns.getD j [])).2.1) (dj.rename fj (tmpN (ns.getD j [])) (ns.getD j [])).2.2 W2) := hid (fun W' hb => by
     have hc := (hX.below hb).rename hi (by rw [upd_same]; exact hBj.mono (by omega) (by omega)) (tmpN (ns.getD j [])) (ns.getD j []) (tmp_len _ (by omega)) (by unfold maxLen; omega)
     rw [upd_same, upd_upd] at hc
     exact hc)
    have HSC : Hid (∀ W d f, RI w w1 T k p d f W → W.cell? ⟨br, or_ + j, none⟩ = some (sv (ns.getD j []))) := hid (fun W d f hx => by
     obtain ⟨b', o', e', h'⟩ := (HTX.out W _ _ hx).cell hjt
     cases e'; exact h')
    have HCC : Hid (∀ W', Below wr.heap.size wr W' → W'.cell? ⟨br, or_ + j, none⟩ = some (sv (ns.getD j []))) := hid (fun W' hb => HSC.out _ _ _ (hX.below hb))
    have HSD := hid (fun W => rstaged_any (ns.getD j []) W (by omega))
    have HGA := hid (fun hh => hRj.trans (finL_go (r := ns.drop (j + 1)) (s := ns.getD j []) (d := dj) (f := fj) hh))
    have HGS := hid (fun hh => hRj.trans (finL_stop (r := ns.drop (j + 1)) (s := ns.getD j []) (d := dj) (f := fj) hh))
    have HB1 := hid (bnd_rename hBj fj (tmpN (ns.getD j [])) (ns.getD j []))
    clear hRj hX hBj hl5
    generalize ns.getD j [] = s at *
    generalize dj.rename fj (tmpN s) s = ew at *
    obtain ⟨e1, d2, f2⟩ := ew
    dsimp only at *
    go_wp2_with fail
    go_region_held3 (fun w' => w'.cell? ⟨br, or_ + j, none⟩ = some (sv s)) (first | exact hc6 | exact HCC.out _ (Below.refl _ _) | exact HCC.out _ (below_drewN _ _)) (first
     | (go_at_call 84; refine (HSD.out _).mono ?_; rintro e w' ⟨rfl, hw'⟩; have hw2 := hw'.symm; subst hw2)
     | (go_at_call 94; (first | refine (HRE.out _ (below_drewN _ _)).mono ?_ | refine (HRE.out _ (Below.refl _ _)).mono ?_); rintro e w6 ⟨rfl, hx6⟩; have HX6 := hid hx6; have hc6 := HSC.out _ _ _ hx6; clear hx6))
    clear hc6 z1 HRE HSC HCC
    by_cases q0 : e1 = 0
    ·subst q0
     have HE := hid (HGA.out (.inl rfl))
     clear HGA HGS
     go_wp2
     go_roundw
     case rel => exact ⟨j + 1, by omega, by go_num, ⟨d2, f2, HE.out, HX6.out, HB1.out.mono (by omega) (by omega)⟩⟩
     case measure => simp only [intOf]; omega
    ·have q0' : ((e1 : Int) == 0) = false := beq_eq_false_iff_ne.2 (by omega)
     by_cases q6 : e1 = 6
     ·subst q6
      have HE := hid (HGA.out (.inr rfl))
      clear HGA HGS
      go_wp2
      go_roundw
      case rel => exact ⟨j + 1, by omega, by go_num, ⟨d2, f2, HE.out, HX6.out, HB1.out.mono (by omega) (by omega)⟩⟩
      case measure => simp only [intOf]; omega
     ·have q6' : ((e1 : Int) == 6) = false := beq_eq_false_iff_ne.2 (by omega)
      have q6n : ((e1 : Int) != 6) = true := by simp only [bne, q6', Bool.not_false]
      have q0n : ((e1 : Int) != 0) = true := by simp only [bne, q0', Bool.not_false]
      have q6i : ¬ (e1 : Int) = 6 := by omega
      have q0i : ¬ (e1 : Int) = 0 := by omega
      have HE := hid (HGS.out (fun h => h.elim q0 q6))
      clear HGA HGS
      go_wp2
      go_ret
      exact HFI.out _ _ _ _ HX6.out HE.out
   ·have hjt' : ¬ (j : Int) < (ns.length : Int) := by omega
    have HE := hid (HFI.out dj fj wr 0 hX (by rw [hRj, List.drop_of_length_le (by omega)]; rfl))
    clear hRj hX hBj
    go_wp2
    go_ret
    exact HE.out
 ·rw [if_pos hcn]
  have HH := hid h
  clear h hB hv hT hls
  have hc13 := ckN_le ns
  generalize ckN ns = er at *
  have he' : ((er : Int) == 0) = false := beq_eq_false_iff_ne.2 (by omega)
  go_enter Tryz.func33, Tryz.ntmps33
  go_wp2_with (go_at_call 80; refine HNS.out.mono ?_; rintro e w5 ⟨rfl, hw5⟩; have hw6 := hw5.symm; subst hw6)
  go_ret
  refine ⟨rfl, ?_⟩
  rw [upd_id]
  exact (RI.start HH.out).done
end
end Go.Proofs.YtfogkegmdgbecaaGreatDoor
