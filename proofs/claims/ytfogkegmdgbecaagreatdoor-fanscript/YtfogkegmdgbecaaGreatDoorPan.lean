/- Texts laid into one, cut to what is needed: the remark ahead of each part says what is proved there. -/
import Derived.Test.YtfogkegmdgbecaaGreatDoorPam
/- What fan makes of drives, as mathematics: files staged and finished, deleted, committed. -/
namespace Go.Proofs.YtfogkegmdgbecaaGreatDoor
open Go

def tmpN (s : Nm) : Nm := [116, 109, 112, 47] ++ s
/-- A file: its name and its bytes. -/
abbrev Fl := Nm × List Nat
structure FS where
 d : Nat → Pd
 f : Fs
abbrev Op3 := Pd → Fs → Fl → Nat × Pd × Fs
def stg : Op3 := fun d f x => if (d.write f (tmpN x.1) x.2).1 = 0 then (d.write f (tmpN x.1) x.2).2.1.sync (d.write f (tmpN x.1) x.2).2.2 (tmpN x.1) else d.write f (tmpN x.1) x.2
def fin : Op3 := fun d f x => d.rename f (tmpN x.1) x.1
/-- The same for files, up to the first that answers an error. -/
def forL (op : Op3) : List Fl → Pd → Fs → Nat × Pd × Fs
 | [], d, f => (0, d, f)
 | x :: r, d, f => if (op d f x).1 = 0 then forL op r (op d f x).2.1 (op d f x).2.2 else op d f x
/-- .. for n drives from i on, of those that are well; whether one broke the call, which are well, and the drives. -/
def forD (op : Op3) (fl : Nat → List Fl) : (n i : Nat) → (Nat → Bool) → FS → Bool × (Nat → Bool) × FS
 | 0, _, wl, X => (false, wl, X)
 | n + 1, i, wl, X =>
  if wl i then
   (if (forL op (fl i) (X.d i) X.f).1 = 11 then (true, wl, ⟨upd X.d i (forL op (fl i) (X.d i) X.f).2.1, (forL op (fl i) (X.d i) X.f).2.2⟩)
    else forD op fl n (i + 1) (if (forL op (fl i) (X.d i) X.f).1 = 0 then wl else upd wl i false) ⟨upd X.d i (forL op (fl i) (X.d i) X.f).2.1, (forL op (fl i) (X.d i) X.f).2.2⟩)
  else forD op fl n (i + 1) wl X
/-- Files are deleted of a drive: whether it broke the call, how many went so far. -/
def delL : List Nm → Pd → Fs → Nat → Bool × Nat × Pd × Fs
 | [], d, f, n => (false, n, d, f)
 | s :: r, d, f, n => if (d.delete f s).1 = 11 then (true, n, (d.delete f s).2.1, (d.delete f s).2.2) else delL r (d.delete f s).2.1 (d.delete f s).2.2 (if (d.delete f s).1 = 0 then n + 1 else n)
/-- .. of n drives from i on, those that nm names for it (its error with them). -/
def delD (nm : Nat → Pd → Fs → Nat × List Nm) : (m i : Nat) → Nat → FS → Bool × Nat × FS
 | 0, _, n, X => (false, n, X)
 | m + 1, i, n, X =>
  if (nm i (X.d i) X.f).1 = 11 then (true, n, X)
  else if (delL (nm i (X.d i) X.f).2 (X.d i) X.f n).1 then (true, (delL (nm i (X.d i) X.f).2 (X.d i) X.f n).2.1, ⟨upd X.d i (delL (nm i (X.d i) X.f).2 (X.d i) X.f n).2.2.1, (delL (nm i (X.d i) X.f).2 (X.d i) X.f n).2.2.2⟩)
  else delD nm m (i + 1) (delL (nm i (X.d i) X.f).2 (X.d i) X.f n).2.1 ⟨upd X.d i (delL (nm i (X.d i) X.f).2 (X.d i) X.f n).2.2.1, (delL (nm i (X.d i) X.f).2 (X.d i) X.f n).2.2.2⟩
/-- The staged files of those that are meant. -/
def unsN (fl : Nat → List Fl) (meant : Nat → Bool) : Nat → Pd → Fs → Nat × List Nm := fun i _ _ => (0, if meant i then (fl i).map fun x => tmpN x.1 else [])
def cntW (wl : Nat → Bool) : Nat → Nat
 | 0 => 0
 | n + 1 => cntW wl n + (if wl n then 1 else 0)
/-- Commit, once nothing stands against it. -/
def com (fl : Nat → List Fl) (k : Nat) (need : Int) (X : FS) : Nat × (Nat → Bool) × FS :=
 if (forD stg fl k 0 (fun _ => true) X).1 then (11, fun _ => false, (forD stg fl k 0 (fun _ => true) X).2.2)
 else if (cntW (forD stg fl k 0 (fun _ => true) X).2.1 k : Int) < need then
  ((if (delD (unsN fl fun _ => true) k 0 0 (forD stg fl k 0 (fun _ => true) X).2.2).1 then 11 else 10), fun _ => false, (delD (unsN fl fun _ => true) k 0 0 (forD stg fl k 0 (fun _ => true) X).2.2).2.2)
 else if (forD fin fl k 0 (forD stg fl k 0 (fun _ => true) X).2.1 (forD stg fl k 0 (fun _ => true) X).2.2).1 then (11, fun _ => false, (forD fin fl k 0 (forD stg fl k 0 (fun _ => true) X).2.1 (forD stg fl k 0 (fun _ => true) X).2.2).2.2)
 else ((if (delD (unsN fl fun i => !(forD fin fl k 0 (forD stg fl k 0 (fun _ => true) X).2.1 (forD stg fl k 0 (fun _ => true) X).2.2).2.1 i) k 0 0 (forD fin fl k 0 (forD stg fl k 0 (fun _ => true) X).2.1 (forD stg fl k 0 (fun _ => true) X).2.2).2.2).1 then 11 else 0),
  (forD fin fl k 0 (forD stg fl k 0 (fun _ => true) X).2.1 (forD stg fl k 0 (fun _ => true) X).2.2).2.1,
  (delD (unsN fl fun i => !(forD fin fl k 0 (forD stg fl k 0 (fun _ => true) X).2.1 (forD stg fl k 0 (fun _ => true) X).2.2).2.1 i) k 0 0 (forD fin fl k 0 (forD stg fl k 0 (fun _ => true) X).2.1 (forD stg fl k 0 (fun _ => true) X).2.2).2.2).2.2)
/-- Why files may not be committed. -/
def okFl : List Nm → List Fl → Bool
 | _, [] => true
 | seen, x :: r => (okNm x.1 && (!([116, 109, 112, 47] : Nm).isPrefixOf x.1 && okNm (tmpN x.1))) && (!seen.contains x.1 && okFl (seen ++ [x.1]) r)
def comE (k : Nat) (fl : List (List Fl)) (need : Int) : Nat :=
 if ckD k ≠ 0 then ckD k else if fl.length ≠ k ∨ need < 1 ∨ (k : Int) < need then 2 else if fl.any fun l => decide (8 < l.length) then 3 else if fl.all fun l => okFl [] l then 0 else 13

/-- No more files than a, no more changes than b. -/
def Bnd (a b : Nat) (d : Pd) : Prop := d.F.length ≤ a ∧ d.ops ≤ b
theorem Bnd.mono {a b a' b' : Nat} {d : Pd} (h : Bnd a b d) (ha : a ≤ a') (hb : b ≤ b') : Bnd a' b' d := ⟨Nat.le_trans h.1 ha, Nat.le_trans h.2 hb⟩
theorem bnd_chg {a b : Nat} {d : Pd} (h : Bnd a b d) (f : Fs) {F : List (Nm × Fi)} (hF : F.length ≤ d.F.length + 1) : Bnd (a + 1) (b + 1) (d.chg f F).2.1 := by
 have := h.1; have := h.2
 unfold Pd.chg; split
 ·exact ⟨by show F.length ≤ a + 1; omega, by show d.ops + 1 ≤ b + 1; omega⟩
 ·exact h.mono (by omega) (by omega)
theorem bnd_chg0 {a b : Nat} {d : Pd} (h : Bnd a b d) (f : Fs) {F : List (Nm × Fi)} (hF : F.length ≤ d.F.length) : Bnd a (b + 1) (d.chg f F).2.1 := by
 have := h.1; have := h.2
 unfold Pd.chg; split
 ·exact ⟨by show F.length ≤ a; omega, by show d.ops + 1 ≤ b + 1; omega⟩
 ·exact h.mono (by omega) (by omega)
theorem bnd_write {a b : Nat} {d : Pd} (h : Bnd a b d) (f : Fs) (s : Nm) (x : List Nat) : Bnd (a + 1) (b + 1) (d.write f s x).2.1 := by
 unfold Pd.write; split
 ·exact h.mono (by omega) (by omega)
 ·split
  ·exact h.mono (by omega) (by omega)
  ·exact bnd_chg h f (put_len _ _ _)
theorem bnd_sync {a b : Nat} {d : Pd} (h : Bnd a b d) (f : Fs) (s : Nm) : Bnd (a + 1) (b + 1) (d.sync f s).2.1 := by
 unfold Pd.sync; split
 ·exact h.mono (by omega) (by omega)
 ·split
  ·exact h.mono (by omega) (by omega)
  ·exact bnd_chg h f (put_len _ _ _)
theorem bnd_rename {a b : Nat} {d : Pd} (h : Bnd a b d) (f : Fs) (s t : Nm) : Bnd (a + 1) (b + 1) (d.rename f s t).2.1 := by
 unfold Pd.rename; split
 ·exact h.mono (by omega) (by omega)
 ·split
  ·exact h.mono (by omega) (by omega)
  ·exact bnd_chg h f (by have := put_len (gdel d.F s) t ‹_›; have := len_del d.F s; omega)
theorem bnd_delete {a b : Nat} {d : Pd} (h : Bnd a b d) (f : Fs) (s : Nm) : Bnd a (b + 1) (d.delete f s).2.1 := by
 unfold Pd.delete; split
 ·exact h.mono (by omega) (by omega)
 ·split
  ·exact h.mono (by omega) (by omega)
  ·exact bnd_chg0 h f (len_del _ _)
theorem bnd_stg {a b : Nat} {d : Pd} (h : Bnd a b d) (f : Fs) (x : Fl) : Bnd (a + 2) (b + 2) (stg d f x).2.1 := by
 unfold stg; split
 ·exact bnd_sync (bnd_write h f _ _) _ _
 ·exact (bnd_write h f _ _).mono (by omega) (by omega)
theorem bnd_fin {a b : Nat} {d : Pd} (h : Bnd a b d) (f : Fs) (x : Fl) : Bnd (a + 2) (b + 2) (fin d f x).2.1 := (bnd_rename h f _ _).mono (by omega) (by omega)
theorem stg_sm (d : Pd) (f : Fs) (x : Fl) : (stg d f x).2.2.isSome = f.isSome := by
 unfold stg; split
 ·rw [sync_sm, write_sm]
 ·exact write_sm _ _ _ _
theorem fin_sm (d : Pd) (f : Fs) (x : Fl) : (fin d f x).2.2.isSome = f.isSome := rename_sm _ _ _ _
/-- An answer is a small number. -/
theorem chg_cd (d : Pd) (f : Fs) (F : List (Nm × Fi)) : (d.chg f F).1 ≤ 13 := by unfold Pd.chg; split <;> simp
theorem ans_cd (d : Pd) (f : Fs) (ns : List Nm) : d.ans f ns ≤ 13 := by unfold Pd.ans; split <;> (try split) <;> (try split) <;> simp
theorem write_cd (d : Pd) (f : Fs) (s : Nm) (x : List Nat) : (d.write f s x).1 ≤ 13 := by
 unfold Pd.write; split
 ·exact ans_cd _ _ _
 ·split
  ·simp
  ·exact chg_cd _ _ _
theorem sync_cd (d : Pd) (f : Fs) (s : Nm) : (d.sync f s).1 ≤ 13 := by
 unfold Pd.sync; split
 ·exact ans_cd _ _ _
 ·split
  ·simp
  ·exact chg_cd _ _ _
theorem rename_cd (d : Pd) (f : Fs) (s t : Nm) : (d.rename f s t).1 ≤ 13 := by
 unfold Pd.rename; split
 ·exact ans_cd _ _ _
 ·split
  ·simp
  ·exact chg_cd _ _ _
theorem delete_cd (d : Pd) (f : Fs) (s : Nm) : (d.delete f s).1 ≤ 13 := by
 unfold Pd.delete; split
 ·exact ans_cd _ _ _
 ·split
  ·simp
  ·exact chg_cd _ _ _
theorem stg_cd (d : Pd) (f : Fs) (x : Fl) : (stg d f x).1 ≤ 13 := by
 unfold stg; split
 ·exact sync_cd _ _ _
 ·exact write_cd _ _ _ _
theorem fin_cd (d : Pd) (f : Fs) (x : Fl) : (fin d f x).1 ≤ 13 := rename_cd _ _ _ _
end Go.Proofs.YtfogkegmdgbecaaGreatDoor

/- staged, finish, stage, and what else is done to one drive. -/
namespace Go.Proofs.YtfogkegmdgbecaaGreatDoor
open Go Go.RowKit

theorem tmp_cat (s : Nm) (w : World) (hs : s.length ≤ 1000) : (binOp .add 9 (.string ⟨#[116, 109, 112, 47]⟩) (sv s)).run Tryz.prog w = .ok (sv (tmpN s)) w := by
 rw [binOp_string_add]
 have := run_string_add_lists (P := Tryz.prog) w [116, 109, 112, 47] s (by simp) (by omega)
 simpa [tmpN] using this
theorem staged_any (s : Nm) (w : World) (hs : s.length ≤ 1000) : Calls Tryz.prog 114 #[sv s] w fun e w' => e = .returned (sv (tmpN s)) ∧ w' = w := by
 have hc := fun w => tmp_cat s w hs
 go_enter Tryz.func114, Tryz.ntmps114
 go_wp2
 go_ret
 exact ⟨rfl, rfl⟩
section
variable {w : World} {S : Nat → Prop} {p m : Nat} {fu : Option Nat} {d : Pd} {L : List (Nm × Ent)}
theorem Done.then {w1 : World} {r1 r2 : Nat × Pd × Fs} {e1 : Ending} (h : Done w S p fu r1 e1 w1) {g : FuncId} {args : Array Value} (hc : ∀ S2 m L, DrC w1 S2 p m fu r1.2.1 L → FuAt w1 S2 fu r1.2.2 → Calls Tryz.prog g args w1 (Done w1 S2 p fu r2)) :
  Calls Tryz.prog g args w1 (Done w S p fu r2) := by
 obtain ⟨_, S2, hg, ⟨m, L, hd⟩, hf, ho⟩ := h
 refine (hc S2 m L hd hf).mono ?_
 rintro e w2 ⟨h1, S3, hg3, hd3, hf3, ho3⟩
 refine ⟨h1, S3, ⟨fun b hb => hg3.1 b (hg.1 b hb), fun b hb => (hg3.2 b hb).elim (hg.2 b) (fun h => Or.inr (Nat.le_trans ho.size h))⟩, hd3, hf3, ho.then ho3 fun b hb hx => ?_⟩
 rcases hx with hx | hx
 ·exact (hg.2 b hx).elim Or.inl (fun h => by omega)
 ·exact Or.inr hx
theorem finish_any (h : DrC w S p m fu d L) {f : Fs} (hf : FuAt w S fu f) (s : Nm) (hs : s.length ≤ 1000) (ho : d.ops < 1000000000000) (hl : d.F.length < 1000000000000) :
  Calls Tryz.prog 63 #[ptr p, sv s] w (Done w S p fu (d.rename f (tmpN s) s)) := by
 have HR := hid (rename_any h hf (tmpN s) s (by simp [tmpN, maxLen]; omega) (by simp [maxLen]; omega) ho hl)
 clear h hf
 generalize d.rename f (tmpN s) s = r at HR ⊢
 go_enter Tryz.func63, Tryz.ntmps63
 go_wp2_with (first
  | (go_at_call 114; refine (staged_any s _ hs).mono ?_; rintro e w' ⟨rfl, hw'⟩; have hw2 := hw'.symm; subst hw2)
  | (go_at_call 118; refine HR.out.mono ?_; rintro e w' ⟨rfl, hd⟩; have HD := hid hd; clear hd))
 go_ret
 exact ⟨rfl, HD.out⟩
theorem commit2_any (h : DrC w S p m fu d L) {f : Fs} (hf : FuAt w S fu f) (x : Fl) (po : Option Addr) (n c : Nat) (hs : x.1.length ≤ 1000) (ho : d.ops < 1000000000000) (hl : d.F.length < 1000000000000) :
  Calls Tryz.prog 62 #[ptr p, .agg #[sv x.1, .slice po n c]] w (Done w S p fu (fin d f x)) := by
 have HR := hid ((finish_any (h.alloc (.cells #[sv x.1, .slice po n c] 47)) (hf.alloc _) x.1 hs ho hl).mono fun e w' hd => Done.from1 hd)
 clear h hf
 have e : fin d f x = d.rename f (tmpN x.1) x.1 := rfl
 rw [e]
 clear e
 generalize d.rename f (tmpN x.1) x.1 = r at HR ⊢
 go_enter Tryz.func62, Tryz.ntmps62
 go_wp2_with (go_at_call 63; refine HR.out.mono ?_; rintro e w' ⟨rfl, hd⟩; have HD := hid hd; clear hd)
 go_ret
 exact ⟨rfl, HD.out⟩
set_option maxHeartbeats 1000000 in
theorem stage_any (h : DrC w S p m fu d L) {f : Fs} (hf : FuAt w S fu f) (x : Fl) (po : Option Addr) (c : Nat) (hs : x.1.length ≤ 1000) (h8 : ∀ y ∈ x.2, y < 256) (hx : BAt w po x.2) (hn : x.2.length ≤ 1000000) (ho : d.ops < 100000000000) (hl : d.F.length < 100000000000) :
  Calls Tryz.prog 57 #[ptr p, .agg #[sv x.1, .slice po x.2.length c]] w (Done w S p fu (stg d f x)) := by
 have hb0 : Below w.heap.size w (w.alloc (.cells #[sv x.1, .slice po x.2.length c] 47)) := (Below.refl _ _).alloc (Nat.le_refl _) _
 have HW := hid (fun n => (write_any ((h.alloc (.cells #[sv x.1, .slice po x.2.length c] 47)).drewN n) ((hf.alloc (.cells #[sv x.1, .slice po x.2.length c] 47)).drewN n) (tmpN x.1) (by simp [tmpN, maxLen]; omega) po c x.2 h8 ((hx.keepB hb0).keepB (below_drewN _ n)) (by omega) (by omega) (by omega)))
 have hbx := CAt.made w #[sv x.1, .slice po x.2.length c] 47
 have hsz : (w.alloc (.cells #[sv x.1, .slice po x.2.length c] 47)).heap.size = w.heap.size + 1 := by simp
 have hbn : Bnd 100000000000 100000000000 d := ⟨by omega, by omega⟩
 have B1 := bnd_write hbn f (tmpN x.1) x.2
 have e0 : stg d f x = if (d.write f (tmpN x.1) x.2).1 = 0 then (d.write f (tmpN x.1) x.2).2.1.sync (d.write f (tmpN x.1) x.2).2.2 (tmpN x.1) else d.write f (tmpN x.1) x.2 := rfl
 have hcd := write_cd d f (tmpN x.1) x.2
 have hl0 : (tmpN x.1).length ≤ maxLen := by simp [tmpN, maxLen]; omega
 have HT : Hid (∀ n w1, Done ((w.alloc (.cells #[sv x.1, .slice po x.2.length c] 47)).drewN n) S p fu (d.write f (tmpN x.1) x.2) (.returned (.int .i64 ((d.write f (tmpN x.1) x.2).1 : Int))) w1 → CAt w1 w.heap.size #[sv x.1, .slice po x.2.length c] 47) := fun n w1 ⟨_, S2, hg, _, _, ho⟩ => by
  refine hbx.keep ((ho.block _ (by rw [show ((w.alloc (.cells #[sv x.1, .slice po x.2.length c] 47)).drewN n).heap.size = _ from hsz]; omega) fun hS => ?_).trans rfl)
  rcases hS with hS | hS
  ·have := h.lt _ hS; omega
  ·have := hf.lt _ hS; omega
 have HD : Hid (∀ n w1 e, Done ((w.alloc (.cells #[sv x.1, .slice po x.2.length c] 47)).drewN n) S p fu (d.write f (tmpN x.1) x.2) e w1 → Done w S p fu (d.write f (tmpN x.1) x.2) e w1) := fun n w1 e hd => Done.from (below_on _ _ hb0 (below_drewN _ n)) hd
 have HY : Hid (∀ w1 e, Done w S p fu (d.write f (tmpN x.1) x.2) e w1 → Calls Tryz.prog 115 #[ptr p, sv (tmpN x.1)] w1 (Done w S p fu ((d.write f (tmpN x.1) x.2).2.1.sync (d.write f (tmpN x.1) x.2).2.2 (tmpN x.1)))) := fun w1 e hd =>
  hd.then fun S2 m L hdr hfu => sync_any hdr hfu (tmpN x.1) hl0 (by have := B1.2; omega) (by have := B1.1; omega)
 generalize hr2 : (d.write f (tmpN x.1) x.2).2.1.sync (d.write f (tmpN x.1) x.2).2.2 (tmpN x.1) = r2 at *
 generalize d.write f (tmpN x.1) x.2 = r at *
 have HS := fun W => staged_any x.1 W hs
 have l0 : (w.alloc (.cells #[sv x.1, .slice po x.2.length c] 47)).cell? ⟨w.heap.size, 0, none⟩ = some (sv x.1) := hbx.cell 0
 have l1 : (w.alloc (.cells #[sv x.1, .slice po x.2.length c] 47)).cell? ⟨w.heap.size, 1, none⟩ = some (.slice po x.2.length c) := hbx.cell 1
 have HE := hid e0
 clear h hf hx hbx e0 hr2 hb0 hbn B1 h8 hsz
 by_cases hz : r.1 = 0
 ·have hR : stg d f x = r2 := by rw [HE.out, if_pos hz]
  have hz' : ((r.1 : Nat) : Int) = 0 := by omega
  rw [hR]
  clear hR HE
  go_enter Tryz.func57, Tryz.ntmps57
  go_wp2_with (fail)
  generalize w.alloc (.cells #[sv x.1, .slice po x.2.length c] 47) = w0 at *
  refine wp_region_tail 6 (by kernel_rfl) rfl (by kernel_rfl) ?_
  dsimp only [List.take]
  repeat (go_big_quiet_step (exact Calls.quiet_of_same (HS _)))
  refine wpQuiet_nil ?_
  intro nr
  clear l0 l1
  go_wp2_with (first
   | (go_at_call 38; refine (HW.out nr).mono ?_; intro e w1 hd; obtain rfl := hd.1; have HD1 := hid (HD.out nr w1 _ hd); have c0 : w1.cell? ⟨w.heap.size, 0, none⟩ = some (sv x.1) := (HT.out nr w1 hd).cell 0; clear hd; rw [hz'])
   | (go_at_call 114; refine (HS _).mono ?_; rintro e w' ⟨rfl, hw'⟩; have hw2 := hw'.symm; subst hw2)
   | (go_at_call 115; refine (HY.out _ _ HD1.out).mono ?_; intro e w2 hd; obtain rfl := hd.1; have HD2 := hid hd; clear hd))
  go_ret
  exact HD2.out
 ·have hR : stg d f x = r := by rw [HE.out, if_neg hz]
  have hz' : ¬ ((r.1 : Nat) : Int) = 0 := by omega
  rw [hR]
  clear hR HE
  go_enter Tryz.func57, Tryz.ntmps57
  go_wp2_with (fail)
  generalize w.alloc (.cells #[sv x.1, .slice po x.2.length c] 47) = w0 at *
  refine wp_region_tail 6 (by kernel_rfl) rfl (by kernel_rfl) ?_
  dsimp only [List.take]
  repeat (go_big_quiet_step (exact Calls.quiet_of_same (HS _)))
  refine wpQuiet_nil ?_
  intro nr
  clear l0 l1
  go_wp2_with (go_at_call 38; refine (HW.out nr).mono ?_; intro e w1 hd; obtain rfl := hd.1; have HD1 := hid (HD.out nr w1 _ hd); clear hd)
  go_ret
  exact HD1.out
end
end Go.Proofs.YtfogkegmdgbecaaGreatDoor

/- The drives that have not failed: an iterator over another one. -/
namespace Go.Proofs.YtfogkegmdgbecaaGreatDoor
open Go Go.RowKit Go.Shelf

theorem CAt.kpl {A C : World} {B b : Nat} {cs : Array Value} {t : TypeId} (h : CAt A b cs t) (hk : KpL B A C) (hB : B ≤ b) (ht : prO (.cells cs t (0, 0)) = true) : CAt C b cs t := hk.same b _ hB h ht
theorem run_mf (P : Program) (fn : Fn) (first cap : Array Value) (w : World) : (Instr.makeFunc fn first cap).run P w = .ok (.func fn first cap) w := rfl
/-- A Commit's own struct: its drives, its files, which are well. -/
structure CmM (W : World) (Bc g : Nat) (lv fv : Value) (bw cw k : Nat) (p : Nat → Nat) : Prop where
 bc : CAt W Bc #[ptr g] 156
 cg : CAt W g #[lv, fv, .slice (some ⟨bw, 0, none⟩) k cw] 96
 ls : LsAt W (fun _ => False) lv k p
 wb : ∀ j, j < k → ∃ b, W.cell? ⟨bw, j, none⟩ = some (.bool b)
set_option maxHeartbeats 1000000 in
set_option maxRecDepth 100000 in
theorem working_it (B Bc g : Nat) (lv fv : Value) (bw cw k : Nat) (p : Nat → Nat) (I : Nat → World → Prop) (hk : k ≤ 1000000) (hm : ∀ i W, I i W → CmM W Bc g lv fv bw cw k p)
  (hskip : ∀ i W, i < k → I i W → W.cell? ⟨bw, i, none⟩ = some (.bool false) → I (i + 1) W) :
  ItC Tryz.prog 135 #[ptr Bc] k (eEnc p) (fun i W => W.cell? ⟨bw, i, none⟩ = some (.bool true)) I B := by
 intro l W1 J Jx _ hJ hJx hJI hJJ hY h0
 have HK := hid hk
 have m0 := hm 0 W1 (hJI 0 W1 h0)
 obtain ⟨po, c, rfl⟩ := m0.ls.form
 have hbc := m0.bc.lt
 have hgl := m0.cg.lt
 have c0 : W1.cell? ⟨Bc, 0, none⟩ = some (ptr g) := m0.bc.cell 0
 have c1 : W1.cell? ⟨g, 0, none⟩ = some (.slice po k c) := m0.cg.cell 0
 have hmf := run_mf Tryz.prog
 clear m0
 refine (callsIn_wide (n := 0)).1 ?_
 refine callsIn_of_wp_marks Tryz.func135 rfl trivial ?_ rfl
 refine wpIn_wide.2 ?_
 simp only [Tryz.ntmps135, List.size_toArray, List.length_cons, List.length_nil, Nat.reduceAdd, Nat.reduceSub, Array.replicate_succ, Array.replicate_zero, List.push_toArray, List.append_toArray, List.nil_append, List.cons_append]
 go_wp2_with (go_at_call 73; refine (each_any _ _ _ _).mono ?_; rintro e w5 ⟨rfl, rfl⟩)
 refine (wpIn_wide (n := 0)).1 ?_
 have by0 := CAt.made W1 #[.func (.yield l) #[] #[]] 164
 have be0 := CAt.made (W1.alloc (.cells #[.func (.yield l) #[] #[]] 164)) #[.slice po k c] 23
 rw [size_al] at be0
 have by1 := by0.old (.cells #[.slice po k c] 23)
 have hj1 : J 0 ((W1.alloc (.cells #[.func (.yield l) #[] #[]] 164)).alloc (.cells #[.slice po k c] 23)) := hJ 0 _ _ (hJ 0 _ _ h0 (Tn.alloc _ _ _)) (Tn.alloc _ _ _)
 have hsz : ((W1.alloc (.cells #[.func (.yield l) #[] #[]] 164)).alloc (.cells #[.slice po k c] 23)).heap.size = W1.heap.size + 2 := by simp
 generalize ((W1.alloc (.cells #[.func (.yield l) #[] #[]] 164)).alloc (.cells #[.slice po k c] 23)) = W2 at by1 be0 hj1 hsz ⊢
 clear by0 c0 c1
 refine range_plain (gf := 121) (lb := #[ptr (W1.heap.size + 1)]) rfl (enters_of Tryz.func121 (by kernel_rfl) rfl) k (eEnc p) (fun _ => rfl) (fun _ _ => True) (fun i W => J i W ∧ CAt W W1.heap.size #[.func (.yield l) #[] #[]] 164 ∧ CAt W (W1.heap.size + 1) #[.slice po k c] 23)
  (fun c W => c = .ret ∧ Jx W) (fun _ _ _ h _ => h) ?hI ?hIx ?h0 ?hseq ?asg ?assign ?body ?done ?stop
 case hI => exact fun i A C h ht => ⟨hJ i A C h.1 (ht.mono (by omega)), h.2.1.tn ht, h.2.2.tn ht⟩
 case hIx => exact fun c A C h ht => ⟨h.1, hJx A C h.2 (ht.mono (by omega))⟩
 case h0 => exact ⟨hj1, by1, be0⟩
 case hseq => exact each_it _ _ _ k p _ hk fun i W h => ⟨h.2.2, (hm i W (hJI i W h.1)).ls⟩
 case assign =>
  intro l2 i W K hik hK
  unfold eEnc
  refine wpIn_seq (round_list (fun _ _ h => h) (by kernel_rfl) ?_)
  go_wp2
  refine round_list (fun _ _ h => h) (by kernel_rfl) ?_
  go_wp2
  exact hK
 case body =>
  rintro l2 i W hik ⟨hj, hby, hbe⟩ _
  have M := hm i W (hJI i W hj)
  have c0 : W.cell? ⟨Bc, 0, none⟩ = some (ptr g) := M.bc.cell 0
  have c2 : W.cell? ⟨g, 2, none⟩ = some (.slice (some ⟨bw, 0, none⟩) k cw) := M.cg.cell 2
  have cy : W.cell? ⟨W1.heap.size, 0, none⟩ = some (.func (.yield l) #[] #[]) := hby.cell 0
  obtain ⟨b, cb⟩ := M.wb i hik
  have hik' : (i : Int) < (k : Int) := by omega
  cases b
  ·have fin : J (i + 1) W := hJJ i (i + 1) W hj (hskip i W hik (hJI i W hj) cb)
   have FIN := hid (And.intro fin (And.intro hby hbe))
   clear fin M hj hby hbe hY hm hJ hJx hJI hJJ hskip
   refine wpIn_block (wpIn_seq (round_list (fun _ _ h => h) (by kernel_rfl) ?_))
   go_wp2
   refine wpIn_cond_false rfl (wpIn_skip ?_)
   exact ⟨KpL.refl _ _, FIN.out⟩
  ·have HY := hid (hY i W hik hj cb)
   have HBY := hid hby
   have HBE := hid hbe
   clear M hj hby hbe hY hm hJ hJx hJI hJJ hskip
   refine wpIn_block (wpIn_seq (round_yield (m := 11) (fun _ _ h => h) (by kernel_rfl) ?_))
   dsimp only [List.take]
   go_wp2
   refine yield_at (vs := eEnc p i) rfl rfl (by simp [eEnc, Act.eval]) (by kernel_rfl) HY.out ?_
   rintro e W3 ⟨hk3, (⟨rfl, hJ3⟩ | ⟨rfl, hJx3⟩)⟩
   ·refine ⟨_, rfl, list_rnd (fun ⟨_, _, q⟩ => q) _ _ _ (fun o ho => noDefer_at (ops := #[o]) (by simp at ho; rcases ho with rfl | rfl <;> kernel_rfl) (by simp)) ?_⟩
    go_wp2
    refine wpIn_cond_false rfl (wpIn_skip ?_)
    exact ⟨hk3.mono (by omega), hJ3, HBY.out.kpl hk3 (Nat.le_refl _) rfl, HBE.out.kpl hk3 (by omega) rfl⟩
   ·refine ⟨_, rfl, list_rnd (fun ⟨_, _, q⟩ => q) _ _ _ (fun o ho => noDefer_at (ops := #[o]) (by simp at ho; rcases ho with rfl | rfl <;> kernel_rfl) (by simp)) ?_⟩
    go_wp2
    refine wpIn_cond_true rfl (wpIn_ret ?_)
    exact ⟨hk3.mono (by omega), rfl, hJx3⟩
 case done =>
  rintro D W hD ⟨hj, _, _⟩ hd
  refine ⟨by simp, .inl ⟨_, _, rfl, run_takeDeferred hd, ?_⟩⟩
  exact ⟨_, results_none rfl _ _ _, ⟨_, rfl⟩, .inl (hJ k _ _ hj (Tn.put _ (by omega) hd rfl))⟩
 case stop =>
  rintro D c W hD ⟨rfl, hj⟩ hd
  refine wpIn_ret ?_
  refine ⟨by simp, .inl ⟨_, _, rfl, run_takeDeferred hd, ?_⟩⟩
  exact ⟨_, results_none rfl _ _ _, ⟨_, rfl⟩, .inr (hJx _ _ hj (Tn.put _ (by omega) hd rfl))⟩
theorem working_any (g : Nat) (w : World) : Calls Tryz.prog 112 #[ptr g] w fun e w' => e = .returned (.func (.func 135) #[] #[ptr w.heap.size]) ∧ w' = w.alloc (.cells #[ptr g] 156) := by
 have hmf := run_mf Tryz.prog
 go_enter Tryz.func112, Tryz.ntmps112
 go_wp2
 go_ret
 exact ⟨rfl, rfl⟩
end Go.Proofs.YtfogkegmdgbecaaGreatDoor

/- Files to be committed, in memory; which drives are well; how many are. -/
namespace Go.Proofs.YtfogkegmdgbecaaGreatDoor
open Go Go.RowKit Go.Shelf

/-- A file as it stands in memory. -/
structure FlV where
 nm : Nm
 pb : Option Addr
 cb : Nat
 bs : List Nat
instance : Inhabited FlV := ⟨⟨[], none, 0, []⟩⟩
def FlV.fl (x : FlV) : Fl := (x.nm, x.bs)
abbrev FlV.bv (x : FlV) : Value := .slice x.pb x.bs.length x.cb
structure FlV.ok (w : World) (T : Nat → Prop) (x : FlV) : Prop where
 nl : x.nm.length ≤ maxLen
 b8 : ∀ y ∈ x.bs, y < 256
 bl : x.bs.length ≤ 1000000
 bt : BAt w x.pb x.bs
 nt : ∀ a, x.pb = some a → x.bs ≠ [] → ¬ T a.block
structure RowV where
 po : Option Addr
 c : Nat
 l : List FlV
instance : Inhabited RowV := ⟨⟨none, 0, []⟩⟩
def RowV.fl (r : RowV) : List Fl := r.l.map FlV.fl
abbrev RowV.v (r : RowV) : Value := .slice r.po r.l.length r.c
structure RowV.ok (w : World) (T : Nat → Prop) (r : RowV) : Prop where
 at_ : r.l = [] ∨ ∃ b o, r.po = some ⟨b, o, none⟩ ∧ ¬ T b ∧ ∀ j, j < r.l.length → w.cell? ⟨b, o + j * 2, none⟩ = some (sv (r.l.getD j default).nm) ∧ w.cell? ⟨b, o + j * 2 + 1, none⟩ = some (r.l.getD j default).bv
 el : ∀ x ∈ r.l, x.ok w T
 cp : r.l.length ≤ r.c
/-- The lists of all drives. -/
structure FsV where
 po : Option Addr
 c : Nat
 l : List RowV
abbrev FsV.v (r : FsV) : Value := .slice r.po r.l.length r.c
def FsV.fl (r : FsV) (i : Nat) : List Fl := (r.l.getD i default).fl
structure FsV.ok (w : World) (T : Nat → Prop) (r : FsV) : Prop where
 at_ : r.l = [] ∨ ∃ b o, r.po = some ⟨b, o, none⟩ ∧ ¬ T b ∧ ∀ j, j < r.l.length → w.cell? ⟨b, o + j, none⟩ = some (r.l.getD j default).v
 el : ∀ x ∈ r.l, x.ok w T
theorem add_block (a : Addr) (i : Nat) : (a.add i).block = a.block := by unfold Addr.add; split <;> rfl
section
variable {w w' : World} {T T' : Nat → Prop}
theorem FlV.ok.keep {x : FlV} (h : x.ok w T) (hk : ∀ b, b < w.heap.size → ¬ T b → w'.heap[b]? = w.heap[b]?) (hT : ∀ b, b < w.heap.size → T' b → T b) : x.ok w' T' := by
 have lt : ∀ a, x.pb = some a → x.bs ≠ [] → a.block < w.heap.size := fun a e hne => by
  rcases h.bt with ⟨h1, h2⟩ | ⟨a', h1, h2⟩
  ·exact absurd h2 hne
  ·rw [h1] at e; cases e
   have := h2 0 (List.length_pos_iff.2 hne)
   have := cell_lt' (w := w) (a := a.add 0) (by rw [this]; simp)
   rwa [add_block] at this
 refine ⟨h.nl, h.b8, h.bl, ?_, fun a e hne ht => h.nt a e hne (hT _ (lt a e hne) ht)⟩
 rcases h.bt with ⟨h1, h2⟩ | ⟨a', h1, h2⟩
 ·exact .inl ⟨h1, h2⟩
 ·refine .inr ⟨a', h1, fun i hi => ?_⟩
  have hne : x.bs ≠ [] := List.length_pos_iff.1 (by omega)
  refine (World.cell?_of_block ?_).trans (h2 i hi)
  rw [add_block]
  exact hk _ (lt a' h1 hne) (h.nt a' h1 hne)
theorem RowV.ok.keep {x : RowV} (h : x.ok w T) (hk : ∀ b, b < w.heap.size → ¬ T b → w'.heap[b]? = w.heap[b]?) (hT : ∀ b, b < w.heap.size → T' b → T b) : x.ok w' T' := by
 refine ⟨?_, fun y hy => (h.el y hy).keep hk hT, h.cp⟩
 rcases h.at_ with h1 | ⟨b, o, h1, h2, h3⟩
 ·exact .inl h1
 ·rcases Nat.eq_zero_or_pos x.l.length with h0 | h0
  ·exact .inl (List.length_eq_zero_iff.1 h0)
  ·have hb := cell_lt2 (h3 0 h0).1
   exact .inr ⟨b, o, h1, fun ht => h2 (hT b hb ht), fun j hj => ⟨(World.cell?_of_block (a := ⟨b, o + j * 2, none⟩) (hk b hb h2)).trans (h3 j hj).1, (World.cell?_of_block (a := ⟨b, o + j * 2 + 1, none⟩) (hk b hb h2)).trans (h3 j hj).2⟩⟩
theorem FsV.ok.keep {x : FsV} (h : x.ok w T) (hk : ∀ b, b < w.heap.size → ¬ T b → w'.heap[b]? = w.heap[b]?) (hT : ∀ b, b < w.heap.size → T' b → T b) : x.ok w' T' := by
 refine ⟨?_, fun y hy => (h.el y hy).keep hk hT⟩
 rcases h.at_ with h1 | ⟨b, o, h1, h2, h3⟩
 ·exact .inl h1
 ·rcases Nat.eq_zero_or_pos x.l.length with h0 | h0
  ·exact .inl (List.length_eq_zero_iff.1 h0)
  ·have hb := cell_lt2 (h3 0 h0)
   exact .inr ⟨b, o, h1, fun ht => h2 (hT b hb ht), fun j hj => (World.cell?_of_block (a := ⟨b, o + j, none⟩) (hk b hb h2)).trans (h3 j hj)⟩
theorem FsV.ok.only {x : FsV} {Y : Nat → Prop} (h : x.ok w T) (ho : Only Y w w') (hY : ∀ b, Y b → T b) : x.ok w' T := h.keep (fun b hb hT => ho.block b hb fun hy => hT (hY b hy)) (fun _ _ h => h)
/-- Which drives are well, in memory. -/
def WlAt (w : World) (bw k : Nat) (wl : Nat → Bool) : Prop := ∀ j, j < k → w.cell? ⟨bw, j, none⟩ = some (.bool (wl j)) ∧ w.frozen? ⟨bw, j, none⟩ = false
theorem WlAt.keep {bw k : Nat} {wl : Nat → Bool} (h : WlAt w bw k wl) (e : w'.heap[bw]? = w.heap[bw]?) : WlAt w' bw k wl := fun j hj => ⟨(World.cell?_of_block (a := ⟨bw, j, none⟩) e).trans (h j hj).1, (World.frozen?_of_block (a := ⟨bw, j, none⟩) e).trans (h j hj).2⟩
theorem WlAt.tn {bw k : Nat} {wl : Nat → Bool} {B : Nat} (h : WlAt w bw k wl) (ht : Tn B w w') : WlAt w' bw k wl := by
 rcases Nat.eq_zero_or_pos k with h0 | h0
 ·exact fun j hj => absurd hj (by omega)
 ·obtain ⟨o, ho, hc⟩ := cells_of_cell (h 0 h0).1
  exact h.keep (ht.other ho (by cases o <;> first | rfl | (simp [Obj.isCells] at hc)))
theorem WlAt.set {bw k : Nat} {wl : Nat → Bool} (h : WlAt w bw k wl) {i : Nat} (hi : i < k) (b : Bool) : WlAt (w.setCell ⟨bw, i, none⟩ (.bool b)) bw k (upd wl i b) := fun j hj => by
 by_cases e : j = i
 ·subst e; rw [upd_same]; exact ⟨World.cell?_setCell_same' _ _ _ (by rw [(h j hj).1]; rfl), by rw [World.frozen?_setCell]; exact (h j hj).2⟩
 ·rw [upd_ne _ _ e]; exact ⟨(World.cell?_setCell_other w ⟨bw, i, none⟩ ⟨bw, j, none⟩ (.bool b) (by intro e2; cases e2; exact e rfl)).trans (h j hj).1, by rw [World.frozen?_setCell]; exact (h j hj).2⟩
theorem KpL.set {B b : Nat} (hb : b < B) (W : World) (i : Nat) (v : Value) : KpL B W (W.setCell ⟨b, i, none⟩ v) := ⟨Nat.le_of_eq (setCell_size _ _ _).symm, fun r _ hr h _ => (heap_setCell_ne W ⟨b, i, none⟩ v r (by show r ≠ b; omega)).trans h⟩
end
theorem upd_id {α : Type} (d : Nat → α) (i : Nat) : upd d i (d i) = d := by funext j; unfold upd; split <;> simp_all
theorem upd_upd {α : Type} (d : Nat → α) (i : Nat) (x y : α) : upd (upd d i x) i y = upd d i y := by funext j; unfold upd; split <;> rfl
structure CnI (w W : World) (g : Nat) (wl : Nat → Bool) (i : Nat) : Prop where
 be : Below w.heap.size w W
 bn : CAt W w.heap.size #[.int .i64 (cntW wl i : Int)] 3
 bc : CAt W (w.heap.size + 1) #[ptr g] 156
theorem cntW_le (wl : Nat → Bool) : ∀ n, cntW wl n ≤ n
 | 0 => Nat.le_refl _
 | n + 1 => by have := cntW_le wl n; unfold cntW; split <;> omega
set_option maxHeartbeats 1000000 in
set_option maxRecDepth 100000 in
theorem count_any (w : World) (g : Nat) (lv fv : Value) (bw cw k : Nat) (p : Nat → Nat) (wl : Nat → Bool) (hk : k ≤ 1000) (hg : CAt w g #[lv, fv, .slice (some ⟨bw, 0, none⟩) k cw] 96) (hl : LsAt w (fun _ => False) lv k p) (hw : WlAt w bw k wl) :
  Calls Tryz.prog 59 #[ptr g] w fun e w' => e = .returned (.int .i64 (cntW wl k : Int)) ∧ Below w.heap.size w w' := by
 have HG := hid hg
 have HL := hid hl
 have HW := hid hw
 have HK := hid hk
 clear hg hl hw
 refine (callsIn_wide (n := 0)).1 ?_
 refine callsIn_of_wp_marks Tryz.func59 rfl trivial ?_ rfl
 refine wpIn_wide.2 ?_
 simp only [Tryz.ntmps59, List.size_toArray, List.length_cons, List.length_nil, Nat.reduceAdd, Nat.reduceSub, Array.replicate_succ, Array.replicate_zero, List.push_toArray, List.append_toArray, List.nil_append, List.cons_append]
 go_wp2_with (go_at_call 112; refine (working_any _ _).mono ?_; rintro e w5 ⟨rfl, rfl⟩)
 rename_i Kx hKx
 refine (wpIn_wide (n := 0)).1 ?_
 have c0 : CnI w ((w.alloc (.cells #[.int .i64 0] 3)).alloc (.cells #[ptr g] 156)) g wl 0 := by
  have b1 := CAt.made (w.alloc (.cells #[.int .i64 0] 3)) #[ptr g] 156
  rw [size_al] at b1
  exact ⟨((Below.refl _ _).alloc (Nat.le_refl _) _).alloc (by simp) _, (CAt.made w _ _).old _, b1⟩
 have hsz : ((w.alloc (.cells #[.int .i64 0] 3)).alloc (.cells #[ptr g] 156)).heap.size = w.heap.size + 2 := by simp
 generalize ((w.alloc (.cells #[.int .i64 0] 3)).alloc (.cells #[ptr g] 156)) = W0 at c0 hsz ⊢
 have wk : ∀ i W, CnI w W g wl i → WlAt W bw k wl := fun i W h => by
  rcases Nat.eq_zero_or_pos k with h0 | h0
  ·exact fun j hj => absurd hj (by omega)
  ·exact HW.out.keep (h.be.block bw (cell_lt2 (HW.out 0 h0).1))
 refine range_plain (gf := 135) (lb := #[ptr (w.heap.size + 1)]) rfl (enters_of Tryz.func135 (by kernel_rfl) rfl) k (eEnc p) (fun _ => rfl) (fun i W => W.cell? ⟨bw, i, none⟩ = some (.bool true)) (fun i W => CnI w W g wl i)
  (fun _ _ => False) ?hEn ?hI (fun _ _ _ h _ => h) c0 ?hseq ?asg ?assign ?body ?done (fun _ _ _ _ h _ => h.elim)
 case hEn =>
  intro i A C h ht
  obtain ⟨o, ho, hc⟩ := cells_of_cell h
  exact (World.cell?_of_block (a := ⟨bw, i, none⟩) (ht.other ho (by cases o <;> first | rfl | (simp [Obj.isCells] at hc)))).trans h
 case hI => exact fun i A C h ht => ⟨below_tn h.be ht (by omega), h.bn.tn ht, h.bc.tn ht⟩
 case hseq =>
  refine working_it _ _ g lv fv bw cw k p _ (by omega) (fun i W h => ⟨h.bc, HG.out.below h.be, HL.out.keep (fun b hb _ => h.be.block b hb) (fun _ _ h => h), fun j hj => ⟨_, (wk i W h j hj).1⟩⟩) (fun i W hi h hc => ?_)
  have hf : wl i = false := by have := (wk i W h i hi).1; rw [hc] at this; simpa using this
  exact ⟨h.be, by unfold cntW; rw [hf]; exact h.bn, h.bc⟩
 case assign =>
  intro l i W K hik hK
  unfold eEnc
  refine wpIn_skip ?_
  show K _ _
  simp
  exact hK
 case body =>
  intro l i W hik h hen
  have hf : wl i = true := by have := (wk i W h i hik).1; rw [hen] at this; simpa using this
  have c3 : W.cell? ⟨w.heap.size, 0, none⟩ = some (.int .i64 (cntW wl i : Int)) := h.bn.cell 0
  have f3 : W.frozen? ⟨w.heap.size, 0, none⟩ = false := h.bn.free 0
  have hle := cntW_le wl i
  have hs : cntW wl (i + 1) = cntW wl i + 1 := by
   show cntW wl i + (if wl i then 1 else 0) = _
   rw [hf]; rfl
  have FIN : Hid (CnI w (W.setCell ⟨w.heap.size, 0, none⟩ (.int .i64 ((cntW wl i : Int) + 1))) g wl (i + 1)) := by
   refine ⟨h.be.setCell (p := ⟨w.heap.size, 0, none⟩) (Nat.le_refl _) _, ?_, h.bc.keep (heap_setCell_ne _ _ _ _ (by show w.heap.size + 1 ≠ w.heap.size; omega))⟩
   have := h.bn.set 0 (.int .i64 ((cntW wl i : Int) + 1))
   rw [hs]
   simpa using this
  have hkp : KpL W0.heap.size W (W.setCell ⟨w.heap.size, 0, none⟩ (.int .i64 ((cntW wl i : Int) + 1))) := KpL.set (by omega) _ _ _
  generalize cntW wl i = q at *
  have hq : (q : Int) ≤ 1000 := by have := HK.out; omega
  clear hs h hen
  refine wpIn_block (round_list (fun _ _ h => h) (by kernel_rfl) ?_)
  go_wp2
  exact ⟨hkp, FIN.out⟩
 case done =>
  intro D W hD h hd
  have c3 : W.cell? ⟨w.heap.size, 0, none⟩ = some (.int .i64 (cntW wl k : Int)) := h.bn.cell 0
  have hb : Below w.heap.size w (W.putObj D (.deferred none)) := below_tn h.be (Tn.put (B := W0.heap.size) _ hD hd rfl) (by omega)
  refine hKx _ _ ?_
  dsimp only [endAct]
  clear hKx h
  go_wp2
  refine ⟨by simp, .inl ⟨_, _, rfl, run_takeDeferred hd, ?_⟩⟩
  exact ⟨_, results_tmp rfl _ _ _, rfl, hb⟩
end Go.Proofs.YtfogkegmdgbecaaGreatDoor
