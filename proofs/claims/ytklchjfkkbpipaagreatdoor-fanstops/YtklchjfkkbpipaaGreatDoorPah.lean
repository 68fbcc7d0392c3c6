/- Texts laid into one, cut to what is needed: the remark ahead of each part says what is proved there. -/
import Derived.Test.YtklchjfkkbpipaaGreatDoorPag
import Derived.Test.YtklchjfkkbpipaaGreatDoorPae
/- What happens to the drives of a set: made, crashed, offline, full, turned, a fuse for all; none, checkDrives. -/
namespace Go.Proofs.YtklchjfkkbpipaaGreatDoor
open Go Go.RowKit

section
variable {w wr : World} {T : Nat → Prop} {k : Nat} {p : Nat → Nat} {d : Nat → Pd} {f : Fs} {c : Nat}
theorem FA.empty (w wr : World) (hb : Below w.heap.size w wr) (p : Nat → Nat) (d : Nat → Pd) : FA w wr (fun _ => False) 0 p d none 0 :=
  ⟨⟨fun _ => ⟨0, fun _ => False, none, fresh 1⟩, fun _ => (0, false), none, ⟨fun i hi => absurd hi (Nat.not_lt_zero _), fun i hi => absurd hi (Nat.not_lt_zero _), fun i _ hi => absurd hi (Nat.not_lt_zero _), fun i hi => absurd hi (Nat.not_lt_zero _), hb⟩, fun i hi => absurd hi (Nat.not_lt_zero _), rfl, fun _ e => by cases e⟩, fun _ h => h.elim, fun _ h => h.elim, hb⟩
/-- One drive more, made since wr. -/
theorem FA.more (h : FA w wr T k p d none 0) {w' : World} {q n : Nat} (hd : DrAt w' (fun b => wr.heap.size ≤ b ∧ b < w'.heap.size) q none (fresh n)) (hb : Below wr.heap.size wr w') :
    ∃ T', Grows wr T T' ∧ FA w w' T' (k + 1) (upd p k q) (upd d k (fresh n)) none 0 := by
  obtain ⟨D, Z, fu, hs, hdd, hf, hq⟩ := h.ex
  have hfu : ∀ i, i < k → (D i).fu = none := fun i hi => by
    have h2 := (hdd i hi).2.1
    rw [h2]
    cases fu with
    | none => simp
    | some q => simp at hf
  let N : Dv := ⟨q, fun b => wr.heap.size ≤ b ∧ b < w'.heap.size, none, fresh n⟩
  have hs' := hs.below hb
  have old : ∀ i, i < k + 1 → i ≠ k → i < k := fun i hi hn => by omega
  refine ⟨fun b => T b ∨ (wr.heap.size ≤ b ∧ b < w'.heap.size), ⟨fun b hb => Or.inl hb, fun b hb => hb.elim Or.inl fun h => Or.inr h.1⟩, ⟨setD D k N, Z, none, ⟨fun i hi => ?_, fun i hi x e => ?_, fun i j hi hj hij b hbi hbj => ?_, fun i hi b hbi => ?_, hs'.be⟩, fun i hi => ?_, rfl, fun _ e => by cases e⟩, fun b hb' => ?_, fun b hb' => ?_, hs'.be⟩
  · by_cases e : i = k
    · subst e; rw [setD_same]; exact hd
    · rw [setD_ne _ _ e]; exact hs'.dr i (old i hi e)
  · by_cases e2 : i = k
    · subst e2; rw [setD_same] at e; cases e
    · rw [setD_ne _ _ e2, hfu i (old i hi e2)] at e; cases e
  · by_cases e1 : i = k
    · subst e1; rw [setD_same] at hbi; rw [setD_ne _ _ (Ne.symm hij)] at hbj
      have := hs.lt (old j hj (Ne.symm hij)) b hbj; have := hbi.1; omega
    · rw [setD_ne _ _ e1] at hbi
      have h1 := hs.lt (old i hi e1) b hbi
      by_cases e2 : j = k
      · subst e2; rw [setD_same] at hbj; have := hbj.1; omega
      · rw [setD_ne _ _ e2] at hbj; exact hs.dj i j (old i hi e1) (old j hj e2) hij b hbi hbj
  · by_cases e : i = k
    · subst e; rw [setD_same] at hbi; exact Nat.le_trans h.be.size hbi.1
    · rw [setD_ne _ _ e] at hbi; exact hs.ge i (old i hi e) b hbi
  · by_cases e : i = k
    · subst e; rw [setD_same, upd_same, upd_same]; exact ⟨rfl, by simp [N], rfl, fun b hb => Or.inr hb⟩
    · rw [setD_ne _ _ e, upd_ne _ _ e, upd_ne _ _ e]
      obtain ⟨g1, g2, g3, g4⟩ := hdd i (old i hi e)
      exact ⟨g1, by rw [hfu i (old i hi e)]; simp, g3, fun b hb => Or.inl (g4 b hb)⟩
  · exact hb'.elim (fun h' => Nat.lt_of_lt_of_le (h.lt b h') hb.size) (fun h' => h'.2)
  · exact hb'.elim (h.ge b) (fun h' => Nat.le_trans h.be.size h'.1)
theorem FA.setA (h : FA w wr T k p d f c) {i : Nat} (hi : i < k) {g : FuncId} {args : Array Value} {d2 : Pd} (hc : ∀ fu S m L, DrC wr S (p i) m fu (d i) L → Calls Tryz.prog g args wr (SetAt wr S (p i) m fu d2 L)) :
    Calls Tryz.prog g args wr fun e w' => e = .returned (.int .i64 0) ∧ FStep w wr T k p (upd d i d2) f c w' := by
  refine h.turn hi (c2 := c) (R := fun e => e = .returned (.int .i64 0)) ⟨fun _ _ _ => Iff.rfl, Or.inl Iff.rfl⟩ (fun fu S m L _ hd hf => (hc fu S m L hd).mono ?_) (fun _ => rfl) rfl
  rintro e w' ⟨h1, h2, h3, h4⟩
  have ho : Only S wr w' := h3.mono fun b hb => hb ▸ hd.sp
  exact ⟨h1, S, Grows.refl _ _, by rw [if_neg (by simp)]; exact ⟨m, L, h2⟩, hf.kept ho (fun q hq => hf.ne q hq), ho.mono fun b hb => Or.inl hb⟩
theorem FA.turned (h : FA w wr T k p d f c) {i : Nat} (hi : i < k) {g : FuncId} {args : Array Value} {r : Nat × Pd} (hc : ∀ fu S m L, DrC wr S (p i) m fu (d i) L → Calls Tryz.prog g args wr (TurnAt wr S (p i) fu r)) :
    Calls Tryz.prog g args wr fun e w' => e = .returned (.int .i64 (r.1 : Int)) ∧ FStep w wr T k p (upd d i r.2) f c w' := by
  refine h.turn hi (c2 := c) (R := fun e => e = .returned (.int .i64 (r.1 : Int))) ⟨fun _ _ _ => Iff.rfl, Or.inl Iff.rfl⟩ (fun fu S m L _ hd hf => (hc fu S m L hd).mono ?_) (fun _ => rfl) rfl
  rintro e w' ⟨h1, h2, h3⟩
  exact ⟨h1, S, Grows.refl _ _, by rw [if_neg (by simp)]; exact h2, hf.kept h3 (fun q hq => hf.ne q hq), h3.mono fun b hb => Or.inl hb⟩
/-- All have crashed. -/
theorem FA.calm (h : FA w wr T k p d f k) : FA w wr T k p d none 0 := by
  obtain ⟨D, Z, fu, hs, hdd, hf, hq⟩ := h.ex
  exact ⟨⟨D, Z, none, hs, fun i hi => by obtain ⟨g1, g2, g3, g4⟩ := hdd i hi; exact ⟨g1, by rw [g2, if_pos hi]; simp, g3, g4⟩, rfl, fun _ e => by cases e⟩, h.lt, h.ge, h.be⟩
end
end Go.Proofs.YtklchjfkkbpipaaGreatDoor

/- What a drive answers that is nil, or that nobody made. -/
namespace Go.Proofs.YtklchjfkkbpipaaGreatDoor
open Go Go.RowKit

/-- A pointer to no drive, or to one whose first cell is nil. -/
inductive Bare (w : World) : Value → Prop
  | nil : Bare w (.pointer none)
  | zero (p : Nat) (h : w.cell? ⟨p, 0, none⟩ = some (.pointer none)) : Bare w (ptr p)
theorem Bare.below {w w' : World} {v : Value} (h : Bare w v) (hb : Below w.heap.size w w') : Bare w' v := by
  cases h with
  | nil => exact .nil
  | zero p h => exact .zero p ((World.cell?_of_block (hb.block p (cell_lt' (a := ⟨p, 0, none⟩) (by rw [h]; simp)))).trans h)
theorem Bare.form {w : World} {v : Value} (h : Bare w v) : ∃ a, v = .pointer a := by cases h <;> exact ⟨_, rfl⟩
theorem made_none {w : World} {v : Value} (h : Bare w v) : Calls Tryz.prog 93 #[v] w fun e w' => e = .returned (.bool false) ∧ w' = w := by
  cases h with
  | nil => exact made_nil w
  | zero p h => exact made_bare h
theorem fuse_none {w : World} {v : Value} (h : Bare w v) (b : Nat) (hc : CAt w b #[v] 38) (n : Int) : Calls Tryz.prog 30 #[.slice (some ⟨b, 0, none⟩) 1 1, .int .i64 n] w fun e w' => e = .returned (.int .i64 1) ∧ w' = w := by
  have HA := hid (made_none h)
  obtain ⟨a, rfl⟩ := h.form
  have c0 : w.cell? ⟨b, 0, none⟩ = some (.pointer a) := hc.cell 0
  clear h hc
  go_enter Tryz.func30, Tryz.ntmps30
  go_wp2
  refine wp_loop_rounds 1 ?_
  rw [rounds_succ]
  go_wp2_with (go_at_call 93; refine HA.out.mono ?_; rintro e w' ⟨rfl, hw'⟩; have hw2 := hw'.symm; subst hw2)
  go_ret
  exact ⟨rfl, by first | rfl | trivial⟩
end Go.Proofs.YtklchjfkkbpipaaGreatDoor

/- A fuse for all drives of a set; none, checkDrives. -/
namespace Go.Proofs.YtklchjfkkbpipaaGreatDoor
open Go Go.RowKit

section
variable {w wr : World} {T : Nat → Prop} {k : Nat} {p : Nat → Nat} {d : Nat → Pd} {f : Fs} {c : Nat}
theorem FA.made (h : FA w wr T k p d f c) {i : Nat} (hi : i < k) : Calls Tryz.prog 93 #[ptr (p i)] wr fun e w' => e = .returned (.bool true) ∧ w' = wr := h.look hi fun _ _ _ _ hd _ => made_any hd
set_option maxRecDepth 100000 in
theorem fuse_neg (h : FA w wr T k p d f c) {v : Value} (hl : LsAt wr T v k p) (hk : k ≤ 1000) : Calls Tryz.prog 30 #[v, .int .i64 (-1)] wr fun e w' => e = .returned (.int .i64 2) ∧ w' = wr := by
  have H := hid (fun i (hi : i < k) => h.made hi)
  have HK := hid hk
  rcases hl.ex with ⟨rfl, rfl⟩ | ⟨h0, b, cc, rfl, _, hb⟩
  · clear h hl
    go_enter Tryz.func30, Tryz.ntmps30
    go_wp2
    refine wp_loop_rounds 1 ?_
    rw [rounds_succ]
    go_wp2
    go_ret
    exact ⟨rfl, by first | rfl | trivial⟩
  · have HB := hid hb
    clear h hl hb hk
    go_enter Tryz.func30, Tryz.ntmps30
    go_wp2
    go_loopw [12] (fun x wx => ∃ i : Nat, i ≤ k ∧ x = .int .i64 (i : Int) ∧ wr = wx) (fun x _ => (1000 - intOf x).toNat)
    case atStart => exact ⟨0, by omega, rfl, rfl⟩
    case round =>
      obtain ⟨i, hi, rfl, hw⟩ := hrel
      subst hw
      by_cases hlt : i < k
      · have hx := HB.out i hlt
        have hm := H.out i hlt
        have hlt' : (i : Int) < (k : Int) := by omega
        have hi2 : (i : Int) < 1000 := by have := HK.out; omega
        go_wp2_with (go_at_call 93; refine hm.mono ?_; rintro e w' ⟨rfl, hw'⟩; have hw2 := hw'.symm; subst hw2)
        go_roundw
        case rel => exact ⟨i + 1, by omega, by go_num, by trivial⟩
        case measure => simp [intOf]; omega
      · have hlt' : ¬ (i : Int) < (k : Int) := by omega
        go_wp2
        go_ret
        exact ⟨by first | rfl | trivial, by first | rfl | trivial⟩
theorem none_fa (h : FA w wr T k p d f c) {v : Value} (hl : LsAt wr T v k p) (hk : k ≤ 1000) : Calls Tryz.prog 87 #[v] wr fun e w' => e = .returned (.bool false) ∧ w' = wr := by
  have HF := hid (fuse_neg h hl hk)
  obtain ⟨po, cc, rfl⟩ := hl.form
  clear h hl hk
  go_enter Tryz.func87, Tryz.ntmps87
  go_wp2_with (go_at_call 30; refine HF.out.mono ?_; rintro e w' ⟨rfl, hw'⟩; have hw2 := hw'.symm; subst hw2)
  go_ret
  exact ⟨rfl, by first | rfl | trivial⟩
/-- What stands against any call of k drives. -/
def ckD (k : Nat) : Nat := if 1 ≤ k ∧ k ≤ 16 then 0 else 2
theorem checkDrives_fa (h : FA w wr T k p d f c) {v : Value} (hl : LsAt wr T v k p) (hk : k ≤ 1000) : Calls Tryz.prog 65 #[v] wr fun e w' => e = .returned (.int .i64 (ckD k : Int)) ∧ w' = wr := by
  have HF := hid (none_fa h hl hk)
  obtain ⟨po, cc, rfl⟩ := hl.form
  clear h hl
  unfold ckD
  by_cases h1 : 1 ≤ k
  · by_cases h2 : k ≤ 16
    · rw [if_pos ⟨h1, h2⟩]
      have h1' : ¬ (k : Int) < 1 := by omega
      have h2' : ¬ 16 < (k : Int) := by omega
      go_enter Tryz.func65, Tryz.ntmps65
      go_wp2_with (go_at_call 87; refine HF.out.mono ?_; rintro e w' ⟨rfl, hw'⟩; have hw2 := hw'.symm; subst hw2)
      go_ret
      exact ⟨rfl, by first | rfl | trivial⟩
    · rw [if_neg (by omega)]
      have h1' : ¬ (k : Int) < 1 := by omega
      have h2' : 16 < (k : Int) := by omega
      go_enter Tryz.func65, Tryz.ntmps65
      go_wp2_with (go_at_call 87; refine HF.out.mono ?_; rintro e w' ⟨rfl, hw'⟩; have hw2 := hw'.symm; subst hw2)
      go_ret
      exact ⟨rfl, by first | rfl | trivial⟩
  · rw [if_neg (by omega)]
    have h1' : (k : Int) < 1 := by omega
    go_enter Tryz.func65, Tryz.ntmps65
    go_wp2_with (go_at_call 87; refine HF.out.mono ?_; rintro e w' ⟨rfl, hw'⟩; have hw2 := hw'.symm; subst hw2)
    go_ret
    exact ⟨rfl, by first | rfl | trivial⟩
end
/-! ### A fuse for all -/
section
variable {w w0 wr : World} {T : Nat → Prop} {k : Nat} {D : Nat → Dv} {Z Z2 : Nat → Nat × Bool} {q b : Nat} {p : Nat → Nat} {i : Nat}
end
section
variable {w w1 : World} {T : Nat → Prop} {k : Nat} {p : Nat → Nat} {d : Nat → Pd} {f : Fs}
end
end Go.Proofs.YtklchjfkkbpipaaGreatDoor

/- What fan makes of drives, as mathematics: files staged and finished, deleted, committed. -/
namespace Go.Proofs.YtklchjfkkbpipaaGreatDoor
open Go

def tmpN (s : Nm) : Nm := [116, 109, 112, 47] ++ s
/-- A file: its name and its bytes. -/
abbrev Fl := Nm × List Nat
structure FS where
  d : Nat → Pd
  f : Fs
abbrev Op3 := Pd → Fs → Fl → Nat × Pd × Fs
def stg : Op3 := fun d f x => if (d.write f (tmpN x.1) x.2).1 = 0 then (d.write f (tmpN x.1) x.2).2.1.sync (d.write f (tmpN x.1) x.2).2.2 (tmpN x.1) else d.write f (tmpN x.1) x.2
def fin : Op3 := fun d f x => d.rename f (tmpN x.1) x.1
/-- The same for files, up to the first that answers an error. -/
def forL (op : Op3) : List Fl → Pd → Fs → Nat × Pd × Fs
  | [], d, f => (0, d, f)
  | x :: r, d, f => if (op d f x).1 = 0 then forL op r (op d f x).2.1 (op d f x).2.2 else op d f x
/-- .. for n drives from i on, of those that are well; whether one broke the call, which are well, and the drives. -/
def forD (op : Op3) (fl : Nat → List Fl) : (n i : Nat) → (Nat → Bool) → FS → Bool × (Nat → Bool) × FS
  | 0, _, wl, X => (false, wl, X)
  | n + 1, i, wl, X =>
    if wl i then
      (if (forL op (fl i) (X.d i) X.f).1 = 11 then (true, wl, ⟨upd X.d i (forL op (fl i) (X.d i) X.f).2.1, (forL op (fl i) (X.d i) X.f).2.2⟩)
       else forD op fl n (i + 1) (if (forL op (fl i) (X.d i) X.f).1 = 0 then wl else upd wl i false) ⟨upd X.d i (forL op (fl i) (X.d i) X.f).2.1, (forL op (fl i) (X.d i) X.f).2.2⟩)
    else forD op fl n (i + 1) wl X
/-- Files are deleted of a drive: whether it broke the call, how many went so far. -/
def delL : List Nm → Pd → Fs → Nat → Bool × Nat × Pd × Fs
  | [], d, f, n => (false, n, d, f)
  | s :: r, d, f, n => if (d.delete f s).1 = 11 then (true, n, (d.delete f s).2.1, (d.delete f s).2.2) else delL r (d.delete f s).2.1 (d.delete f s).2.2 (if (d.delete f s).1 = 0 then n + 1 else n)
/-- .. of n drives from i on, those that nm names for it (its error with them). -/
def delD (nm : Nat → Pd → Fs → Nat × List Nm) : (m i : Nat) → Nat → FS → Bool × Nat × FS
  | 0, _, n, X => (false, n, X)
  | m + 1, i, n, X =>
    if (nm i (X.d i) X.f).1 = 11 then (true, n, X)
    else if (delL (nm i (X.d i) X.f).2 (X.d i) X.f n).1 then (true, (delL (nm i (X.d i) X.f).2 (X.d i) X.f n).2.1, ⟨upd X.d i (delL (nm i (X.d i) X.f).2 (X.d i) X.f n).2.2.1, (delL (nm i (X.d i) X.f).2 (X.d i) X.f n).2.2.2⟩)
    else delD nm m (i + 1) (delL (nm i (X.d i) X.f).2 (X.d i) X.f n).2.1 ⟨upd X.d i (delL (nm i (X.d i) X.f).2 (X.d i) X.f n).2.2.1, (delL (nm i (X.d i) X.f).2 (X.d i) X.f n).2.2.2⟩
/-- The staged files of those that are meant. -/
def unsN (fl : Nat → List Fl) (meant : Nat → Bool) : Nat → Pd → Fs → Nat × List Nm := fun i _ _ => (0, if meant i then (fl i).map fun x => tmpN x.1 else [])
def cntW (wl : Nat → Bool) : Nat → Nat
  | 0 => 0
  | n + 1 => cntW wl n + (if wl n then 1 else 0)
/-- Commit, once nothing stands against it. -/
def com (fl : Nat → List Fl) (k : Nat) (need : Int) (X : FS) : Nat × (Nat → Bool) × FS :=
  if (forD stg fl k 0 (fun _ => true) X).1 then (11, fun _ => false, (forD stg fl k 0 (fun _ => true) X).2.2)
  else if (cntW (forD stg fl k 0 (fun _ => true) X).2.1 k : Int) < need then
    ((if (delD (unsN fl fun _ => true) k 0 0 (forD stg fl k 0 (fun _ => true) X).2.2).1 then 11 else 10), fun _ => false, (delD (unsN fl fun _ => true) k 0 0 (forD stg fl k 0 (fun _ => true) X).2.2).2.2)
  else if (forD fin fl k 0 (forD stg fl k 0 (fun _ => true) X).2.1 (forD stg fl k 0 (fun _ => true) X).2.2).1 then (11, fun _ => false, (forD fin fl k 0 (forD stg fl k 0 (fun _ => true) X).2.1 (forD stg fl k 0 (fun _ => true) X).2.2).2.2)
  else ((if (delD (unsN fl fun i => !(forD fin fl k 0 (forD stg fl k 0 (fun _ => true) X).2.1 (forD stg fl k 0 (fun _ => true) X).2.2).2.1 i) k 0 0 (forD fin fl k 0 (forD stg fl k 0 (fun _ => true) X).2.1 (forD stg fl k 0 (fun _ => true) X).2.2).2.2).1 then 11 else 0),
    (forD fin fl k 0 (forD stg fl k 0 (fun _ => true) X).2.1 (forD stg fl k 0 (fun _ => true) X).2.2).2.1,
    (delD (unsN fl fun i => !(forD fin fl k 0 (forD stg fl k 0 (fun _ => true) X).2.1 (forD stg fl k 0 (fun _ => true) X).2.2).2.1 i) k 0 0 (forD fin fl k 0 (forD stg fl k 0 (fun _ => true) X).2.1 (forD stg fl k 0 (fun _ => true) X).2.2).2.2).2.2)
/-- Why files may not be committed. -/
def okFl : List Nm → List Fl → Bool
  | _, [] => true
  | seen, x :: r => (okNm x.1 && (!([116, 109, 112, 47] : Nm).isPrefixOf x.1 && okNm (tmpN x.1))) && (!seen.contains x.1 && okFl (seen ++ [x.1]) r)
def comE (k : Nat) (fl : List (List Fl)) (need : Int) : Nat :=
  if ckD k ≠ 0 then ckD k else if fl.length ≠ k ∨ need < 1 ∨ (k : Int) < need then 2 else if fl.any fun l => decide (8 < l.length) then 3 else if fl.all fun l => okFl [] l then 0 else 13

/-- No more files than a, no more changes than b. -/
def Bnd (a b : Nat) (d : Pd) : Prop := d.F.length ≤ a ∧ d.ops ≤ b
theorem Bnd.mono {a b a' b' : Nat} {d : Pd} (h : Bnd a b d) (ha : a ≤ a') (hb : b ≤ b') : Bnd a' b' d := ⟨Nat.le_trans h.1 ha, Nat.le_trans h.2 hb⟩
theorem bnd_chg {a b : Nat} {d : Pd} (h : Bnd a b d) (f : Fs) {F : List (Nm × Fi)} (hF : F.length ≤ d.F.length + 1) : Bnd (a + 1) (b + 1) (d.chg f F).2.1 := by
  have := h.1; have := h.2
  unfold Pd.chg; split
  · exact ⟨by show F.length ≤ a + 1; omega, by show d.ops + 1 ≤ b + 1; omega⟩
  · exact h.mono (by omega) (by omega)
theorem bnd_chg0 {a b : Nat} {d : Pd} (h : Bnd a b d) (f : Fs) {F : List (Nm × Fi)} (hF : F.length ≤ d.F.length) : Bnd a (b + 1) (d.chg f F).2.1 := by
  have := h.1; have := h.2
  unfold Pd.chg; split
  · exact ⟨by show F.length ≤ a; omega, by show d.ops + 1 ≤ b + 1; omega⟩
  · exact h.mono (by omega) (by omega)
theorem bnd_write {a b : Nat} {d : Pd} (h : Bnd a b d) (f : Fs) (s : Nm) (x : List Nat) : Bnd (a + 1) (b + 1) (d.write f s x).2.1 := by
  unfold Pd.write; split
  · exact h.mono (by omega) (by omega)
  · split
    · exact h.mono (by omega) (by omega)
    · exact bnd_chg h f (put_len _ _ _)
theorem bnd_sync {a b : Nat} {d : Pd} (h : Bnd a b d) (f : Fs) (s : Nm) : Bnd (a + 1) (b + 1) (d.sync f s).2.1 := by
  unfold Pd.sync; split
  · exact h.mono (by omega) (by omega)
  · split
    · exact h.mono (by omega) (by omega)
    · exact bnd_chg h f (put_len _ _ _)
theorem bnd_rename {a b : Nat} {d : Pd} (h : Bnd a b d) (f : Fs) (s t : Nm) : Bnd (a + 1) (b + 1) (d.rename f s t).2.1 := by
  unfold Pd.rename; split
  · exact h.mono (by omega) (by omega)
  · split
    · exact h.mono (by omega) (by omega)
    · exact bnd_chg h f (by have := put_len (gdel d.F s) t ‹_›; have := len_del d.F s; omega)
theorem bnd_delete {a b : Nat} {d : Pd} (h : Bnd a b d) (f : Fs) (s : Nm) : Bnd a (b + 1) (d.delete f s).2.1 := by
  unfold Pd.delete; split
  · exact h.mono (by omega) (by omega)
  · split
    · exact h.mono (by omega) (by omega)
    · exact bnd_chg0 h f (len_del _ _)
theorem bnd_stg {a b : Nat} {d : Pd} (h : Bnd a b d) (f : Fs) (x : Fl) : Bnd (a + 2) (b + 2) (stg d f x).2.1 := by
  unfold stg; split
  · exact bnd_sync (bnd_write h f _ _) _ _
  · exact (bnd_write h f _ _).mono (by omega) (by omega)
theorem bnd_fin {a b : Nat} {d : Pd} (h : Bnd a b d) (f : Fs) (x : Fl) : Bnd (a + 2) (b + 2) (fin d f x).2.1 := (bnd_rename h f _ _).mono (by omega) (by omega)
theorem stg_sm (d : Pd) (f : Fs) (x : Fl) : (stg d f x).2.2.isSome = f.isSome := by
  unfold stg; split
  · rw [sync_sm, write_sm]
  · exact write_sm _ _ _ _
theorem fin_sm (d : Pd) (f : Fs) (x : Fl) : (fin d f x).2.2.isSome = f.isSome := rename_sm _ _ _ _
/-- An answer is a small number. -/
theorem chg_cd (d : Pd) (f : Fs) (F : List (Nm × Fi)) : (d.chg f F).1 ≤ 13 := by unfold Pd.chg; split <;> simp
theorem ans_cd (d : Pd) (f : Fs) (ns : List Nm) : d.ans f ns ≤ 13 := by unfold Pd.ans; split <;> (try split) <;> (try split) <;> simp
theorem write_cd (d : Pd) (f : Fs) (s : Nm) (x : List Nat) : (d.write f s x).1 ≤ 13 := by
  unfold Pd.write; split
  · exact ans_cd _ _ _
  · split
    · simp
    · exact chg_cd _ _ _
theorem sync_cd (d : Pd) (f : Fs) (s : Nm) : (d.sync f s).1 ≤ 13 := by
  unfold Pd.sync; split
  · exact ans_cd _ _ _
  · split
    · simp
    · exact chg_cd _ _ _
theorem rename_cd (d : Pd) (f : Fs) (s t : Nm) : (d.rename f s t).1 ≤ 13 := by
  unfold Pd.rename; split
  · exact ans_cd _ _ _
  · split
    · simp
    · exact chg_cd _ _ _
theorem delete_cd (d : Pd) (f : Fs) (s : Nm) : (d.delete f s).1 ≤ 13 := by
  unfold Pd.delete; split
  · exact ans_cd _ _ _
  · split
    · simp
    · exact chg_cd _ _ _
theorem stg_cd (d : Pd) (f : Fs) (x : Fl) : (stg d f x).1 ≤ 13 := by
  unfold stg; split
  · exact sync_cd _ _ _
  · exact write_cd _ _ _ _
theorem fin_cd (d : Pd) (f : Fs) (x : Fl) : (fin d f x).1 ≤ 13 := rename_cd _ _ _ _
end Go.Proofs.YtklchjfkkbpipaaGreatDoor

/- staged, finish, stage, and what else is done to one drive. -/
namespace Go.Proofs.YtklchjfkkbpipaaGreatDoor
open Go Go.RowKit

theorem tmp_cat (s : Nm) (w : World) (hs : s.length ≤ 1000) : (binOp .add 9 (.string ⟨#[116, 109, 112, 47]⟩) (sv s)).run Tryz.prog w = .ok (sv (tmpN s)) w := by
  rw [binOp_string_add]
  have := run_string_add_lists (P := Tryz.prog) w [116, 109, 112, 47] s (by simp) (by omega)
  simpa [tmpN] using this
theorem staged_any (s : Nm) (w : World) (hs : s.length ≤ 1000) : Calls Tryz.prog 128 #[sv s] w fun e w' => e = .returned (sv (tmpN s)) ∧ w' = w := by
  have hc := fun w => tmp_cat s w hs
  go_enter Tryz.func128, Tryz.ntmps128
  go_wp2
  go_ret
  exact ⟨rfl, rfl⟩
section
variable {w : World} {S : Nat → Prop} {p m : Nat} {fu : Option Nat} {d : Pd} {L : List (Nm × Ent)}
theorem Done.then {w1 : World} {r1 r2 : Nat × Pd × Fs} {e1 : Ending} (h : Done w S p fu r1 e1 w1) {g : FuncId} {args : Array Value} (hc : ∀ S2 m L, DrC w1 S2 p m fu r1.2.1 L → FuAt w1 S2 fu r1.2.2 → Calls Tryz.prog g args w1 (Done w1 S2 p fu r2)) :
    Calls Tryz.prog g args w1 (Done w S p fu r2) := by
  obtain ⟨_, S2, hg, ⟨m, L, hd⟩, hf, ho⟩ := h
  refine (hc S2 m L hd hf).mono ?_
  rintro e w2 ⟨h1, S3, hg3, hd3, hf3, ho3⟩
  refine ⟨h1, S3, ⟨fun b hb => hg3.1 b (hg.1 b hb), fun b hb => (hg3.2 b hb).elim (hg.2 b) (fun h => Or.inr (Nat.le_trans ho.size h))⟩, hd3, hf3, ho.then ho3 fun b hb hx => ?_⟩
  rcases hx with hx | hx
  · exact (hg.2 b hx).elim Or.inl (fun h => by omega)
  · exact Or.inr hx
theorem finish_any (h : DrC w S p m fu d L) {f : Fs} (hf : FuAt w S fu f) (s : Nm) (hs : s.length ≤ 1000) (ho : d.ops < 1000000000000) (hl : d.F.length < 1000000000000) :
    Calls Tryz.prog 78 #[ptr p, sv s] w (Done w S p fu (d.rename f (tmpN s) s)) := by
  have HR := hid (rename_any h hf (tmpN s) s (by simp [tmpN, maxLen]; omega) (by simp [maxLen]; omega) ho hl)
  clear h hf
  generalize d.rename f (tmpN s) s = r at HR ⊢
  go_enter Tryz.func78, Tryz.ntmps78
  go_wp2_with (first
    | (go_at_call 128; refine (staged_any s _ hs).mono ?_; rintro e w' ⟨rfl, hw'⟩; have hw2 := hw'.symm; subst hw2)
    | (go_at_call 131; refine HR.out.mono ?_; rintro e w' ⟨rfl, hd⟩; have HD := hid hd; clear hd))
  go_ret
  exact ⟨rfl, HD.out⟩
theorem commit2_any (h : DrC w S p m fu d L) {f : Fs} (hf : FuAt w S fu f) (x : Fl) (po : Option Addr) (n c : Nat) (hs : x.1.length ≤ 1000) (ho : d.ops < 1000000000000) (hl : d.F.length < 1000000000000) :
    Calls Tryz.prog 77 #[ptr p, .agg #[sv x.1, .slice po n c]] w (Done w S p fu (fin d f x)) := by
  have HR := hid ((finish_any (h.alloc (.cells #[sv x.1, .slice po n c] 66)) (hf.alloc _) x.1 hs ho hl).mono fun e w' hd => Done.from1 hd)
  clear h hf
  have e : fin d f x = d.rename f (tmpN x.1) x.1 := rfl
  rw [e]
  clear e
  generalize d.rename f (tmpN x.1) x.1 = r at HR ⊢
  go_enter Tryz.func77, Tryz.ntmps77
  go_wp2_with (go_at_call 78; refine HR.out.mono ?_; rintro e w' ⟨rfl, hd⟩; have HD := hid hd; clear hd)
  go_ret
  exact ⟨rfl, HD.out⟩
set_option maxHeartbeats 1000000 in
theorem stage_any (h : DrC w S p m fu d L) {f : Fs} (hf : FuAt w S fu f) (x : Fl) (po : Option Addr) (c : Nat) (hs : x.1.length ≤ 1000) (h8 : ∀ y ∈ x.2, y < 256) (hx : BAt w po x.2) (hn : x.2.length ≤ 1000000) (ho : d.ops < 100000000000) (hl : d.F.length < 100000000000) :
    Calls Tryz.prog 73 #[ptr p, .agg #[sv x.1, .slice po x.2.length c]] w (Done w S p fu (stg d f x)) := by
  have hb0 : Below w.heap.size w (w.alloc (.cells #[sv x.1, .slice po x.2.length c] 66)) := (Below.refl _ _).alloc (Nat.le_refl _) _
  have HW := hid (fun n => (write_any ((h.alloc (.cells #[sv x.1, .slice po x.2.length c] 66)).drewN n) ((hf.alloc (.cells #[sv x.1, .slice po x.2.length c] 66)).drewN n) (tmpN x.1) (by simp [tmpN, maxLen]; omega) po c x.2 h8 ((hx.keepB hb0).keepB (below_drewN _ n)) (by omega) (by omega) (by omega)))
  have hbx := CAt.made w #[sv x.1, .slice po x.2.length c] 66
  have hsz : (w.alloc (.cells #[sv x.1, .slice po x.2.length c] 66)).heap.size = w.heap.size + 1 := by simp
  have hbn : Bnd 100000000000 100000000000 d := ⟨by omega, by omega⟩
  have B1 := bnd_write hbn f (tmpN x.1) x.2
  have e0 : stg d f x = if (d.write f (tmpN x.1) x.2).1 = 0 then (d.write f (tmpN x.1) x.2).2.1.sync (d.write f (tmpN x.1) x.2).2.2 (tmpN x.1) else d.write f (tmpN x.1) x.2 := rfl
  have hcd := write_cd d f (tmpN x.1) x.2
  have hl0 : (tmpN x.1).length ≤ maxLen := by simp [tmpN, maxLen]; omega
  have HT : Hid (∀ n w1, Done ((w.alloc (.cells #[sv x.1, .slice po x.2.length c] 66)).drewN n) S p fu (d.write f (tmpN x.1) x.2) (.returned (.int .i64 ((d.write f (tmpN x.1) x.2).1 : Int))) w1 → CAt w1 w.heap.size #[sv x.1, .slice po x.2.length c] 66) := fun n w1 ⟨_, S2, hg, _, _, ho⟩ => by
    refine hbx.keep ((ho.block _ (by rw [show ((w.alloc (.cells #[sv x.1, .slice po x.2.length c] 66)).drewN n).heap.size = _ from hsz]; omega) fun hS => ?_).trans rfl)
    rcases hS with hS | hS
    · have := h.lt _ hS; omega
    · have := hf.lt _ hS; omega
  have HD : Hid (∀ n w1 e, Done ((w.alloc (.cells #[sv x.1, .slice po x.2.length c] 66)).drewN n) S p fu (d.write f (tmpN x.1) x.2) e w1 → Done w S p fu (d.write f (tmpN x.1) x.2) e w1) := fun n w1 e hd => Done.from (below_on _ _ hb0 (below_drewN _ n)) hd
  have HY : Hid (∀ w1 e, Done w S p fu (d.write f (tmpN x.1) x.2) e w1 → Calls Tryz.prog 129 #[ptr p, sv (tmpN x.1)] w1 (Done w S p fu ((d.write f (tmpN x.1) x.2).2.1.sync (d.write f (tmpN x.1) x.2).2.2 (tmpN x.1)))) := fun w1 e hd =>
    hd.then fun S2 m L hdr hfu => sync_any hdr hfu (tmpN x.1) hl0 (by have := B1.2; omega) (by have := B1.1; omega)
  generalize hr2 : (d.write f (tmpN x.1) x.2).2.1.sync (d.write f (tmpN x.1) x.2).2.2 (tmpN x.1) = r2 at *
  generalize d.write f (tmpN x.1) x.2 = r at *
  have HS := fun W => staged_any x.1 W hs
  have l0 : (w.alloc (.cells #[sv x.1, .slice po x.2.length c] 66)).cell? ⟨w.heap.size, 0, none⟩ = some (sv x.1) := hbx.cell 0
  have l1 : (w.alloc (.cells #[sv x.1, .slice po x.2.length c] 66)).cell? ⟨w.heap.size, 1, none⟩ = some (.slice po x.2.length c) := hbx.cell 1
  have HE := hid e0
  clear h hf hx hbx e0 hr2 hb0 hbn B1 h8 hsz
  by_cases hz : r.1 = 0
  · have hR : stg d f x = r2 := by rw [HE.out, if_pos hz]
    have hz' : ((r.1 : Nat) : Int) = 0 := by omega
    rw [hR]
    clear hR HE
    go_enter Tryz.func73, Tryz.ntmps73
    go_wp2_with (fail)
    generalize w.alloc (.cells #[sv x.1, .slice po x.2.length c] 66) = w0 at *
    refine wp_region_tail 6 (by kernel_rfl) rfl (by kernel_rfl) ?_
    dsimp only [List.take]
    repeat (go_big_quiet_step (exact Calls.quiet_of_same (HS _)))
    refine wpQuiet_nil ?_
    intro nr
    clear l0 l1
    go_wp2_with (first
      | (go_at_call 24; refine (HW.out nr).mono ?_; intro e w1 hd; obtain rfl := hd.1; have HD1 := hid (HD.out nr w1 _ hd); have c0 : w1.cell? ⟨w.heap.size, 0, none⟩ = some (sv x.1) := (HT.out nr w1 hd).cell 0; clear hd; rw [hz'])
      | (go_at_call 128; refine (HS _).mono ?_; rintro e w' ⟨rfl, hw'⟩; have hw2 := hw'.symm; subst hw2)
      | (go_at_call 129; refine (HY.out _ _ HD1.out).mono ?_; intro e w2 hd; obtain rfl := hd.1; have HD2 := hid hd; clear hd))
    go_ret
    exact HD2.out
  · have hR : stg d f x = r := by rw [HE.out, if_neg hz]
    have hz' : ¬ ((r.1 : Nat) : Int) = 0 := by omega
    rw [hR]
    clear hR HE
    go_enter Tryz.func73, Tryz.ntmps73
    go_wp2_with (fail)
    generalize w.alloc (.cells #[sv x.1, .slice po x.2.length c] 66) = w0 at *
    refine wp_region_tail 6 (by kernel_rfl) rfl (by kernel_rfl) ?_
    dsimp only [List.take]
    repeat (go_big_quiet_step (exact Calls.quiet_of_same (HS _)))
    refine wpQuiet_nil ?_
    intro nr
    clear l0 l1
    go_wp2_with (go_at_call 24; refine (HW.out nr).mono ?_; intro e w1 hd; obtain rfl := hd.1; have HD1 := hid (HD.out nr w1 _ hd); clear hd)
    go_ret
    exact HD1.out
end
end Go.Proofs.YtklchjfkkbpipaaGreatDoor

/- The drives that have not failed: an iterator over another one. -/
namespace Go.Proofs.YtklchjfkkbpipaaGreatDoor
open Go Go.RowKit Go.Shelf

theorem CAt.kpl {A C : World} {B b : Nat} {cs : Array Value} {t : TypeId} (h : CAt A b cs t) (hk : KpL B A C) (hB : B ≤ b) (ht : prO (.cells cs t (0, 0)) = true) : CAt C b cs t := hk.same b _ hB h ht
theorem run_mf (P : Program) (fn : Fn) (first cap : Array Value) (w : World) : (Instr.makeFunc fn first cap).run P w = .ok (.func fn first cap) w := rfl
/-- A Commit's own struct: its drives, its files, which are well. -/
structure CmM (W : World) (Bc g : Nat) (lv fv : Value) (bw cw k : Nat) (p : Nat → Nat) : Prop where
  bc : CAt W Bc #[ptr g] 174
  cg : CAt W g #[lv, fv, .slice (some ⟨bw, 0, none⟩) k cw] 120
  ls : LsAt W (fun _ => False) lv k p
  wb : ∀ j, j < k → ∃ b, W.cell? ⟨bw, j, none⟩ = some (.bool b)
set_option maxHeartbeats 1000000 in
set_option maxRecDepth 100000 in
theorem working_it (B Bc g : Nat) (lv fv : Value) (bw cw k : Nat) (p : Nat → Nat) (I : Nat → World → Prop) (hk : k ≤ 1000000) (hm : ∀ i W, I i W → CmM W Bc g lv fv bw cw k p)
    (hskip : ∀ i W, i < k → I i W → W.cell? ⟨bw, i, none⟩ = some (.bool false) → I (i + 1) W) :
    ItC Tryz.prog 151 #[ptr Bc] k (eEnc p) (fun i W => W.cell? ⟨bw, i, none⟩ = some (.bool true)) I B := by
  intro l W1 J Jx _ hJ hJx hJI hJJ hY h0
  have HK := hid hk
  have m0 := hm 0 W1 (hJI 0 W1 h0)
  obtain ⟨po, c, rfl⟩ := m0.ls.form
  have hbc := m0.bc.lt
  have hgl := m0.cg.lt
  have c0 : W1.cell? ⟨Bc, 0, none⟩ = some (ptr g) := m0.bc.cell 0
  have c1 : W1.cell? ⟨g, 0, none⟩ = some (.slice po k c) := m0.cg.cell 0
  have hmf := run_mf Tryz.prog
  clear m0
  refine (callsIn_wide (n := 0)).1 ?_
  refine callsIn_of_wp_marks Tryz.func151 rfl trivial ?_ rfl
  refine wpIn_wide.2 ?_
  simp only [Tryz.ntmps151, List.size_toArray, List.length_cons, List.length_nil, Nat.reduceAdd, Nat.reduceSub, Array.replicate_succ, Array.replicate_zero, List.push_toArray, List.append_toArray, List.nil_append, List.cons_append]
  go_wp2_with (go_at_call 67; refine (each_any _ _ _ _).mono ?_; rintro e w5 ⟨rfl, rfl⟩)
  refine (wpIn_wide (n := 0)).1 ?_
  have by0 := CAt.made W1 #[.func (.yield l) #[] #[]] 163
  have be0 := CAt.made (W1.alloc (.cells #[.func (.yield l) #[] #[]] 163)) #[.slice po k c] 23
  rw [size_al] at be0
  have by1 := by0.old (.cells #[.slice po k c] 23)
  have hj1 : J 0 ((W1.alloc (.cells #[.func (.yield l) #[] #[]] 163)).alloc (.cells #[.slice po k c] 23)) := hJ 0 _ _ (hJ 0 _ _ h0 (Tn.alloc _ _ _)) (Tn.alloc _ _ _)
  have hsz : ((W1.alloc (.cells #[.func (.yield l) #[] #[]] 163)).alloc (.cells #[.slice po k c] 23)).heap.size = W1.heap.size + 2 := by simp
  generalize ((W1.alloc (.cells #[.func (.yield l) #[] #[]] 163)).alloc (.cells #[.slice po k c] 23)) = W2 at by1 be0 hj1 hsz ⊢
  clear by0 c0 c1
  refine range_plain (gf := 120) (lb := #[ptr (W1.heap.size + 1)]) rfl (enters_of Tryz.func120 (by kernel_rfl) rfl) k (eEnc p) (fun _ => rfl) (fun _ _ => True) (fun i W => J i W ∧ CAt W W1.heap.size #[.func (.yield l) #[] #[]] 163 ∧ CAt W (W1.heap.size + 1) #[.slice po k c] 23)
    (fun c W => c = .ret ∧ Jx W) (fun _ _ _ h _ => h) ?hI ?hIx ?h0 ?hseq ?asg ?assign ?body ?done ?stop
  case hI => exact fun i A C h ht => ⟨hJ i A C h.1 (ht.mono (by omega)), h.2.1.tn ht, h.2.2.tn ht⟩
  case hIx => exact fun c A C h ht => ⟨h.1, hJx A C h.2 (ht.mono (by omega))⟩
  case h0 => exact ⟨hj1, by1, be0⟩
  case hseq => exact each_it _ _ _ k p _ hk fun i W h => ⟨h.2.2, (hm i W (hJI i W h.1)).ls⟩
  case assign =>
    intro l2 i W K hik hK
    unfold eEnc
    refine wpIn_seq (round_list (fun _ _ h => h) (by kernel_rfl) ?_)
    go_wp2
    refine round_list (fun _ _ h => h) (by kernel_rfl) ?_
    go_wp2
    exact hK
  case body =>
    rintro l2 i W hik ⟨hj, hby, hbe⟩ _
    have M := hm i W (hJI i W hj)
    have c0 : W.cell? ⟨Bc, 0, none⟩ = some (ptr g) := M.bc.cell 0
    have c2 : W.cell? ⟨g, 2, none⟩ = some (.slice (some ⟨bw, 0, none⟩) k cw) := M.cg.cell 2
    have cy : W.cell? ⟨W1.heap.size, 0, none⟩ = some (.func (.yield l) #[] #[]) := hby.cell 0
    obtain ⟨b, cb⟩ := M.wb i hik
    have hik' : (i : Int) < (k : Int) := by omega
    cases b
    · have fin : J (i + 1) W := hJJ i (i + 1) W hj (hskip i W hik (hJI i W hj) cb)
      have FIN := hid (And.intro fin (And.intro hby hbe))
      clear fin M hj hby hbe hY hm hJ hJx hJI hJJ hskip
      refine wpIn_block (wpIn_seq (round_list (fun _ _ h => h) (by kernel_rfl) ?_))
      go_wp2
      refine wpIn_cond_false rfl (wpIn_skip ?_)
      exact ⟨KpL.refl _ _, FIN.out⟩
    · have HY := hid (hY i W hik hj cb)
      have HBY := hid hby
      have HBE := hid hbe
      clear M hj hby hbe hY hm hJ hJx hJI hJJ hskip
      refine wpIn_block (wpIn_seq (round_yield (m := 11) (fun _ _ h => h) (by kernel_rfl) ?_))
      dsimp only [List.take]
      go_wp2
      refine yield_at (vs := eEnc p i) rfl rfl (by simp [eEnc, Act.eval]) (by kernel_rfl) HY.out ?_
      rintro e W3 ⟨hk3, (⟨rfl, hJ3⟩ | ⟨rfl, hJx3⟩)⟩
      · refine ⟨_, rfl, list_rnd (fun ⟨_, _, q⟩ => q) _ _ _ (fun o ho => noDefer_at (ops := #[o]) (by simp at ho; rcases ho with rfl | rfl <;> kernel_rfl) (by simp)) ?_⟩
        go_wp2
        refine wpIn_cond_false rfl (wpIn_skip ?_)
        exact ⟨hk3.mono (by omega), hJ3, HBY.out.kpl hk3 (Nat.le_refl _) rfl, HBE.out.kpl hk3 (by omega) rfl⟩
      · refine ⟨_, rfl, list_rnd (fun ⟨_, _, q⟩ => q) _ _ _ (fun o ho => noDefer_at (ops := #[o]) (by simp at ho; rcases ho with rfl | rfl <;> kernel_rfl) (by simp)) ?_⟩
        go_wp2
        refine wpIn_cond_true rfl (wpIn_ret ?_)
        exact ⟨hk3.mono (by omega), rfl, hJx3⟩
  case done =>
    rintro D W hD ⟨hj, _, _⟩ hd
    refine ⟨by simp, .inl ⟨_, _, rfl, run_takeDeferred hd, ?_⟩⟩
    exact ⟨_, results_none rfl _ _ _, ⟨_, rfl⟩, .inl (hJ k _ _ hj (Tn.put _ (by omega) hd rfl))⟩
  case stop =>
    rintro D c W hD ⟨rfl, hj⟩ hd
    refine wpIn_ret ?_
    refine ⟨by simp, .inl ⟨_, _, rfl, run_takeDeferred hd, ?_⟩⟩
    exact ⟨_, results_none rfl _ _ _, ⟨_, rfl⟩, .inr (hJx _ _ hj (Tn.put _ (by omega) hd rfl))⟩
theorem working_any (g : Nat) (w : World) : Calls Tryz.prog 127 #[ptr g] w fun e w' => e = .returned (.func (.func 151) #[] #[ptr w.heap.size]) ∧ w' = w.alloc (.cells #[ptr g] 174) := by
  have hmf := run_mf Tryz.prog
  go_enter Tryz.func127, Tryz.ntmps127
  go_wp2
  go_ret
  exact ⟨rfl, rfl⟩
end Go.Proofs.YtklchjfkkbpipaaGreatDoor
