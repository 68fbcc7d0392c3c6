/- Texts laid into one: the remark ahead of each part says what is proved there. -/
import Derived.Test.YtklchjfkkbpipaaGreatDoorPaa
import Derived.Test.YtklchjfkkbpipaaGreatDoorPab
import Derived.Test.YtklchjfkkbpipaaGreatDoorPac
import Derived.Test.YtklchjfkkbpipaaGreatDoorPad
import Derived.Test.YtklchjfkkbpipaaGreatDoorPae
import Derived.Test.YtklchjfkkbpipaaGreatDoorPaf
import Derived.Test.YtklchjfkkbpipaaGreatDoorPag
import Derived.Test.YtklchjfkkbpipaaGreatDoorPah
import Derived.Test.YtklchjfkkbpipaaGreatDoorPai
import Derived.Test.YtklchjfkkbpipaaGreatDoorPaj
import Derived.Test.YtklchjfkkbpipaaGreatDoorPak
import Derived.Test.YtklchjfkkbpipaaGreatDoorPal
import Derived.Test.YtklchjfkkbpipaaGreatDoorPam
import Derived.Test.YtklchjfkkbpipaaGreatDoorPan
import Derived.Test.YtklchjfkkbpipaaGreatDoorPao
import Derived.Test.YtklchjfkkbpipaaGreatDoorRaa
import Derived.Test.YtklchjfkkbpipaaGreatDoorRab
/- Some sets of drives beside one another. -/
namespace Go.Proofs.YtklchjfkkbpipaaGreatDoor
open Go Go.RowKit Go.Shelf

def SomeAt2 (w w1 : World) (n size : Nat) (e : Ending) (w' : World) : Prop :=
  ∃ v p T, e = .returned (.tuple #[v, .bool true]) ∧ FA w w' T n p (fun _ => fresh size) none 0 ∧ LsAt w' T v n p ∧ Below w1.heap.size w1 w' ∧ (∀ b, T b → w1.heap.size ≤ b) ∧ ∀ b c, v = .slice (some ⟨b, 0, none⟩) n c → w1.heap.size ≤ b
theorem SmI.done2 {w w1 wr : World} {T : Nat → Prop} {n i : Nat} {p : Nat → Nat} {v : Value} (h : SmI w w1 wr T n i p v) : SomeAt2 w w1 i n (.returned (.tuple #[v, .bool true])) wr := by
  obtain ⟨v', p', T', e, h1, h2, h3, h4⟩ := h.done
  cases e
  exact ⟨v, p', T', rfl, h1, h2, h3, h4, fun b c e => (own_ge h.ow b (by rw [e]; rfl)).1⟩
set_option maxRecDepth 100000 in
theorem some_any2 (w w1 : World) (hb : Below w.heap.size w w1) (n size : Nat) (hn : n ≤ 20) (h1 : 1 ≤ size) (h2 : size ≤ 67108864) : Calls Tryz.prog 21 #[.int .i64 (n : Int), .int .i64 (size : Int)] w1 (SomeAt2 w w1 n size) := by
  have H0 : Hid (SmI w w1 w1 (fun _ => False) size 0 (fun _ => 0) (.slice none 0 0)) := ⟨FA.empty w w1 hb _ _, World.ownsRow_nil _ _ _ _, fun _ e => (by cases e), fun _ h => h.elim, Below.refl _ _, hb.size, fun _ => rfl⟩
  have HN := hid (fun W => new_ok size h1 h2 W)
  clear hb
  go_enter Tryz.func21, Tryz.ntmps21
  go_wp2
  go_loopw [6, 7] (fun v q wr => ∃ i T p, i ≤ n ∧ q = .int .i64 (i : Int) ∧ SmI w w1 wr T size i p v) (fun _ q _ => (1000 - intOf q).toNat)
  case atStart => exact ⟨0, _, _, Nat.zero_le _, rfl, H0.out⟩
  case round =>
    obtain ⟨i, T, p, hi, rfl, hI⟩ := hrel
    have HI := hid hI
    clear hI
    by_cases hlt : i < n
    · have hlt' : (i : Int) < (n : Int) := by omega
      have hi2 : (i : Int) < 1000 := by omega
      have hi3 : i ≤ 1000 := by omega
      obtain ⟨po, cc, hv⟩ := own_form HI.out.ow
      subst hv
      go_wp2_with (first
        | (go_at_call 13; refine (HN.out _).mono ?_; rintro e w2 ⟨q, rfl, hd, hb2⟩; obtain ⟨v4, w4, hrun, T4, p4, hS4⟩ := HI.out.new hd hb2 hi3; have HRUN := hid hrun; have HS4 := hid hS4; clear hd hb2 hrun hS4)
        | (at_builtin; refine wpList_append_run _ _ 23 rfl rfl _ _ v4 rfl rfl HRUN.out ?_))
      go_roundw
      case rel => exact ⟨i + 1, T4, p4, by omega, by go_num, HS4.out⟩
      case measure => simp [intOf]; omega
    · have hlt' : ¬ (i : Int) < (n : Int) := by omega
      have e : i = n := by omega
      subst e
      have HD := hid HI.out.done2
      obtain ⟨po, cc, hv⟩ := own_form HI.out.ow
      subst hv
      go_wp2
      go_ret2
      exact HD.out
/-- n sets of three drives each; the first c a of set a have crashed. -/
structure KF (w W : World) (n : Nat) (T : Nat → Nat → Prop) (lv : Nat → Value) (p : Nat → Nat → Nat) (X : Nat → FS) (c : Nat → Nat) (Z : Nat → Prop) : Prop where
  fa : ∀ a, a < n → FA w W (T a) 3 (p a) (X a).d (X a).f (c a)
  ls : ∀ a, a < n → LsAt W (T a) (lv a) 3 (p a)
  dj : ∀ a e, a < n → e < n → a ≠ e → ∀ b, T a b → ¬ T e b
  lj : ∀ a e, a < n → e < n → ∀ b q, lv a = .slice (some ⟨b, 0, none⟩) 3 q → ¬ T e b
  be : Below w.heap.size w W
  zt : ∀ b, Z b → b < W.heap.size ∧ ∀ a, a < n → ¬ T a b
def KX (w W : World) (n : Nat) (lv : Nat → Value) (p : Nat → Nat → Nat) (X : Nat → FS) (c : Nat → Nat) (Z : Nat → Prop) : Prop := ∃ T, KF w W n T lv p X c Z
section
variable {w W W' : World} {n : Nat} {T : Nat → Nat → Prop} {lv : Nat → Value} {p : Nat → Nat → Nat} {X : Nat → FS} {c : Nat → Nat} {Z : Nat → Prop}
theorem KF.below (h : KF w W n T lv p X c Z) (hb : Below W.heap.size W W') : KF w W' n T lv p X c Z :=
  ⟨fun a ha => (h.fa a ha).below hb, fun a ha => (h.ls a ha).keep (fun b hb' _ => hb.block b hb') (fun _ _ h => h), h.dj, h.lj, below_on _ _ h.be hb, fun b hz => ⟨Nat.lt_of_lt_of_le (h.zt b hz).1 hb.size, (h.zt b hz).2⟩⟩
theorem KX.below (h : KX w W n lv p X c Z) (hb : Below W.heap.size W W') : KX w W' n lv p X c Z := by obtain ⟨T, h⟩ := h; exact ⟨T, h.below hb⟩
theorem KX.alloc (h : KX w W n lv p X c Z) (o : Obj) : KX w (W.alloc o) n lv p X c Z := h.below ((Below.refl _ _).alloc (Nat.le_refl _) _)
theorem KX.be (h : KX w W n lv p X c Z) : Below w.heap.size w W := by obtain ⟨T, h⟩ := h; exact h.be
theorem lj_keep {v : Value} {T : Nat → Prop} {q : Nat → Nat} (hl : LsAt W T v 3 q) {Y : Nat → Prop} (ho : Only Y W W') (hL : ∀ b c, v = .slice (some ⟨b, 0, none⟩) 3 c → ¬ Y b) {T' : Nat → Prop} (hT : ∀ b, b < W.heap.size → T' b → T b) : LsAt W' T' v 3 q := by
  refine ⟨?_⟩
  rcases hl.ex with h1 | ⟨h0, b, c, h1, h2, h3⟩
  · exact .inl h1
  · have hb := cell_lt2 (h3 0 (by omega))
    exact .inr ⟨h0, b, c, h1, fun ht => h2 (hT b hb ht), fun j hj => (World.cell?_of_block (a := ⟨b, j, none⟩) (ho.block b hb (hL b c h1))).trans (h3 j hj)⟩
/-- A call of set a. -/
theorem KF.stepT (h : KF w W n T lv p X c Z) {a : Nat} (ha : a < n) {T' : Nat → Prop} {X' : FS} {c' : Nat} (hg : Grows W (T a) T') (hf : FA w W' T' 3 (p a) X'.d X'.f c') (ho : Only (T a) W W') : KF w W' n (upd T a T') lv p (upd X a X') (upd c a c') Z := by
  have hlt : ∀ e, e < n → ∀ b, T e b → b < W.heap.size := fun e he b hb => (h.fa e he).lt b hb
  have hTT : ∀ b, b < W.heap.size → T' b → T a b := fun b hb ht => (hg.2 b ht).elim id (fun hl => by omega)
  refine ⟨fun e he => ?_, fun e he => ?_, fun e e' he he' hne b hb hb' => ?_, fun e e' he he' b q hq hb => ?_, ?_, fun b hz => ⟨Nat.lt_of_lt_of_le (h.zt b hz).1 ho.size, fun e he ht => ?_⟩⟩
  · by_cases q : e = a
    · subst q; rw [upd_same, upd_same, upd_same]; exact hf
    · rw [upd_ne _ _ q, upd_ne _ _ q, upd_ne _ _ q]
      exact (h.fa e he).only ho (fun b hb hy => by have := (h.fa a ha).ge b hy; omega) (fun b hb => h.dj e a he ha q b hb)
  · by_cases q : e = a
    · subst q; rw [upd_same]; exact lj_keep (h.ls e he) ho (fun b c hq => h.lj e e he he b c hq) hTT
    · rw [upd_ne _ _ q]; exact lj_keep (h.ls e he) ho (fun b c hq => h.lj e a he ha b c hq) (fun _ _ h => h)
  · by_cases q : e = a
    · subst q; rw [upd_same] at hb; rw [upd_ne _ _ (Ne.symm hne)] at hb'
      exact h.dj e e' he he' hne b (hTT b (hlt e' he' b hb') hb) hb'
    · rw [upd_ne _ _ q] at hb
      by_cases q' : e' = a
      · subst q'; rw [upd_same] at hb'; exact h.dj e e' he he' hne b hb (hTT b (hlt e he b hb) hb')
      · rw [upd_ne _ _ q'] at hb'; exact h.dj e e' he he' hne b hb hb'
  · by_cases q' : e' = a
    · subst q'; rw [upd_same] at hb
      rcases (h.ls e he).ex with ⟨h0, _⟩ | ⟨h0, b', c', h1, h2, h3⟩
      · omega
      · rw [h1] at hq; cases hq
        exact h.lj e e' he ha b q h1 (hTT b (cell_lt2 (h3 0 (by omega))) hb)
    · rw [upd_ne _ _ q'] at hb; exact h.lj e e' he he' b q hq hb
  · exact ⟨ho.os.trans h.be.os, ho.tape.trans h.be.tape, ho.output.trans h.be.output, Nat.le_trans h.be.size ho.size, fun b hb => (ho.block b (Nat.lt_of_lt_of_le hb h.be.size) (fun hy => by have := (h.fa a ha).ge b hy; omega)).trans (h.be.block b hb)⟩
  · by_cases q : e = a
    · subst q; rw [upd_same] at ht; exact (h.zt b hz).2 e he (hTT b (h.zt b hz).1 ht)
    · rw [upd_ne _ _ q] at ht; exact (h.zt b hz).2 e he ht
theorem KF.step (h : KF w W n T lv p X c Z) {a : Nat} (ha : a < n) {T' : Nat → Prop} {X' : FS} {c' : Nat} (hg : Grows W (T a) T') (hf : FA w W' T' 3 (p a) X'.d X'.f c') (ho : Only (T a) W W') : KX w W' n lv p (upd X a X') (upd c a c') Z := ⟨_, h.stepT ha hg hf ho⟩
theorem KF.kept (h : KF w W n T lv p X c Z) {a : Nat} (ha : a < n) (ho : Only (T a) W W') : ∀ b, Z b → W'.heap[b]? = W.heap[b]? := fun b hz => ho.block b (h.zt b hz).1 ((h.zt b hz).2 a ha)
/-- What was made meanwhile is none of a drive. -/
theorem KX.more (h : KX w W n lv p X c Z) (hb : Below W.heap.size W W') : KX w W' n lv p X c (fun b => Z b ∨ (W.heap.size ≤ b ∧ b < W'.heap.size)) := by
  obtain ⟨T, h⟩ := h
  have h' := h.below hb
  exact ⟨T, h'.fa, h'.ls, h'.dj, h'.lj, h'.be, fun b hz => hz.elim (h'.zt b) (fun hz => ⟨hz.2, fun a ha ht => by have := (h.fa a ha).lt b ht; omega⟩)⟩
theorem KX.less {Z' : Nat → Prop} (h : KX w W n lv p X c Z) (hz : ∀ b, Z' b → Z b) : KX w W n lv p X c Z' := by
  obtain ⟨T, h⟩ := h
  exact ⟨T, h.fa, h.ls, h.dj, h.lj, h.be, fun b hb => h.zt b (hz b hb)⟩
theorem KX.start (w : World) (lv : Nat → Value) (p : Nat → Nat → Nat) (X : Nat → FS) (c : Nat → Nat) : KX w w 0 lv p X c (fun _ => False) := ⟨fun _ _ => False, fun _ h => absurd h (Nat.not_lt_zero _), fun _ h => absurd h (Nat.not_lt_zero _), fun _ _ h => absurd h (Nat.not_lt_zero _), fun _ _ h => absurd h (Nat.not_lt_zero _), Below.refl _ _, fun _ h => h.elim⟩
/-- One set more. -/
theorem KX.add (h : KX w W n lv p X c Z) {size : Nat} {e : Ending} (hs : SomeAt2 w W 3 size e W') : ∃ v q, e = .returned (.tuple #[v, .bool true]) ∧ KX w W' (n + 1) (upd lv n v) (upd p n q) (upd X n ⟨fun _ => fresh size, none⟩) (upd c n 0) Z := by
  obtain ⟨T, h⟩ := h
  obtain ⟨v, q, T', rfl, hf, hl, hb, hT, hv⟩ := hs
  have h' := h.below hb
  have hlt : ∀ e, e < n → ∀ b, T e b → b < W.heap.size := fun e he b hb => (h.fa e he).lt b hb
  have old : ∀ i, i < n + 1 → i ≠ n → i < n := fun i hi hn => by omega
  refine ⟨v, q, rfl, upd T n T', fun e he => ?_, fun e he => ?_, fun e e' he he' hne b hb1 hb2 => ?_, fun e e' he he' b x hq hb1 => ?_, h'.be, fun b hz => ⟨(h'.zt b hz).1, fun e he ht => ?_⟩⟩
  · by_cases z : e = n
    · subst z; simp only [upd_same]; exact hf
    · simp only [upd_ne _ _ z]; exact h'.fa e (old e he z)
  · by_cases z : e = n
    · subst z; simp only [upd_same]; exact hl
    · simp only [upd_ne _ _ z]; exact h'.ls e (old e he z)
  · by_cases z : e = n
    · subst z; rw [upd_same] at hb1; rw [upd_ne _ _ (Ne.symm hne)] at hb2
      have := hT b hb1; have := hlt e' (old e' he' (Ne.symm hne)) b hb2; omega
    · rw [upd_ne _ _ z] at hb1
      have h1 := hlt e (old e he z) b hb1
      by_cases z' : e' = n
      · subst z'; rw [upd_same] at hb2; have := hT b hb2; omega
      · rw [upd_ne _ _ z'] at hb2; exact h.dj e e' (old e he z) (old e' he' z') hne b hb1 hb2
  · by_cases z : e = n
    · subst z; rw [upd_same] at hq
      by_cases z' : e' = e
      · subst z'; rw [upd_same] at hb1
        rcases hl.ex with ⟨h0, _⟩ | ⟨h0, b', c', h1, h2, h3⟩
        · omega
        · rw [h1] at hq; cases hq; exact h2 hb1
      · rw [upd_ne _ _ z'] at hb1
        have := hv b x hq; have := hlt e' (old e' he' z') b hb1; omega
    · rw [upd_ne _ _ z] at hq
      by_cases z' : e' = n
      · subst z'; rw [upd_same] at hb1
        rcases (h.ls e (old e he z)).ex with ⟨h0, _⟩ | ⟨h0, b', c', h1, h2, h3⟩
        · omega
        · rw [h1] at hq; cases hq
          have := cell_lt2 (h3 0 (by omega)); have := hT b hb1; omega
      · rw [upd_ne _ _ z'] at hb1; exact h.lj e e' (old e he z) (old e' he' z') b x hq hb1
  · by_cases z : e = n
    · subst z; rw [upd_same] at ht; have := hT b ht; have := (h.zt b hz).1; omega
    · rw [upd_ne _ _ z] at ht; exact (h.zt b hz).2 e (old e he z) ht
theorem KX.made (h : KX w W n lv p X c Z) (size : Nat) (h1 : 1 ≤ size) (h2 : size ≤ 67108864) : Calls Tryz.prog 21 #[.int .i64 3, .int .i64 (size : Int)] W fun e W' => ∃ v q, e = .returned (.tuple #[v, .bool true]) ∧ KX w W' (n + 1) (upd lv n v) (upd p n q) (upd X n ⟨fun _ => fresh size, none⟩) (upd c n 0) Z :=
  (some_any2 w W h.be 3 size (by omega) h1 h2).mono fun _ _ hs => h.add hs
theorem KX.cell (h : KX w W n lv p X c Z) {a : Nat} (ha : a < n) : ∃ b q, lv a = .slice (some ⟨b, 0, none⟩) 3 q ∧ ∀ j, j < 3 → W.cell? ⟨b, j, none⟩ = some (ptr (p a j)) := by
  obtain ⟨T, h⟩ := h
  rcases (h.ls a ha).ex with ⟨h0, _⟩ | ⟨h0, b, c, h1, _, h3⟩
  · omega
  · exact ⟨b, c, h1, h3⟩
theorem KX.offline (h : KX w W n lv p X c Z) {a i : Nat} (ha : a < n) (hi : i < 3) (x : Bool) : Calls Tryz.prog 25 #[ptr (p a i), .bool x] W fun e W' => e = .returned (.int .i64 0) ∧ KX w W' n lv p (upd X a ⟨upd (X a).d i { (X a).d i with offl := x }, (X a).f⟩) (upd c a (c a)) Z ∧ ∀ b, Z b → W'.heap[b]? = W.heap[b]? := by
  obtain ⟨T, h⟩ := h
  refine ((h.fa a ha).setA hi fun fu S m L hd => offline_any hd x).mono ?_
  rintro e W' ⟨rfl, T', hg, hf, ho, _⟩
  exact ⟨rfl, h.step ha hg hf ho, h.kept ha ho⟩
theorem KX.fuse (h : KX w W n lv p X c Z) {a : Nat} (ha : a < n) (hc : c a = 0) (k : Nat) (hk : k ≤ 1000) : Calls Tryz.prog 30 #[lv a, .int .i64 (k : Int)] W fun e W' => e = .returned (.int .i64 0) ∧ KX w W' n lv p (upd X a ⟨fun i => ((X a).d i).lit (X a).f, some (k, false)⟩) (upd c a 0) Z ∧ ∀ b, Z b → W'.heap[b]? = W.heap[b]? := by
  obtain ⟨T, h⟩ := h
  have hfa := h.fa a ha
  rw [hc] at hfa
  refine (fuse_fa hfa (h.ls a ha) (by omega) k (by omega)).mono ?_
  rintro e W' ⟨rfl, T', hg, hf, ho, _⟩
  exact ⟨rfl, h.step ha hg hf ho, h.kept ha ho⟩
theorem KX.crash (h : KX w W n lv p X c Z) {a i : Nat} (ha : a < n) (hi : c a = i) (hi3 : i < 3) (hl : ((X a).d i).F.length < 1000000000000) : Calls Tryz.prog 31 #[ptr (p a i), .slice none 0 0] W fun e W' => e = .returned (.int .i64 0) ∧ KX w W' n lv p (upd X a ⟨upd (X a).d i (((X a).d i).crash []), (X a).f⟩) (upd c a (i + 1)) Z ∧ ∀ b, Z b → W'.heap[b]? = W.heap[b]? := by
  obtain ⟨T, h⟩ := h
  have hfa := h.fa a ha
  rw [hi] at hfa
  refine (hfa.crash hi3 none 0 [] (.inl rfl) (by simp) hl).mono ?_
  rintro e W' ⟨rfl, T', hg, hf, ho, _⟩
  exact ⟨rfl, h.step ha hg hf ho, h.kept ha ho⟩
theorem KX.calm (h : KX w W n lv p X c Z) {a : Nat} (ha : a < n) (hc : c a = 3) : KX w W n lv p (upd X a ⟨(X a).d, none⟩) (upd c a 0) Z := by
  obtain ⟨T, h⟩ := h
  have hfa := h.fa a ha
  rw [hc] at hfa
  exact h.step ha (Grows.refl _ _) hfa.calm (Only.refl _ _)
theorem KX.commit (h : KX w W n lv p X c Z) (hE : Erh w) {a : Nat} (ha : a < n) (hc : c a = 0) (hb : Below W.heap.size W W') (hB : ∀ i, i < 3 → Bnd 1000000000 1000000000 ((X a).d i)) (fv : FsV) (hf : fv.ok W' (fun b => b < W.heap.size)) (hfl : fv.l.length ≤ 1000) (h8 : ∀ r ∈ fv.l, r.l.length ≤ 1000) (need : Int) :
    Calls Tryz.prog 15 #[lv a, fv.v, .int .i64 need] W' fun e W2 => ∃ v bw, e = .returned (.tuple #[v, .int .i64 ((comM 3 (fv.l.map RowV.fl) need (X a)).1 : Int)]) ∧ KX w W2 n lv p (upd X a (comM 3 (fv.l.map RowV.fl) need (X a)).2.2) (upd c a 0) (fun b => Z b ∨ ((comM 3 (fv.l.map RowV.fl) need (X a)).1 = 0 ∧ b = bw)) ∧ (∀ b, Z b → W2.heap[b]? = W'.heap[b]?) ∧
      (((comM 3 (fv.l.map RowV.fl) need (X a)).1 ≠ 0 ∧ v = .slice none 0 0) ∨ ((comM 3 (fv.l.map RowV.fl) need (X a)).1 = 0 ∧ v = .slice (some ⟨bw, 0, none⟩) 3 3 ∧ WlAt W2 bw 3 (comM 3 (fv.l.map RowV.fl) need (X a)).2.1)) := by
  obtain ⟨T, h⟩ := h
  have h' := h.below hb
  have hfa := h'.fa a ha
  rw [hc] at hfa
  refine (commit_any hfa (h'.ls a ha) (by omega) hE hB fv (hf.keep (fun _ _ _ => rfl) (fun b _ ht => (h.fa a ha).lt b ht)) hfl h8 need).mono ?_
  have e : comR 3 fv need (X a) = comM 3 (fv.l.map RowV.fl) need (X a) := by unfold comR comM; rw [fl_map]
  rw [e]
  generalize comM 3 (fv.l.map RowV.fl) need (X a) = r
  rintro e W2 ⟨v, T', h1, hg, hd, ho, hr⟩
  have hlt : ∀ e, e < n → ∀ b, T e b → b < W'.heap.size := fun e he b hb => (h'.fa e he).lt b hb
  rcases hr with ⟨r0, rv⟩ | ⟨r0, bw, rv, rw', rg, rt⟩
  · exact ⟨v, 0, h1, (h'.step ha hg hd ho).less (fun b hz => hz.elim id (fun hz => absurd hz.1 r0)), h'.kept ha ho, .inl ⟨r0, rv⟩⟩
  · have hbl : bw < W2.heap.size := cell_lt2 (rw' 0 (by omega)).1
    refine ⟨v, bw, h1, ?_, h'.kept ha ho, .inr ⟨r0, rv, rw'⟩⟩
    obtain ⟨T2, hT2, h2⟩ : ∃ T2, (∀ e b, T2 e b → b = bw → e = a → T' b) ∧ (∀ e b, e ≠ a → T2 e b → T e b) ∧ KF w W2 n T2 lv p (upd X a r.2.2) (upd c a 0) Z := ⟨upd T a T', fun e b hb _ ee => by subst ee; rw [upd_same] at hb; exact hb, fun e b hne hb => by rw [upd_ne _ _ hne] at hb; exact hb, h'.stepT ha hg hd ho⟩
    exact ⟨T2, h2.2.fa, h2.2.ls, h2.2.dj, h2.2.lj, h2.2.be, fun b hz => hz.elim (h2.2.zt b) (fun ⟨_, hz⟩ => ⟨hz ▸ hbl, fun e he ht => by
      subst hz
      by_cases q : e = a
      · exact rt (hT2 e b ht rfl q)
      · have := hlt e he b (h2.1 e b q ht); omega⟩)⟩
theorem KX.read (h : KX w W n lv p X c Z) (hE : Erh w) {a : Nat} (ha : a < n) (hc : c a = 0) (s : Nm) (hs : s.length ≤ maxLen) : Calls Tryz.prog 14 #[lv a, sv s] W (RdAt W 3 (X a) s) := by
  obtain ⟨T, h⟩ := h
  have hfa := h.fa a ha
  rw [hc] at hfa
  exact fread_any hfa (h.ls a ha) (by omega) hE s hs
theorem KX.list (h : KX w W n lv p X c Z) {a i : Nat} (ha : a < n) (hc : c a = 0) (hi : i < 3) (pre : Nm) (hl : ((X a).d i).F.length < 1000000000000) : Calls Tryz.prog 55 #[ptr (p a i), sv pre] W (ListAt W (((X a).d i).ans (X a).f []) (((X a).d i).list (X a).f pre)) := by
  obtain ⟨T, h⟩ := h
  have hfa := h.fa a ha
  rw [hc] at hfa
  exact (DS.list ⟨hfa, h.ls a ha⟩ hi pre hl)
/-- names of the statements: a drive's files. -/
theorem KX.names (h : KX w W n lv p X c Z) {a i : Nat} (ha : a < n) (hc : c a = 0) (hi : i < 3) (hl : ((X a).d i).F.length < 1000000000000) : Calls Tryz.prog 35 #[ptr (p a i)] W (NamesAt W (((X a).d i).list (X a).f [])) := by
  have HL := hid (h.list ha hc hi [] hl)
  clear h
  generalize ((X a).d i).list (X a).f [] = ns at *
  go_enter Tryz.func35, Tryz.ntmps35
  go_wp2_with (go_at_call 55; refine HL.out.mono ?_; rintro e w2 ⟨po, cc, rfl, ht2, hb2⟩; have HT := hid ht2; have HB := hid hb2; clear ht2 hb2)
  go_ret
  exact ⟨_, _, rfl, HT.out, HB.out⟩
end
end Go.Proofs.YtklchjfkkbpipaaGreatDoor
