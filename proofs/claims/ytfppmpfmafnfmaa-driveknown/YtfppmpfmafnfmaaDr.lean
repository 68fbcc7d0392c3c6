/- Contract of awake of the statements: the document's example is answered as it says. -/
import Derived.Test.YtfppmpfmafnfmaaDp
import Derived.Lib.SlBytesConst
namespace Go.Proofs.Ytfppmpfmafnfmaa
open Go Go.RowKit

/-- A drive of one's own, without a fuse, made since w. -/
structure AW (w wk : World) (S : Nat → Prop) (p : Nat) (d : Pd) : Prop where
  dr : DrAt wk S p none d
  ge : ∀ b, S b → w.heap.size ≤ b
  be : Below w.heap.size w wk
section
variable {w wk : World} {S : Nat → Prop} {p : Nat} {d : Pd}
theorem AW.below (h : AW w wk S p d) {w' : World} (hb : Below wk.heap.size wk w') : AW w w' S p d := by
  obtain ⟨m, L, hd⟩ := h.dr
  exact ⟨⟨m, L, hd.below hb⟩, h.ge, below_on _ _ h.be hb⟩
theorem AW.alloc (h : AW w wk S p d) (o : Obj) : AW w (wk.alloc o) S p d := h.below ((Below.refl _ _).alloc (Nat.le_refl _) _)
theorem AW.next (h : AW w wk S p d) {r : Nat × Pd × Fs} {e : Ending} {w' : World} (hD : Done wk S p none r e w') : e = .returned (.int .i64 (r.1 : Int)) ∧ ∃ S2, AW w w' S2 p r.2.1 := by
  obtain ⟨h1, S2, hg, hd, _, ho⟩ := hD
  refine ⟨h1, S2, hd, fun b hb => ?_, ?_⟩
  · rcases hg.2 b hb with h2 | h2
    · exact h.ge b h2
    · exact Nat.le_trans h.be.size h2
  · exact ⟨ho.os.trans h.be.os, ho.tape.trans h.be.tape, ho.output.trans h.be.output, Nat.le_trans h.be.size ho.size, fun k hk => (ho.block k (Nat.lt_of_lt_of_le hk h.be.size) (fun e => by
      rcases e with e | e
      · have := h.ge k e; omega
      · cases e)).trans (h.be.block k hk)⟩
theorem AW.made {w1 : World} {n : Nat} {p : Nat} (hd : DrAt w1 (fun b => w.heap.size ≤ b ∧ b < w1.heap.size) p none (fresh n)) (hb : Below w.heap.size w w1) : AW w w1 (fun b => w.heap.size ≤ b ∧ b < w1.heap.size) p (fresh n) := ⟨hd, fun _ h => h.1, hb⟩
theorem AW.write (h : AW w wk S p d) (s : Nm) (hs : s.length ≤ maxLen) (po : Option Addr) (c : Nat) (bs : List Nat) (h8 : ∀ y ∈ bs, y < 256) (hx : BAt wk po bs) (hn : bs.length ≤ 140737488355328) (ho : d.ops < 1000000000000) (hl : d.F.length < 1000000000000) {r : Nat × Pd × Fs} (hr : d.write none s bs = r) :
    Calls Try.prog 23 #[ptr p, sv s, .slice po bs.length c] wk fun e w' => e = .returned (.int .i64 (r.1 : Int)) ∧ ∃ S2, AW w w' S2 p r.2.1 := by
  obtain ⟨m, L, hd⟩ := h.dr
  subst hr
  exact (write_any hd (f := none) trivial s hs po c bs h8 hx hn ho hl).mono fun e w' hD => h.next hD
theorem AW.sync (h : AW w wk S p d) (s : Nm) (hs : s.length ≤ maxLen) (ho : d.ops < 1000000000000) (hl : d.F.length < 1000000000000) {r : Nat × Pd × Fs} (hr : d.sync none s = r) :
    Calls Try.prog 24 #[ptr p, sv s] wk fun e w' => e = .returned (.int .i64 (r.1 : Int)) ∧ ∃ S2, AW w w' S2 p r.2.1 := by
  obtain ⟨m, L, hd⟩ := h.dr
  subst hr
  exact (sync_any hd (f := none) trivial s hs ho hl).mono fun e w' hD => h.next hD
theorem AW.loose (h : AW w wk S p d) (hl : d.F.length < 1000000000000) {ns : List Nm} (hr : d.loose = ns) :
    Calls Try.prog 32 #[ptr p] wk fun e w' => ∃ po c, e = .returned (.slice po ns.length c) ∧ TxtL wk.heap.size w' (.slice po ns.length c) ns ∧ AW w w' S p d := by
  obtain ⟨m, L, hd⟩ := h.dr
  subst hr
  exact (loose_any hd hl).mono fun e w' ⟨po, c, h1, h2, h3⟩ => ⟨po, c, h1, h2, h.below h3⟩
theorem AW.up (h : AW w wk S p d) {b : Bool} (hr : d.up none = b) : Calls Try.prog 34 #[ptr p] wk fun e w' => e = .returned (.bool b) ∧ w' = wk := by
  obtain ⟨m, L, hd⟩ := h.dr
  subst hr
  exact up_any hd (f := none) trivial
end
def aw1 : Pd := ⟨10, 1, false, false, false, [([97], ([97, 98, 99, 100], true))]⟩
def aw2 : Pd := ⟨10, 2, false, false, false, [([97], ([97, 98, 99, 100], false))]⟩
theorem aw_w : (fresh 10).write none [97] [97, 98, 99, 100] = (0, aw1, none) := rfl
theorem aw_s : aw1.sync none [97] = (0, aw2, none) := rfl
theorem aw_b : aw2.write none [98] [49, 50, 51, 52, 53, 54, 55] = (8, aw2, none) := rfl
theorem aw_l : aw1.loose = [[97]] := rfl
theorem lit_at (w : World) (b : Nat) (hb : b = w.heap.size) (bs : List Nat) (fr : Nat × Nat) : BAt (w.alloc (.cells (bs.map u8).toArray 5 fr)) (some ⟨b, 0, none⟩) bs := by
  subst hb
  refine Or.inr ⟨_, rfl, fun i hi => ?_⟩
  have hadd : (⟨w.heap.size, 0, none⟩ : Addr).add i = ⟨w.heap.size, i, none⟩ := by unfold Addr.add; split <;> simp_all
  rw [hadd]
  simp only [World.cell?, at_new]
  simp [u8, List.getD, List.getElem?_eq_getElem hi]
set_option maxHeartbeats 1000000 in
set_option maxRecDepth 100000 in
theorem awake_any (w : World) : Calls Try.prog 20 #[] w fun e w' => e = .returned (.bool true) ∧ Below w.heap.size w w' := by
  have HN := hid (new_ok 10 (by omega) (by omega) w)
  have n0 := fun W => name_any [] W (by unfold maxLen; simp)
  have n1 := fun W => name_any [97] W (by unfold maxLen; simp)
  rw [show okNm [] = false from rfl] at n0
  rw [show okNm [97] = true from rfl] at n1
  have HN0 := hid n0
  have HN1 := hid n1
  clear n0 n1
  have hcv := fun (w : World) (C : Array Value) (n c : Nat) => Lib.run_convert_bytes_const (P := Try.prog) w 33 5 C n c Try.underlying33 Try.underlying5
  have t1 : True := trivial
  have t2 : True := trivial
  go_enter Try.func20, Try.ntmps20
  go_wp2_with (first
    | (go_at_call 9; refine HN.out.mono ?_; rintro e w1 ⟨p, rfl, hd1, hb1⟩; have HA := hid (AW.made hd1 hb1); clear hd1 hb1)
    | (go_at_call 23; have _t := t1; refine ((HA.out.alloc _).write [97] (by unfold maxLen; simp) _ _ [97, 98, 99, 100] (by decide) (lit_at _ _ rfl [97, 98, 99, 100] _) (by decide) (by decide) (by decide) aw_w).mono ?_; rintro e w2 ⟨rfl, S2, hA2⟩; have HA := hid hA2; clear hA2 t1)
    | (go_at_call 32; refine (HA.out.loose (by decide) aw_l).mono ?_; rintro e w3 ⟨po, c, rfl, htx, hA3⟩; have HA := hid hA3; have HTX := hid htx; clear hA3 htx)
    | (go_at_call 39; refine (sameTexts_true _ _ [[97]] _ (by decide) (HTX.out.at.below ((Below.refl _ _).alloc (Nat.le_refl _) _)) (txt_one _ _ _ _ _ rfl)).mono ?_; rintro e w4 ⟨rfl, k4, hw4⟩; have HA : Hid (AW w w4 S2 p aw1) := hid (by rw [hw4]; exact (HA.out.alloc _).below (below_drewN _ k4)); clear hw4 HTX)
    | (go_at_call 24; refine (HA.out.sync [97] (by unfold maxLen; simp) (by decide) (by decide) aw_s).mono ?_; rintro e w5 ⟨rfl, S5, hA5⟩; have HA := hid hA5; clear hA5)
    | (go_at_call 23; refine ((HA.out.alloc _).write [98] (by unfold maxLen; simp) _ _ [49, 50, 51, 52, 53, 54, 55] (by decide) (lit_at _ _ rfl [49, 50, 51, 52, 53, 54, 55] _) (by decide) (by decide) (by decide) aw_b).mono ?_; rintro e w6 ⟨rfl, S6, hA6⟩; have HA := hid hA6; clear hA6)
    | (go_at_call 34; refine (HA.out.up (b := true) rfl).mono ?_; rintro e w' ⟨rfl, hw'⟩; have hw2 := hw'.symm; subst hw2)
    | (go_at_call 18; have _t := t2; refine (HN0.out _).mono ?_; rintro e w' ⟨rfl, hw'⟩; have hw2 := hw'.symm; subst hw2; clear t2)
    | (go_at_call 18; refine (HN1.out _).mono ?_; rintro e w' ⟨rfl, hw'⟩; have hw2 := hw'.symm; subst hw2))
  go_ret
  exact ⟨rfl, HA.out.be⟩
#print axioms awake_any
end Go.Proofs.Ytfppmpfmafnfmaa
