/- Two drives beside one another, each with a fuse, with one together, or with none. -/
import Derived.Test.YtfppmpfmafnfmaaEj
import Derived.Test.YtfppmpfmafnfmaaEh
namespace Go.Proofs.Ytfppmpfmafnfmaa
open Go Go.RowKit

structure Dl where
  p : Nat
  fu : Option Nat
  d : Pd
def D2 (a b : Dl) (S0 S1 : Nat → Prop) : Nat → Dv
  | 0 => ⟨a.p, S0, a.fu, a.d⟩
  | _ => ⟨b.p, S1, b.fu, b.d⟩
def SZ (w wr : World) (a b : Dl) (Z : Nat → Nat × Bool) : Prop := ∃ S0 S1, Sys w wr 2 (D2 a b S0 S1) Z
theorem lt2 {i : Nat} (h : i < 2) : i = 0 ∨ i = 1 := by omega
section
variable {w wr : World} {a b : Dl} {Z : Nat → Nat × Bool}
theorem SZ.be (h : SZ w wr a b Z) : Below w.heap.size w wr := by obtain ⟨_, _, hs⟩ := h; exact hs.be
theorem SZ.below (h : SZ w wr a b Z) {w' : World} (hb : Below wr.heap.size wr w') : SZ w w' a b Z := by obtain ⟨S0, S1, hs⟩ := h; exact ⟨S0, S1, hs.below hb⟩
theorem SZ.swap (h : SZ w wr a b Z) : SZ w wr b a Z := by
  obtain ⟨S0, S1, hs⟩ := h
  refine ⟨S1, S0, fun i hi => ?_, fun i hi q e => ?_, fun i j hi hj hij => ?_, fun i hi => ?_, hs.be⟩
  · rcases lt2 hi with rfl | rfl
    · exact hs.dr 1 (by omega)
    · exact hs.dr 0 (by omega)
  · rcases lt2 hi with rfl | rfl
    · obtain ⟨h1, h2, h3, h4⟩ := hs.fz 1 (by omega) q e
      exact ⟨h1, h2, h3, fun j hj => by rcases lt2 hj with rfl | rfl; exact h4 1 (by omega); exact h4 0 (by omega)⟩
    · obtain ⟨h1, h2, h3, h4⟩ := hs.fz 0 (by omega) q e
      exact ⟨h1, h2, h3, fun j hj => by rcases lt2 hj with rfl | rfl; exact h4 1 (by omega); exact h4 0 (by omega)⟩
  · rcases lt2 hi with rfl | rfl <;> rcases lt2 hj with rfl | rfl
    · exact absurd rfl hij
    · exact hs.dj 1 0 (by omega) (by omega) (by omega)
    · exact hs.dj 0 1 (by omega) (by omega) (by omega)
    · exact absurd rfl hij
  · rcases lt2 hi with rfl | rfl
    · exact hs.ge 1 (by omega)
    · exact hs.ge 0 (by omega)
/-- A call of the first drive that only looks. -/
theorem SZ.look (h : SZ w wr a b Z) {f : FuncId} {args : Array Value} {R : Ending → World → Prop} (hc : ∀ S m L, DrC wr S a.p m a.fu a.d L → FuAt wr S a.fu (a.fu.map Z) → Calls Try.prog f args wr R) : Calls Try.prog f args wr R := by
  obtain ⟨S0, S1, hs⟩ := h
  obtain ⟨m, L, hd⟩ := hs.dr 0 (by omega)
  exact hc S0 m L hd (hs.fu (i := 0) (by omega))
/-- A call of the first drive that may change it. -/
theorem SZ.run (h : SZ w wr a b Z) {f : FuncId} {args : Array Value} {r : Nat × Pd × Fs} (hc : ∀ S m L, DrC wr S a.p m a.fu a.d L → FuAt wr S a.fu (a.fu.map Z) → Calls Try.prog f args wr (Done wr S a.p a.fu r)) :
    Calls Try.prog f args wr fun e w' => e = .returned (.int .i64 (r.1 : Int)) ∧ SZ w w' ⟨a.p, a.fu, r.2.1⟩ b (setZ Z a.fu r.2.2) := by
  obtain ⟨S0, S1, hs⟩ := h
  obtain ⟨m, L, hd⟩ := hs.dr 0 (by omega)
  refine (hc S0 m L hd (hs.fu (i := 0) (by omega))).mono fun e w' hD => ?_
  obtain ⟨h1, S2, h2⟩ := hs.done (i := 0) (by omega) hD
  exact ⟨h1, S2, S1, h2.congr fun i hi => by rcases lt2 hi with rfl | rfl <;> rfl⟩
theorem SZ.turned (h : SZ w wr a b Z) {f : FuncId} {args : Array Value} {r : Nat × Pd} (hc : ∀ S m L, DrC wr S a.p m a.fu a.d L → Calls Try.prog f args wr (TurnAt wr S a.p a.fu r)) :
    Calls Try.prog f args wr fun e w' => e = .returned (.int .i64 (r.1 : Int)) ∧ SZ w w' ⟨a.p, a.fu, r.2⟩ b Z := by
  obtain ⟨S0, S1, hs⟩ := h
  obtain ⟨m, L, hd⟩ := hs.dr 0 (by omega)
  refine (hc S0 m L hd).mono fun e w' ⟨h1, h2, h3⟩ => ⟨h1, S0, S1, ?_⟩
  have hf := hs.fu (i := 0) (by omega)
  have := hs.turn (i := 0) (by omega) (Grows.refl _ _) h2 (Or.inl rfl) (hf.kept h3 (fun q hq => hf.ne q hq)) (h3.mono fun b hb => Or.inl hb)
  rw [setZ_same] at this
  exact this.congr fun i hi => by rcases lt2 hi with rfl | rfl <;> rfl
theorem SZ.setA (h : SZ w wr a b Z) {f : FuncId} {args : Array Value} {d2 : Pd} (hc : ∀ S m L, DrC wr S a.p m a.fu a.d L → Calls Try.prog f args wr (SetAt wr S a.p m a.fu d2 L)) :
    Calls Try.prog f args wr fun e w' => e = .returned (.int .i64 0) ∧ SZ w w' ⟨a.p, a.fu, d2⟩ b Z := by
  refine (h.turned (r := (0, d2)) fun S m L hd => (hc S m L hd).mono fun e w' ⟨h1, h2, h3, _⟩ => ?_)
  exact ⟨h1, ⟨m, L, h2⟩, h3.mono fun b hb => by rw [hb]; exact hd.sp⟩
theorem SZ.crash (h : SZ w wr a b Z) (po : Option Addr) (c : Nat) (ks : List Bool) (hk : ∀ S : Nat → Prop, (∀ b, S b → b < wr.heap.size) → (∀ b, S b → w.heap.size ≤ b) → DrAt wr S a.p a.fu a.d → KAt wr S po ks) (hkn : ks.length ≤ 1000000000) (hl : a.d.F.length < 1000000000000) :
    Calls Try.prog 30 #[ptr a.p, .slice po ks.length c] wr fun e w' => e = .returned (.int .i64 0) ∧ SZ w w' ⟨a.p, none, a.d.crash ks⟩ b Z := by
  obtain ⟨S0, S1, hs⟩ := h
  refine (hs.crash (i := 0) (by omega) po c ks (hk S0 (hs.lt (i := 0) (by omega)) (hs.ge 0 (by omega)) (hs.dr 0 (by omega))) hkn hl).mono fun e w' ⟨h1, h2, _⟩ => ?_
  rw [setZ_same] at h2
  exact ⟨h1, S0, S1, h2.congr fun i hi => by rcases lt2 hi with rfl | rfl <;> rfl⟩
/-- Both have a fuse together. -/
theorem SZ.fuse2 (h : SZ w wr a b Z) (bl c : Nat) (hc : CAt wr bl #[ptr a.p, ptr b.p] 23) (n : Nat) (hn : n ≤ 9223372036854775807) :
    Calls Try.prog 14 #[.slice (some ⟨bl, 0, none⟩) 2 c, .int .i64 (n : Int)] wr fun e w' => e = .returned (.int .i64 0) ∧ ∃ q, (∀ i, a.fu = some i → i ≠ q) ∧ (∀ i, b.fu = some i → i ≠ q) ∧ SZ w w' ⟨a.p, some q, a.d.lit (a.fu.map Z)⟩ ⟨b.p, some q, b.d.lit (b.fu.map Z)⟩ (fun x => if x = q then (n, false) else Z x) := by
  obtain ⟨S0, S1, hs⟩ := h
  obtain ⟨m1, L1, h1⟩ := hs.dr 0 (by omega)
  obtain ⟨m2, L2, h2⟩ := hs.dr 1 (by omega)
  refine (fuse2_any h1 (hs.fu (i := 0) (by omega)) h2 (hs.fu (i := 1) (by omega)) (hs.dj 0 1 (by omega) (by omega) (by omega)) bl c hc n hn).mono fun e w' ⟨e1, q, hq, k1, k2, k3, k4⟩ => ⟨e1, q, fun i hi => ?_, fun i hi => ?_, S0, S1, ?_⟩
  · have := (hs.fz 0 (by omega) i hi).1.lt; omega
  · have := (hs.fz 1 (by omega) i hi).1.lt; omega
  · exact (hs.lit2 (i := 0) (j := 1) (by omega) (by omega) (by omega) hn hq k1 k2 k3 k4).congr fun i hi => by rcases lt2 hi with rfl | rfl <;> rfl
theorem sz_of {p1 p2 : Nat} {S1 S2 : Nat → Prop} {d1 d2 : Pd} (h1 : AW w wr S1 p1 d1) (h2 : AW w wr S2 p2 d2) (hd : ∀ b, S1 b → ¬ S2 b) (Z : Nat → Nat × Bool) : SZ w wr ⟨p1, none, d1⟩ ⟨p2, none, d2⟩ Z := by
  refine ⟨S1, S2, fun i hi => ?_, fun i hi q e => ?_, fun i j hi hj hij => ?_, fun i hi => ?_, h1.be⟩
  · rcases lt2 hi with rfl | rfl
    · exact h1.dr
    · exact h2.dr
  · rcases lt2 hi with rfl | rfl <;> cases e
  · rcases lt2 hi with rfl | rfl <;> rcases lt2 hj with rfl | rfl
    · exact absurd rfl hij
    · exact hd
    · exact fun b k1 k2 => hd b k2 k1
    · exact absurd rfl hij
  · rcases lt2 hi with rfl | rfl
    · exact h1.ge
    · exact h2.ge
end
#print axioms SZ.fuse2
end Go.Proofs.Ytfppmpfmafnfmaa
