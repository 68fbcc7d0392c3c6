/- Contracts of Invert and Rank of the document's own answer: as the program's, for there is one rank and one inverse; what was there is as it was. -/
import Derived.Test.YtapgdenodhcliaaPd
namespace Go.Proofs.Ytapgdenodhcliaa
open Go.RowKit

theorem keep_drewN (w : World) (q : Nat) : Below w.heap.size w (w.drewN q) := below_drewN (Below.refl _ _)
theorem OwnMat.two {w w1 w2 : World} {ga ca gw cw n m : Nat} {Ga Qa Gw Qw : Nat → Nat} {T W : Nat → Nat → K} (ha : OwnMat w.heap.size w1 ga ca n m Ga Qa T) (hb : OwnMat w1.heap.size w2 gw cw n n Gw Qw W) (hbel : Below w1.heap.size w1 w2) (hsz : w.heap.size ≤ w1.heap.size) :
    Two w.heap.size w2 ga ca gw cw n m Ga Qa Gw Qw T W where
  a := ha.stay hbel
  b := hb.base hsz
  tops := by have := (own_ge ha.top).2; have := (own_ge hb.top).1; omega
  rows := fun i k hi hk => by have := (ha.ge i hi).2; have := (hb.ge k hk).1; omega
theorem OwnMat.two' {w w1 w2 : World} {ga ca gw cw n m : Nat} {Ga Qa Gw Qw : Nat → Nat} {T W : Nat → Nat → K} (hb : OwnMat w.heap.size w1 gw cw n n Gw Qw W) (ha : OwnMat w1.heap.size w2 ga ca n m Ga Qa T) (hbel : Below w1.heap.size w1 w2) (hsz : w.heap.size ≤ w1.heap.size) :
    Two w.heap.size w2 ga ca gw cw n m Ga Qa Gw Qw T W where
  a := ha.base hsz
  b := hb.stay hbel
  tops := by have := (own_ge hb.top).2; have := (own_ge ha.top).1; omega
  rows := fun i k hi hk => by have := (hb.ge k hk).2; have := (ha.ge i hi).1; omega

set_option maxRecDepth 100000 in
set_option maxHeartbeats 1000000 in
theorem rinvert_bad (p : Option Addr) (n c : Nat) (A : Nat → Option Addr) (L C : Nat → Nat) (X : Nat → Nat → K) (w : World) (hn : n ≤ 100) (h : MatAt w p n A L C X) (he : errC n L ≠ 0 ∨ n ≠ L 0) :
    Calls Try.prog 64 #[.slice p n c] w fun e w' => e = .returned (.tuple #[.slice none 0 0, .int .i64 (errI n L X)]) ∧ Below w.heap.size w w' := by
  have T := hid h.top
  by_cases h1 : errC n L = 0
  · have h3 : n ≠ L 0 := he.elim (fun q => absurd h1 q) id
    have HE : Hid (errI n L X = 2) := by unfold errI; rw [h1]; simp [h3]; trivial
    have ok := errC_zero h1
    obtain ⟨b, o, rfl, hc⟩ := h.top.pos (by omega)
    have c0 := hc 0 (by omega)
    rw [Nat.add_zero] at c0
    have h3' : ((n : Int) != ((L 0 : Nat) : Int)) = true := by simp; omega
    have hpos := ok.1
    clear hc he h3 ok h
    go_enter Try.func64, Try.ntmps64
    go_wp2_with fail
    refine (rcheck_any _ _ _ _ _ _ _ hn T.out).mono ?_
    rintro e w1 ⟨rfl, q, hw⟩
    have HB : Hid (Below w.heap.size w w1) := by rw [hw]; exact keep_drewN w q
    have c0' := Stays.of_below HB.out _ _ c0
    clear hw c0
    rw [h1]
    clear h1
    go_wp2
    go_ret2
    exact ⟨ret_se rfl HE.out.symm, HB.out⟩
  · have HE : Hid (errI n L X = errC n L) := by unfold errI; rw [if_pos h1]; trivial
    have h1' : (errC n L != 0) = true := by simpa using h1
    have h1'' : (errC n L == 0) = false := by simpa using h1
    clear he h1 h
    go_enter Try.func64, Try.ntmps64
    go_wp2_with fail
    refine (rcheck_any _ _ _ _ _ _ _ hn T.out).mono ?_
    rintro e w1 ⟨rfl, q, hw⟩
    have HB : Hid (Below w.heap.size w w1) := by rw [hw]; exact keep_drewN w q
    clear hw
    go_wp2
    go_ret2
    exact ⟨ret_se rfl HE.out.symm, HB.out⟩

set_option maxRecDepth 100000 in
set_option maxHeartbeats 2000000 in
theorem rinvert_square (p : Option Addr) (n c : Nat) (A : Nat → Option Addr) (C : Nat → Nat) (X : Nat → Nat → K) (w : World) (h0 : 1 ≤ n) (hn : n ≤ 32) (h : MatAt w p n A (fun _ => n) C X) :
    Calls Try.prog 64 #[.slice p n c] w fun e w' => Below w.heap.size w w' ∧ (((sw X n n).l.length < n ∧ e = .returned (.tuple #[.slice none 0 0, .int .i64 120])) ∨
      ((sw X n n).l.length = n ∧ ∃ g cp G Q Y, e = .returned (.tuple #[.slice (some ⟨g, 0, none⟩) n cp, .int .i64 0]) ∧ OwnMat w.heap.size w' g cp n n G Q Y ∧ ∀ i, i < n → ∀ j, j < n → pr n Y X i j = on i j)) := by
  have T := hid h.top
  have H := hid h
  have HE : Hid (errC n (fun _ => n) = 0) := errC_ok h0 hn h0 hn (fun _ _ => rfl)
  obtain ⟨b, o, rfl, hc⟩ := h.top.pos (by omega)
  have c0 := hc 0 (by omega)
  rw [Nat.add_zero] at c0
  clear hc h
  go_enter Try.func64, Try.ntmps64
  go_wp2_with fail
  refine (rcheck_any _ _ _ _ _ _ _ (by omega) T.out).mono ?_
  rintro e w1 ⟨rfl, q, hw⟩
  have B1 : Hid (Below w.heap.size w w1) := by rw [hw]; exact keep_drewN w q
  have H1 := hid (H.out.keep (Stays.of_below B1.out))
  have c0' := Stays.of_below B1.out _ _ c0
  clear hw c0
  rw [HE.out]
  go_wp2_with fail
  refine (rone_any n w1 h0 hn).mono ?_
  rintro e w2 ⟨gw, cw, Gw, rfl, hmw, hb2⟩
  have HMW := hid hmw
  have HB2 := hid hb2
  have H2 := hid (H1.out.keep (Stays.of_below hb2))
  clear hmw hb2 c0'
  go_wp2_with fail
  refine (copied_any _ n n c A C X w2 H2.out h0 hn h0 hn).mono ?_
  rintro e w3 ⟨ga, ca, Ga, Qa, rfl, hma, hb3⟩
  have hsz := HB2.out.size
  have HTW := hid (HMW.out.two' hma hb3 hsz)
  have HB3 := hid (B1.out.then (HB2.out.then hb3))
  have hszw := B1.out.size
  clear hma hb3 HMW
  go_wp2_with fail
  refine (rsweep_any w1.heap.size ga ca gw cw n n Ga Qa Gw _ X w3 HTW.out h0 hn h0 hn).mono ?_
  rintro e w4 ⟨r, j, T', W', Gw', Qw', rfl, hri, hend, hmat, hb4⟩
  have hrk : r = (sw X n n).l.length := rank_one (hri.rank hend) (sw_rank X n n)
  have hrn := hri.rn
  have HRK := hid hrk
  have HRI := hid hri
  have HM4 := hid (hmat.base hszw)
  have HB4 := hid (HB3.out.trans (hb4.mono hszw))
  clear hri hend hmat hb4 hrk
  by_cases hlt : r < n
  · go_wp2
    go_ret2
    exact ⟨HB4.out, .inl ⟨by rw [← HRK.out]; first | assumption | (have := HRI.out.rn; omega), rfl⟩⟩
  · have hrn2 : r = n := by omega
    subst hrn2
    go_wp2
    go_ret2
    exact ⟨HB4.out, .inr ⟨HRK.out.symm, gw, cw, Gw', Qw', W', rfl, HM4.out, fun i hi j hj => HRI.out.left i j hi hj⟩⟩
end Go.Proofs.Ytapgdenodhcliaa
