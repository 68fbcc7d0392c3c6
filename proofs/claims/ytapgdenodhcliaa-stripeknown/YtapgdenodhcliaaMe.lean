/- Contract of Mul of package matrix: the product lies in new memory, or the error's number by the lengths; what was there is as it was. -/
import Derived.Test.YtapgdenodhcliaaMd
namespace Go.Proofs.Ytapgdenodhcliaa
open Go.RowKit

/-- Mul's error. -/
def errMul (n : Nat) (L : Nat → Nat) (n' : Nat) (L' : Nat → Nat) : Int := if errC n L ≠ 0 then errC n L else if errC n' L' ≠ 0 then errC n' L' else if n' = L 0 then 0 else 2

/-- The product as far as it was gone through. -/
def prodTo (P : Nat → Nat → K) (i j : Nat) : Nat → Nat → K := fun r c => if r < i ∨ (r = i ∧ c < j) then P r c else 0
theorem prodTo_step (P : Nat → Nat → K) (i j r c : Nat) : up2 (prodTo P i j) i j (P i j) r c = prodTo P i (j + 1) r c := by
  unfold up2 prodTo
  by_cases e : r = i ∧ c = j
  · obtain ⟨rfl, rfl⟩ := e; simp
  · rw [if_neg e]
    by_cases q : r < i ∨ (r = i ∧ c < j)
    · rw [if_pos q, if_pos (by omega)]
    · rw [if_neg q, if_neg (by omega)]
theorem prodTo_next (P : Nat → Nat → K) (i m r c : Nat) (hc : c < m) : prodTo P i m r c = prodTo P (i + 1) 0 r c := by
  unfold prodTo
  by_cases q : r < i ∨ (r = i ∧ c < m)
  · rw [if_pos q, if_pos (by omega)]
  · rw [if_neg q, if_neg (by omega)]
theorem OwnMat.rowAt {B : Nat} {w : World} {g c n m : Nat} {G Q : Nat → Nat} {X : Nat → Nat → K} (h : OwnMat B w g c n m G Q X) (i : Nat) (hi : i < n) : RowAt w (G i) 0 m (fun j => (X i j).val) :=
  fun j hj => by rw [Nat.zero_add]; exact h.cell i j hi hj
theorem OwnMat.stay {B : Nat} {w w' : World} {g c n m : Nat} {G Q : Nat → Nat} {X : Nat → Nat → K} (h : OwnMat B w g c n m G Q X) (hb : Below w.heap.size w w') : OwnMat B w' g c n m G Q X := h.keep hb.block
theorem OwnMat.drew {B : Nat} {w : World} {g c n m : Nat} {G Q : Nat → Nat} {X : Nat → Nat → K} (h : OwnMat B w g c n m G Q X) : OwnMat B w.drew g c n m G Q X := h.keep (fun _ _ => rfl)
theorem OwnMat.setBelow {B B' : Nat} {w : World} {g c n m : Nat} {G Q : Nat → Nat} {X : Nat → Nat → K} (h : OwnMat B w g c n m G Q X) (hlt : ∀ i, i < n → G i < B') (hg : g < B') (a : Addr) (ha : B' ≤ a.block) (v : Value) : OwnMat B (w.setCell a v) g c n m G Q X where
  top := ownsRow_setCell_other h.top (by simp [Value.ownBlock]; omega) _
  row := fun i hi => ownsRow_setCell_other (h.row i hi) (by simp [Value.ownBlock]; have := hlt i hi; omega) _
  inj := h.inj

set_option maxRecDepth 100000 in
set_option maxHeartbeats 4000000 in
theorem mul_ok (p q : Option Addr) (n m l c d : Nat) (A A' : Nat → Option Addr) (C C' : Nat → Nat) (X Y : Nat → Nat → K) (w : World) (h : MatAt w p n A (fun _ => m) C X) (h' : MatAt w q m A' (fun _ => l) C' Y)
    (h0 : 1 ≤ n) (hn : n ≤ 32) (h1 : 1 ≤ m) (hm : m ≤ 32) (h2 : 1 ≤ l) (hl : l ≤ 32) :
    Calls Try.prog 62 #[.slice p n c, .slice q m d] w fun e w' => ∃ g G, e = .returned (.tuple #[.slice (some ⟨g, 0, none⟩) n n, .int .i64 0]) ∧ OwnMat w.heap.size w' g n n l G (fun _ => l) (pr m X Y) ∧ Below w.heap.size w w' := by
  have HE1 : Hid (errC n (fun _ => m) = 0) := errC_ok h0 hn h1 hm (fun _ _ => rfl)
  have HE2 : Hid (errC m (fun _ => l) = 0) := errC_ok h1 hm h2 hl (fun _ _ => rfl)
  have H' := hid h'
  have T := hid h.top
  have T' := hid h'.top
  have HLE := hid h.le
  obtain ⟨b, o, rfl, bs, os, hc, hr⟩ := h.at (by omega) (by omega)
  clear h h'
  have c0 := hc 0 (by omega)
  rw [Nat.add_zero] at c0
  have HC := hid hc
  have HR := hid hr
  clear hc hr
  go_enter Try.func62, Try.ntmps62
  go_wp2_with fail
  refine (check_any _ _ _ _ _ _ _ (by omega) T.out).mono ?_
  rintro e w' ⟨rfl, hw⟩
  have hw2 := hw.symm
  subst hw2
  clear hw T
  rw [HE1.out]
  clear HE1
  go_wp2_with fail
  refine (check_any _ _ _ _ _ _ _ (by omega) T'.out).mono ?_
  rintro e w' ⟨rfl, hw⟩
  have hw2 := hw.symm
  subst hw2
  clear hw T'
  rw [HE2.out]
  clear HE2
  go_wp2_with fail
  refine (turned_any q m l d A' C' Y w H'.out h1 hm h2 hl).mono ?_
  rintro e w1 ⟨gc, Gc, rfl, hcol, hb1⟩
  have HCOL := hid hcol
  have HB1 := hid hb1
  clear hcol hb1 H'
  go_wp2_with fail
  refine (zeros_any n l w1 (by omega) (by omega)).mono ?_
  rintro e w2 ⟨g, G, rfl, hmat, hb⟩
  have HM := hid hmat
  have HCOL2 := hid (HCOL.out.stay hb)
  have HLT : Hid ((∀ i, i < l → Gc i < w1.heap.size) ∧ gc < w1.heap.size) := ⟨fun i hi => (HCOL.out.ge i hi).2, (own_ge HCOL.out.top).2⟩
  have HSZ := hid HB1.out.size
  have HB := hid (HB1.out.trans (hb.mono HSZ.out))
  clear hmat hb HCOL HB1
  go_wp2_with fail
  go_loopw [40] (fun i wr => ∃ k : Nat, k ≤ n ∧ i = .int .i64 k ∧ OwnMat w1.heap.size wr g n n l G (fun _ => l) (prodTo (pr m X Y) k 0) ∧ Below w.heap.size w wr ∧ OwnMat w.heap.size wr gc l l m Gc (fun _ => m) (fun j i => Y i j)) (fun i _ => (n - intOf i).toNat)
  case atStart => exact ⟨0, by omega, rfl, HM.out.congr (fun i _ j _ => by simp [prodTo]), HB.out, HCOL2.out⟩
  case round =>
    obtain ⟨k, hk, rfl, hmat, hb, hcol⟩ := hrel
    clear HM HB HCOL2 c0
    by_cases hlt : k < n
    · have c1 : wr.cell? ⟨b, o + k, none⟩ = some (.slice (some ⟨bs k, os k, none⟩) m (C k)) := Stays.of_below hb _ _ (HC.out k hlt)
      have HM := hid hmat
      have HB := hid hb
      have HCOL := hid hcol
      clear hmat hb hcol
      go_wp2_with fail
      go_loopw [47] (fun i wr => ∃ j : Nat, j ≤ l ∧ i = .int .i64 j ∧ OwnMat w1.heap.size wr g n n l G (fun _ => l) (prodTo (pr m X Y) k j) ∧ Below w.heap.size w wr ∧ OwnMat w.heap.size wr gc l l m Gc (fun _ => m) (fun j i => Y i j)) (fun i _ => (l - intOf i).toNat)
      case atStart => exact ⟨0, by omega, rfl, HM.out, HB.out, HCOL.out⟩
      case round =>
        clear HM HB HCOL c1
        obtain ⟨j, hj, rfl, hmat, hb, hcol⟩ := hrel
        by_cases hlt2 : j < l
        · have r1 : RowAt wr.drew (bs k) (os k) m (fun i => (X k i).val) := (HR.out k hlt).keep (Stays.of_below hb.drew)
          have r2 : RowAt wr.drew (Gc j) 0 m (fun i => (Y i j).val) := hcol.rowAt j hlt2
          have c2 := hcol.topCell j hlt2
          have c3 := hmat.topCell k hlt
          have c4 := hmat.cell k j hlt hlt2
          have c5 := hmat.free k j hlt
          have C6 : Hid (∀ v, (wr.setCell ⟨G k, j, none⟩ v).drew.cell? ⟨g, k, none⟩ = some (.slice (some ⟨G k, 0, none⟩) l l)) := fun v => by
            show (wr.setCell ⟨G k, j, none⟩ v).cell? ⟨g, k, none⟩ = _
            rw [World.cell?_setCell_other _ _ _ _ (by intro q; have := hmat.apart k hlt; cases q; omega)]; exact c3
          have hge := (hmat.ge k hlt).1
          have hle := HLE.out k hlt
          have hw1 := HSZ.out
          have HM := hid ((hmat.set k j (pr m X Y k j) hlt).congr (fun r _ c _ => prodTo_step (pr m X Y) k j r c))
          have HB := hid ((hb.setCell (p := ⟨G k, j, none⟩) (by show w.heap.size ≤ G k; omega) (.int .u8 (((pr m X Y k j).val : Nat) : Int))).drew)
          have HCOL := hid (hcol.setBelow HLT.out.1 HLT.out.2 ⟨G k, j, none⟩ hge (.int .u8 (((pr m X Y k j).val : Nat) : Int)))
          clear hmat hb hcol HR HC HLT HLE HSZ
          go_wp2_with fail
          go_region_held3 (fun w' => w'.cell? ⟨g, k, none⟩ = some (.slice (some ⟨G k, 0, none⟩) l l)) (first | exact C6.out _ | go_keep) (first | (go_at_call 55; refine (dot_k _ _ m _ _ _ _ (X k) (fun i => Y i j) _ (by omega) hle (by omega) (by exact r1) (by exact r2)).mono ?_; rintro e w3 ⟨rfl, rfl⟩))
          go_wp2
          go_roundw
          case rel => exact ⟨j + 1, by omega, by go_num, HM.out.drew, HB.out, HCOL.out.drew⟩
          case measure => simp [intOf]; omega
        · have HM := hid (hmat.congr (fun r _ c hr => prodTo_next (pr m X Y) k j r c (by omega)))
          have HB := hid hb
          have HCOL := hid hcol
          clear hmat hb HR HC hcol HLT HLE HSZ
          go_wp2
          go_roundw
          case rel => exact ⟨k + 1, by omega, by go_num, HM.out, HB.out, HCOL.out⟩
          case measure => simp [intOf]; omega
    · have HM := hid ((hmat.congr (Y := pr m X Y) (fun i hi j hj => by simp [prodTo, show i < k by omega])).base HSZ.out)
      have HB := hid hb
      clear hmat hb HR HC hcol HLT HLE HSZ
      go_wp2
      go_ret2
      exact ⟨g, G, rfl, HM.out, HB.out⟩

set_option maxRecDepth 100000 in
set_option maxHeartbeats 1000000 in
theorem mul_err (p q : Option Addr) (n n' c d : Nat) (A A' : Nat → Option Addr) (L L' C C' : Nat → Nat) (w : World) (hn : n ≤ 100) (hn' : n' ≤ 100) (h : TopAt w p n A L C) (h' : TopAt w q n' A' L' C') (he : errMul n L n' L' ≠ 0) :
    Calls Try.prog 62 #[.slice p n c, .slice q n' d] w fun e w' => e = .returned (.tuple #[.slice none 0 0, .int .i64 (errMul n L n' L')]) ∧ w' = w := by
  by_cases h1 : errC n L = 0
  · by_cases h2 : errC n' L' = 0
    · have h3 : n' ≠ L 0 := fun e => he (by unfold errMul; rw [h1, h2]; simp [e])
      have HE : Hid (errMul n L n' L' = 2) := by unfold errMul; rw [h1, h2]; simp [h3]; trivial
      have ok := errC_zero h1
      obtain ⟨b, o, rfl, hc⟩ := h.pos (by omega)
      have c0 := hc 0 (by omega)
      rw [Nat.add_zero] at c0
      have h3' : ((n' : Int) != ((L 0 : Nat) : Int)) = true := by simp; omega
      have hpos := ok.1
      clear hc he h3 ok
      go_enter Try.func62, Try.ntmps62
      go_wp2_with fail
      refine (check_any _ _ _ _ _ _ _ hn h).mono ?_
      rintro e w' ⟨rfl, hw⟩
      have hw2 := hw.symm
      subst hw2
      clear hw
      rw [h1]
      go_wp2_with fail
      refine (check_any _ _ _ _ _ _ _ hn' h').mono ?_
      rintro e w' ⟨rfl, hw⟩
      have hw2 := hw.symm
      subst hw2
      clear hw
      rw [h2]
      clear h1 h2
      go_wp2
      go_ret2
      exact ⟨ret_se rfl HE.out.symm, rfl⟩
    · have HE : Hid (errMul n L n' L' = errC n' L') := by unfold errMul; rw [h1]; simp [h2]; trivial
      have h2' : (errC n' L' != 0) = true := by simpa using h2
      clear he h2
      go_enter Try.func62, Try.ntmps62
      go_wp2_with fail
      refine (check_any _ _ _ _ _ _ _ hn h).mono ?_
      rintro e w' ⟨rfl, hw⟩
      have hw2 := hw.symm
      subst hw2
      clear hw
      rw [h1]
      go_wp2_with fail
      refine (check_any _ _ _ _ _ _ _ hn' h').mono ?_
      rintro e w' ⟨rfl, hw⟩
      have hw2 := hw.symm
      subst hw2
      clear hw h1
      go_wp2
      go_ret2
      exact ⟨ret_se rfl HE.out.symm, rfl⟩
  · have HE : Hid (errMul n L n' L' = errC n L) := by unfold errMul; rw [if_pos h1]; trivial
    have h1' : (errC n L != 0) = true := by simpa using h1
    clear he h1
    go_enter Try.func62, Try.ntmps62
    go_wp2_with fail
    refine (check_any _ _ _ _ _ _ _ hn h).mono ?_
    rintro e w' ⟨rfl, hw⟩
    have hw2 := hw.symm
    subst hw2
    clear hw
    go_wp2
    go_ret2
    exact ⟨ret_se rfl HE.out.symm, rfl⟩
end Go.Proofs.Ytapgdenodhcliaa
