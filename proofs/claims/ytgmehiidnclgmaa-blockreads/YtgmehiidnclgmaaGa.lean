/- Walk of BlockReads: which bytes, and which part of them, a file has, and which of its blocks are not sound. -/
import Derived.Test.YtgmehiidnclgmaaFz
namespace Go.Proofs.Ytgmehiidnclgmaa
open Go Go.RowKit

theorem partL_len (y : Nat → Nat) (m : Nat) (z a b : Int) : (partL y m z a b).length ≤ 65536 := by
  unfold partL
  by_cases h : rngB z a b ∧ (m : Int) = szV z ∧ parOK y m z.toNat a.toNat b.toNat = true
  · obtain ⟨h1, h2, h3, h4, h5⟩ := h.1
    rw [if_pos h, parL_len _ _ _ _ (by omega) (by omega)]
    omega
  · rw [if_neg h]; simp
theorem partL_lt (y : Nat → Nat) (hy : ∀ i, y i < 256) (m : Nat) (z a b : Int) : ∀ u ∈ partL y m z a b, u < 256 := by
  intro u hu
  unfold partL at hu
  by_cases h : rngB z a b ∧ (m : Int) = szV z ∧ parOK y m z.toNat a.toNat b.toNat = true
  · rw [if_pos h] at hu
    unfold parL pcs at hu
    obtain ⟨i, _, h2⟩ := List.mem_flatMap.1 hu
    obtain ⟨j, _, rfl⟩ := List.mem_map.1 h2
    exact hy _
  · rw [if_neg h] at hu; cases hu
/-- What Part tells is one list of its own. -/
theorem PartU.one {w : World} {L : List Nat} {E : Int} {e : Ending} {w' : World} (h : PartU w L E e w') (hL : ∀ u ∈ L, u < 256) : ∃ po g, e = .returned (.tuple #[.slice po L.length L.length, .int .i64 E]) ∧ Below w.heap.size w w' ∧ OneL w' po L.length L.length g (fun i => L.getD i 0) ∧ (po ≠ none → w.heap.size ≤ g) := by
  obtain ⟨po, rfl, hb, ⟨rfl, rfl⟩ | ⟨g, rfl, hg, hr⟩⟩ := h
  · exact ⟨none, 0, rfl, hb, .inl ⟨rfl, rfl, rfl⟩, fun q => absurd rfl q⟩
  · exact ⟨_, g, rfl, hb, .inr ⟨rfl, hr.rowF hL, hr.lt⟩, fun _ => hg⟩
theorem OneL.below {w w' : World} {a : Option Addr} {l c g : Nat} {x : Nat → Nat} (h : OneL w a l c g x) (hb : Below w.heap.size w w') : OneL w' a l c g x :=
  h.keep hb.size (fun q => hb.block _ (by rcases h with e | e; exact absurd e.1 q; exact e.2.2))
theorem badU_len (y : Nat → Nat) (m : Nat) (z : Int) : (bdL y m z).length ≤ 300 := by
  unfold bdL
  by_cases h : 0 ≤ z ∧ z ≤ 65536
  · rw [if_pos h]
    unfold badL
    refine Nat.le_trans (List.length_filter_le _ _) ?_
    simp
    unfold cnt; omega
  · rw [if_neg h]; simp
def A3 (a b c : Option Addr) (i : Nat) : Option Addr := if i = 0 then a else if i = 1 then b else c
def N3 (a b c : Nat) (i : Nat) : Nat := if i = 0 then a else if i = 1 then b else c
def X3 (a b c : Nat → Nat) (i : Nat) : Nat → Nat := if i = 0 then a else if i = 1 then b else c
theorem ap3 {w : World} {p0 p1 p2 : Option Addr} {l0 l1 l2 c0 c1 c2 g0 g1 g2 : Nat} {x0 x1 x2 : Nat → Nat} (h0 : OneL w p0 l0 c0 g0 x0) (h1 : OneL w p1 l1 c1 g1 x1) (h2 : OneL w p2 l2 c2 g2 x2)
    (h01 : p0 ≠ none → p1 ≠ none → g0 ≠ g1) (h02 : p0 ≠ none → p2 ≠ none → g0 ≠ g2) (h12 : p1 ≠ none → p2 ≠ none → g1 ≠ g2) :
    Ap (w.alloc (.cells #[.slice p0 l0 c0, .slice p1 l1 c1, .slice p2 l2 c2] 22)) w.heap.size 3 (A3 p0 p1 p2) (N3 l0 l1 l2) (N3 c0 c1 c2) (N3 g0 g1 g2) (X3 x0 x1 x2) where
  lt := by simp
  top := fun i hi => by
    rw [World.cell?_alloc_new]
    match i, hi with
    | 0, _ => rfl
    | 1, _ => rfl
    | 2, _ => rfl
  row := fun i hi => by
    have hb : Below w.heap.size w (w.alloc (.cells #[.slice p0 l0 c0, .slice p1 l1 c1, .slice p2 l2 c2] 22)) := (Below.refl _ _).alloc (Nat.le_refl _) _
    match i, hi with
    | 0, _ => exact h0.below hb
    | 1, _ => exact h1.below hb
    | 2, _ => exact h2.below hb
  far := fun i hi hn => by
    match i, hi with
    | 0, _ => rcases h0 with e | e; exact absurd e.1 hn; exact Nat.ne_of_lt e.2.2
    | 1, _ => rcases h1 with e | e; exact absurd e.1 hn; exact Nat.ne_of_lt e.2.2
    | 2, _ => rcases h2 with e | e; exact absurd e.1 hn; exact Nat.ne_of_lt e.2.2
  inj := fun i j hi hj hni hnj e => by
    match i, hi, j, hj with
    | 0, _, 0, _ => rfl
    | 0, _, 1, _ => exact absurd e (h01 hni hnj)
    | 0, _, 2, _ => exact absurd e (h02 hni hnj)
    | 1, _, 0, _ => exact absurd e.symm (h01 hnj hni)
    | 1, _, 1, _ => rfl
    | 1, _, 2, _ => exact absurd e (h12 hni hnj)
    | 2, _, 0, _ => exact absurd e.symm (h02 hnj hni)
    | 2, _, 1, _ => exact absurd e.symm (h12 hnj hni)
    | 2, _, 2, _ => rfl
theorem lentN_lt (n : Nat) (x : Nat → Nat) (hx : ∀ i, x i < 256) (i : Nat) : lentN n x i < 256 := by
  unfold lentN
  split
  · exact hx i
  · omega
set_option maxRecDepth 100000 in
set_option maxHeartbeats 2000000 in
theorem reads_ok (p : Option Addr) (n c : Nat) (x : Nat → Nat) (z a b : Int) (w : World) (hn : n ≤ 2500) (hc : n ≤ c) (hp : p = none → n = 0 ∧ c = 0) (hx : StrAt w p n x) (hb : ∀ i, x i < 256) :
    Calls Try.prog 4 #[.slice p n c, .int .i64 z, .int .i64 a, .int .i64 b] w fun e w' => e = .returned (.bool true) ∧ Below w.heap.size w w' := by
  have hn' : ¬ (2500 : Int) < (n : Int) := by omega
  have HX := hid hx
  have HB : Hid (∀ i, i < n → x i < 256) := fun i _ => hb i
  have HBA := hid hb
  have HP := hid hp
  obtain ⟨LR, hLR⟩ : ∃ LR, partL x n z 0 z = LR := ⟨_, rfl⟩
  obtain ⟨ER, hER⟩ : ∃ ER, partE x n z 0 z = ER := ⟨_, rfl⟩
  obtain ⟨LP, hLP⟩ : ∃ LP, partL x n z a b = LP := ⟨_, rfl⟩
  obtain ⟨EP, hEP⟩ : ∃ EP, partE x n z a b = EP := ⟨_, rfl⟩
  obtain ⟨LB, hLB⟩ : ∃ LB, bdL x n z = LB := ⟨_, rfl⟩
  obtain ⟨EB, hEB⟩ : ∃ EB, szE z = EB := ⟨_, rfl⟩
  have HLT : Hid ((∀ u ∈ LR, u < 256) ∧ (∀ u ∈ LP, u < 256)) := ⟨by rw [← hLR]; exact partL_lt x hb _ _ _ _, by rw [← hLP]; exact partL_lt x hb _ _ _ _⟩
  have HLE : Hid (LR.length ≤ 65536 ∧ LP.length ≤ 65536 ∧ LB.length ≤ 300) := ⟨by rw [← hLR]; exact partL_len _ _ _ _ _, by rw [← hLP]; exact partL_len _ _ _ _ _, by rw [← hLB]; exact badU_len _ _ _⟩
  have RD : Hid (∀ q m W, n ≤ m → (q = none → n = 0 ∧ m = 0) → StrAt W q n x → Calls Try.prog 18 #[.slice q n m, .int .i64 z] W (PartU W LR ER)) := fun q m W h1 h2 h3 => by rw [← hLR, ← hER]; exact read_any q n m x z W h1 h2 h3 HB.out
  have RRD : Hid (∀ q m W, n ≤ m → (q = none → n = 0 ∧ m = 0) → StrAt W q n x → Calls Try.prog 19 #[.slice q n m, .int .i64 z] W (RPartU W LR ER)) := fun q m W h1 h2 h3 => by rw [← hLR, ← hER]; exact rread_any q n m x z W h1 h2 h3 HB.out
  have PT : Hid (∀ q m W, n ≤ m → (q = none → n = 0 ∧ m = 0) → StrAt W q n x → Calls Try.prog 20 #[.slice q n m, .int .i64 z, .int .i64 a, .int .i64 b] W (PartU W LP EP)) := fun q m W h1 h2 h3 => by rw [← hLP, ← hEP]; exact part_any q n m x z a b W h1 h2 h3 HB.out
  have RPT : Hid (∀ q m W, n ≤ m → (q = none → n = 0 ∧ m = 0) → StrAt W q n x → Calls Try.prog 21 #[.slice q n m, .int .i64 z, .int .i64 a, .int .i64 b] W (RPartU W LP EP)) := fun q m W h1 h2 h3 => by rw [← hLP, ← hEP]; exact rpart_any q n m x z a b W h1 h2 h3 HB.out
  have BD : Hid (∀ q m W, n ≤ m → StrAt W q n x → Calls Try.prog 22 #[.slice q n m, .int .i64 z] W (BadU W LB EB)) := fun q m W h1 h3 => by rw [← hLB, ← hEB]; exact bad_any q n m x z W (by omega) h1 h3 HB.out
  have RBD : Hid (∀ q m W, n ≤ m → (q = none → n = 0 ∧ m = 0) → StrAt W q n x → Calls Try.prog 23 #[.slice q n m, .int .i64 z] W (BadU W LB EB)) := fun q m W h1 h2 h3 => by rw [← hLB, ← hEB]; exact rbad_any q n m x z W (by omega) h1 h2 h3 HB.out
  clear hLR hER hLP hEP hLB hEB hx hb hp HB
  obtain ⟨nr, hnr⟩ : ∃ nr, LR.length = nr := ⟨_, rfl⟩
  obtain ⟨np, hnp⟩ : ∃ np, LP.length = np := ⟨_, rfl⟩
  obtain ⟨nb, hnb⟩ : ∃ nb, LB.length = nb := ⟨_, rfl⟩
  rw [hnr, hnp, hnb] at HLE
  have HNR := hid hnr
  have HNP := hid hnp
  have HNB := hid hnb
  clear hnr hnp hnb
  go_enter Try.func4, Try.ntmps4
  go_wp2_with fail
  refine (lent_any p n c x w (by omega) HX.out).mono ?_
  rintro e w1 ⟨rfl, hr1⟩
  have HR1 := hid hr1
  have HB1 := hid hr1.below
  clear hr1
  have HS1 := hid HR1.out.lent
  have HZ1 := hid HR1.out.size
  have HI1 : Hid (OneL w1 (some ⟨w.heap.size, 0, none⟩) n (n + 3) w.heap.size (lentN n x)) := .inr ⟨rfl, HR1.out.rowF (fun i _ => lentN_lt n x HBA.out i), by have := HZ1.out; omega⟩
  go_wp2_with fail
  refine (RD.out _ (n + 3) w1 (by omega) (fun h => by cases h) HS1.out).mono ?_
  intro e w2 h
  obtain ⟨pa, ga, rfl, hb2, ha2, hga⟩ := h.one HLT.out.1
  rw [HNR.out] at ha2 ⊢
  have HA2 := hid ha2
  have HGA := hid hga
  have HB2 := hid hb2
  have HX2 := hid (HX.out.below (HB1.out.trans (hb2.mono HB1.out.size)))
  have HW2 := hid (HB1.out.trans (hb2.mono HB1.out.size))
  have HS2 := hid (HS1.out.below hb2)
  have HI2 := hid (HI1.out.below hb2)
  clear h hb2 ha2 hga HS1 HI1
  go_wp2_with fail
  refine (RRD.out p c w2 hc HP.out HX2.out).mono ?_
  rintro e w3 ⟨v, rfl, hv, hb3⟩
  obtain ⟨pb, cb, rfl, _, sb, _⟩ := hv.str
  rw [HNR.out] at sb ⊢
  have HSB := hid sb
  have HX3 := hid (HX2.out.below hb3)
  have HW3 := hid (HW2.out.trans (hb3.mono HW2.out.size))
  have HS3 := hid (HS2.out.below hb3)
  have HI3 := hid (HI2.out.below hb3)
  have HA3 := hid (HA2.out.below hb3)
  have HZ3 : Hid (w2.heap.size ≤ w3.heap.size) := hb3.size
  have HGA3 : Hid (pa ≠ none → ga < w3.heap.size) := fun q => by rcases HA3.out with e | e; exact absurd e.1 q; exact e.2.2
  clear hv hb3 sb HX2 HW2 HS2 HI2 HA2
  go_wp2_with fail
  refine (PT.out _ (n + 3) w3 (by omega) (fun h => by cases h) HS3.out).mono ?_
  intro e w4 h
  obtain ⟨pc, gc, rfl, hb4, hc4, hgc⟩ := h.one HLT.out.2
  rw [HNP.out] at hc4 ⊢
  have HC4 := hid hc4
  have HGC := hid hgc
  have HX4 := hid (HX3.out.below hb4)
  have HW4 := hid (HW3.out.trans (hb4.mono HW3.out.size))
  have HS4 := hid (HS3.out.below hb4)
  have HI4 := hid (HI3.out.below hb4)
  have HA4 := hid (HA3.out.below hb4)
  have HSB4 := hid (HSB.out.below hb4)
  clear h hb4 hc4 hgc HX3 HW3 HS3 HI3 HA3 HSB
  go_wp2_with fail
  refine (RPT.out p c w4 hc HP.out HX4.out).mono ?_
  rintro e w5 ⟨v, rfl, hv, hb5⟩
  obtain ⟨pd, cd, rfl, _, sd, _⟩ := hv.str
  rw [HNP.out] at sd ⊢
  have HSD := hid sd
  have HX5 := hid (HX4.out.below hb5)
  have HW5 := hid (HW4.out.trans (hb5.mono HW4.out.size))
  have HS5 := hid (HS4.out.below hb5)
  have HI5 := hid (HI4.out.below hb5)
  have HA5 := hid (HA4.out.below hb5)
  have HC5 := hid (HC4.out.below hb5)
  have HSB5 := hid (HSB4.out.below hb5)
  clear hv hb5 sd HX4 HW4 HS4 HI4 HA4 HC4 HSB4
  go_wp2_with fail
  refine (BD.out _ (n + 3) w5 (by omega) HS5.out).mono ?_
  rintro e w6 ⟨v, rfl, hv, hb6⟩
  obtain ⟨pl, cl, rfl, sl⟩ := hv.ints
  rw [HNB.out] at sl ⊢
  have HSL := hid sl
  have HX6 := hid (HX5.out.below hb6)
  have HW6 := hid (HW5.out.trans (hb6.mono HW5.out.size))
  have HI6 := hid (HI5.out.below hb6)
  have HA6 := hid (HA5.out.below hb6)
  have HC6 := hid (HC5.out.below hb6)
  have HSB6 := hid (HSB5.out.below hb6)
  have HSD6 := hid (HSD.out.below hb6)
  clear hv hb6 sl HX5 HW5 HS5 HI5 HA5 HC5 HSB5 HSD
  go_wp2_with fail
  refine (RBD.out p c w6 hc HP.out HX6.out).mono ?_
  rintro e w7 ⟨v, rfl, hv, hb7⟩
  obtain ⟨pm, cm, rfl, sm⟩ := hv.ints
  rw [HNB.out] at sm ⊢
  have HSM := hid sm
  have HX7 := hid (HX6.out.below hb7)
  have HW7 := hid (HW6.out.trans (hb7.mono HW6.out.size))
  have HI7 := hid (HI6.out.below hb7)
  have HA7 := hid (HA6.out.below hb7)
  have HC7 := hid (HC6.out.below hb7)
  have HSB7 := hid (HSB6.out.below hb7)
  have HSD7 := hid (HSD6.out.below hb7)
  have HSL7 := hid (HSL.out.below hb7)
  clear hv hb7 sm HX6 HW6 HI6 HA6 HC6 HSB6 HSD6 HSL
  go_wp2_with fail
  refine (same_true _ _ nr _ _ (fun i => LR.getD i 0) _ HA7.out.str HSB7.out).mono ?_
  rintro e w' ⟨rfl, hw⟩
  have h3 := hw.symm
  subst h3
  go_wp2_with fail
  refine (same_true _ _ np _ _ (fun i => LP.getD i 0) _ HC7.out.str HSD7.out).mono ?_
  rintro e w' ⟨rfl, hw⟩
  have h3 := hw.symm
  subst h3
  go_wp2_with fail
  refine (sameInts_true _ _ nb _ _ (fun i => LB.getD i 0) _ (by have := HLE.out; omega) HSL7.out HSM.out).mono ?_
  rintro e w8 ⟨rfl, hk8⟩
  have hb8 : Below w7.heap.size w7 w8 := by obtain ⟨k8, rfl⟩ := hk8; exact Below.drewN' (Below.refl _ _) _
  have HX8 := hid (HX7.out.below hb8)
  have HW8 := hid (HW7.out.trans (hb8.mono HW7.out.size))
  have HI8 := hid (HI7.out.below hb8)
  have HA8 := hid (HA7.out.below hb8)
  have HC8 := hid (HC7.out.below hb8)
  clear hk8 hb8 HX7 HW7 HI7 HA7 HC7 HSB7 HSD7 HSL7 HSM
  have HRA : Hid (RowAt w8 w.heap.size 0 (n + 3) (lentN n x) ∧ w.heap.size < w8.heap.size) := by
    rcases HI8.out with e | e
    · cases e.1
    · exact ⟨fun i hi => by rw [Nat.zero_add]; exact e.2.1.cells i hi, e.2.2⟩
  go_wp2_with fail
  refine (kept_any w.heap.size n c p x w8 (by omega) HRA.out.2 HRA.out.1 HX8.out).mono ?_
  rintro e w9 ⟨rfl, hb9⟩
  have HW9 := hid (HW8.out.trans (hb9.mono HW8.out.size))
  have HA9 := hid (HA8.out.below hb9)
  have HC9 := hid (HC8.out.below hb9)
  have HI9 := hid (HI8.out.below hb9)
  clear hb9 HX8 HW8 HI8 HA8 HC8 HRA
  have HAP := hid (ap3 HA9.out HC9.out HI9.out (fun q1 q2 => by have := HGA3.out q1; have := HGC.out q2; omega) (fun q1 _ => by have := HGA.out q1; have := HZ1.out; omega) (fun q1 _ => by have := HGC.out q1; have := HB2.out.size; have := HZ3.out; have := HZ1.out; omega))
  have HGE : Hid (∀ g, (∃ r, r < 3 ∧ A3 pa pc (some ⟨w.heap.size, 0, none⟩) r ≠ none ∧ g = N3 ga gc w.heap.size r) → w.heap.size ≤ g) := by
    rintro g ⟨r, hr, hq, rfl⟩
    have h1 := HZ1.out
    have h2 := HB2.out.size
    have h3 := HZ3.out
    match r, hr with
    | 0, _ => have := HGA.out hq; show w.heap.size ≤ ga; omega
    | 1, _ => have := HGC.out hq; show w.heap.size ≤ gc; omega
    | 2, _ => exact Nat.le_refl _
  have HBA9 : Hid (Below w.heap.size w (w9.alloc (.cells #[.slice pa nr nr, .slice pc np np, .slice (some ⟨w.heap.size, 0, none⟩) n (n + 3)] 22))) := HW9.out.alloc HW9.out.size _
  go_wp2_with fail
  refine (apart_any w9.heap.size 3 3 _ _ _ _ _ _ (by omega) (fun i hi => ?_) HAP.out).mono ?_
  · have h1 := HLE.out
    match i, hi with
    | 0, _ => show nr ≤ 100000; omega
    | 1, _ => show np ≤ 100000; omega
    | 2, _ => show n + 3 ≤ 100000; omega
  rintro e w10 ⟨rfl, hs⟩
  have HBW10 := hid (hs.below HBA9.out HBA9.out.size HGE.out)
  clear hs
  go_wp2_with fail
  refine (awake_any _).mono ?_
  rintro e w11 ⟨rfl, hb11⟩
  have HBW11 := hid (HBW10.out.trans (hb11.mono HBW10.out.size))
  clear hb11
  go_wp2
  go_ret
  exact ⟨rfl, HBW11.out⟩
theorem reads_all (q : Option Addr) (n c : Nat) (z a b : Int) (w : World) (h : IsBytes w q n c) : Calls Try.prog 4 #[.slice q n c, .int .i64 z, .int .i64 a, .int .i64 b] w fun e w' => e = .returned (.bool true) ∧ Below w.heap.size w w' := by
  obtain ⟨hc, hp, x, hx, hb⟩ := h
  by_cases hn : n ≤ 2500
  · refine reads_ok q n c (fun i => if i < n then x i else 0) z a b w hn hc hp (hx.congr (fun j hj => by rw [if_pos hj])) (fun i => ?_)
    by_cases e : i < n
    · rw [if_pos e]; exact hb i e
    · rw [if_neg e]; omega
  · have h1 : (2500 : Int) < (n : Int) := by omega
    clear hp hx hb hc hn
    go_enter Try.func4, Try.ntmps4
    go_wp2
    go_ret
    exact ⟨rfl, Below.refl _ _⟩
end Go.Proofs.Ytgmehiidnclgmaa
