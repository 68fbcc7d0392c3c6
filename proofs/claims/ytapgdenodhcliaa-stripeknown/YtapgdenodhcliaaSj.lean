/- Contracts of three, awake and StripeKnown: all of the chapter's examples are answered as it says; what was there is as it was. -/
import Derived.Test.YtapgdenodhcliaaSi
import Derived.Test.YtapgdenodhcliaaYc
namespace Go.Proofs.Ytapgdenodhcliaa
open Go.RowKit

/-- What any k shards of bytes make are all of them. -/
theorem mdd_all {k N : Nat} {H : Nat → Bool} {S D : Nat → Nat → K} (hk : k ≤ 16) (hN : N ≤ 256) (hc : k ≤ cn H N) (r j : Nat) (h : ∀ i, i < N → H i = true → S i j = pr k (codeX k) D i j) : mdd k N H S r j = pr k (codeX k) D r j :=
  mend_all k (codeX k) _ D _ (fun i => pl (tk H k N) i) (tk_left k N H hk hN hc) r j (fun i hi => h _ (tk_lt hc i hi).1 (tk_lt hc i hi).2)
theorem jnd_ash {k l n : Nat} {x : Nat → K} (j : Nat) (hj : j < n) (hn : n ≤ k * l) : jnd l (ash k l n x) j = x j := by
  have h1 : j / l < k := Nat.div_lt_of_lt_mul (by rw [Nat.mul_comm]; omega)
  unfold jnd ash
  rw [pr_code k _ _ _ h1]
  unfold dsh
  have h2 : j / l * l + j % l = j := Nat.div_add_mod' j l
  rw [h2, if_pos hj]
theorem jnd_congr {k l s : Nat} {X Y : Nat → Nat → K} (hs : s ≤ k * l) (h : ∀ i, i < k → ∀ j, j < l → X i j = Y i j) (j : Nat) (hj : j < s) : jnd l X j = jnd l Y j := by
  have h1 : j / l < k := Nat.div_lt_of_lt_mul (by rw [Nat.mul_comm]; omega)
  have h2 : 0 < l := by
    rcases Nat.eq_zero_or_pos l with q | q
    · subst q; omega
    · exact q
  unfold jnd
  exact h _ h1 _ (Nat.mod_lt _ h2)

def b3 (a b c : Nat) (i : Nat) : K := kb (if i = 0 then a else if i = 1 then b else c)
def t3 (a b c : Bool) (i : Nat) : Bool := if i = 0 then a else if i = 1 then b else c
theorem str3_at (w : World) (a b c : Nat) (ha : a < 256) (hb : b < 256) (hc : c < 256) : StrAt (w.alloc (.cells #[.int .u8 ((a : Nat) : Int), .int .u8 ((b : Nat) : Int), .int .u8 ((c : Nat) : Int)] 5)) (some ⟨w.heap.size, 0, none⟩) 3 (fun j => (b3 a b c j).val) :=
  .inr ⟨_, _, rfl, fun i hi => by
    rw [World.cell?_alloc_new]
    rcases lt3 hi with rfl | rfl | rfl
    · simp [b3, kb_val _ ha]
    · simp [b3, kb_val _ hb]
    · simp [b3, kb_val _ hc]⟩
theorem bool3_at (w : World) (a b c : Bool) : BoolsAt (w.alloc (.cells #[.bool a, .bool b, .bool c] 4)) (some ⟨w.heap.size, 0, none⟩) 3 (t3 a b c) :=
  .inr ⟨_, _, rfl, fun i hi => by
    rw [World.cell?_alloc_new]
    rcases lt3 hi with rfl | rfl | rfl <;> rfl⟩
theorem bool3_at' (w : World) (N : Nat) (a b c : Bool) (hN : N = w.heap.size) : BoolsAt (w.alloc (.cells #[.bool a, .bool b, .bool c] 4)) (some ⟨N, 0, none⟩) 3 (t3 a b c) := by rw [hN]; exact bool3_at w a b c
theorem alloc4 (w : World) (a b c d : Obj) : Below w.heap.size w ((((w.alloc a).alloc b).alloc c).alloc d) := (alloc3 w a b c).trans (((Below.refl _ _).alloc (by simp; omega) _))
theorem lit212_at (w : World) (N a b c e f : Nat) (hN : N = w.heap.size) (ha : a < 256) (hb : b < 256) (hc : c < 256) (he : e < 256) (hf : f < 256) :
    MatAt ((((w.alloc (.cells #[.int .u8 ((a : Nat) : Int), .int .u8 ((b : Nat) : Int)] 5)).alloc (.cells #[.int .u8 ((c : Nat) : Int)] 5)).alloc (.cells #[.int .u8 ((e : Nat) : Int), .int .u8 ((f : Nat) : Int)] 5)).alloc
      (.cells #[.slice (some ⟨N, 0, none⟩) 2 2, .slice (some ⟨N + 1, 0, none⟩) 1 1, .slice (some ⟨N + 1 + 1, 0, none⟩) 2 2] 22))
      (some ⟨N + 1 + 1 + 1, 0, none⟩) 3 (fun i => some ⟨N + i, 0, none⟩) (fun i => if i = 1 then 1 else 2) (fun i => if i = 1 then 1 else 2) (li3 a b c 0 e f) where
  top := .inr ⟨_, _, rfl, fun i hi => by
    subst hN
    have q : (w.heap.size + 1 + 1 + 1) = (((w.alloc (.cells #[.int .u8 ((a : Nat) : Int), .int .u8 ((b : Nat) : Int)] 5)).alloc (.cells #[.int .u8 ((c : Nat) : Int)] 5)).alloc (.cells #[.int .u8 ((e : Nat) : Int), .int .u8 ((f : Nat) : Int)] 5)).heap.size := by simp
    rw [q, World.cell?_alloc_new]
    rcases lt3 hi with rfl | rfl | rfl <;> rfl⟩
  row := fun i hi => .inr ⟨_, _, rfl, fun j hj => by
    subst hN
    rcases lt3 hi with rfl | rfl | rfl
    · rw [World.cell?_alloc_lt _ _ _ (by simp; omega), World.cell?_alloc_lt _ _ _ (by simp; omega), World.cell?_alloc_lt _ _ _ (by simp)]
      rw [Nat.add_zero, World.cell?_alloc_new]
      rcases lt2 hj with rfl | rfl
      · simp [li3, kb_val _ ha]
      · simp [li3, kb_val _ hb]
    · rw [World.cell?_alloc_lt _ _ _ (by simp), World.cell?_alloc_lt _ _ _ (by simp)]
      have q : w.heap.size + 1 = (w.alloc (.cells #[.int .u8 ((a : Nat) : Int), .int .u8 ((b : Nat) : Int)] 5)).heap.size := by simp
      rw [q, World.cell?_alloc_new]
      have hj2 : j < 1 := hj
      obtain rfl : j = 0 := by omega
      simp [li3, kb_val _ hc]
    · rw [World.cell?_alloc_lt _ _ _ (by simp)]
      have q : w.heap.size + 2 = ((w.alloc (.cells #[.int .u8 ((a : Nat) : Int), .int .u8 ((b : Nat) : Int)] 5)).alloc (.cells #[.int .u8 ((c : Nat) : Int)] 5)).heap.size := by simp
      rw [q, World.cell?_alloc_new]
      rcases lt2 hj with rfl | rfl
      · simp [li3, kb_val _ he]
      · simp [li3, kb_val _ hf]⟩
  le := fun _ _ => Nat.le_refl _

def ThreeAt (w w' : World) (e : Ending) : Prop := ∃ p c A C, e = .returned (.slice p 3 c) ∧ 3 ≤ c ∧ MatAt w' p 3 A (fun _ => 2) C (li3 1 2 3 0 143 1) ∧ Below w.heap.size w w'
set_option maxRecDepth 100000 in
set_option maxHeartbeats 1000000 in
theorem three_any (w : World) : Calls Try.prog 30 #[] w fun e w' => ThreeAt w w' e := by
  have M0 := hid (lit3_at w w.heap.size 1 2 3 0 143 1 rfl (by decide) (by decide) (by decide) (by decide) (by decide) (by decide))
  have B0 := hid (alloc4 w (.cells #[.int .u8 1, .int .u8 2] 5) (.cells #[.int .u8 3, .int .u8 0] 5) (.cells #[.int .u8 143, .int .u8 1] 5) (.cells #[.slice (some ⟨w.heap.size, 0, none⟩) 2 2, .slice (some ⟨w.heap.size + 1, 0, none⟩) 2 2, .slice (some ⟨w.heap.size + 1 + 1, 0, none⟩) 2 2] 22))
  go_enter Try.func30, Try.ntmps30
  go_wp2
  go_ret
  exact ⟨_, 3, _, _, rfl, Nat.le_refl _, M0.out, B0.out⟩

theorem three_ash : ∀ i, i < 3 → ∀ j, j < 2 → ash 2 2 3 (b3 1 2 3) i j = li3 1 2 3 0 143 1 i j := by
  intro i hi j hj
  rcases lt3 hi with rfl | rfl | rfl <;> rcases lt2 hj with rfl | rfl <;> decide +kernel

set_option maxRecDepth 100000 in
set_option maxHeartbeats 4000000 in
theorem awake_any (w : World) : Calls Try.prog 17 #[] w fun e w' => e = .returned (.bool true) ∧ Below w.heap.size w w' := by
  go_enter Try.func17, Try.ntmps17
  go_wp2_with fail
  refine (split_ok _ 3 3 2 1 (b3 1 2 3) _ (by omega) (by omega) (by omega) (by omega) (by omega) (by exact str3_at w 1 2 3 (by decide) (by decide) (by decide))).mono ?_
  rintro e w1 ⟨g1, c1, G1, rfl, hm1, hb1⟩
  have M1 := hid hm1.toMat
  have B1 := hid ((alloc1 w _).then hb1)
  clear hm1 hb1
  go_wp2_with fail
  refine (three_any w1).mono ?_
  rintro e w2 ⟨p2, c2, A2, C2, rfl, _, hm2, hb2⟩
  have M1b := hid (M1.out.keep (Stays.of_below hb2))
  have B2 := hid (B1.out.then hb2)
  have M2 := hid (hm2.keep (Stays.of_below (alloc1 w2 (.cells #[.bool false, .bool true, .bool true] 4))))
  clear M1 B1 hm2 hb2
  go_wp2_with fail
  refine (joinS_any _ _ 3 3 _ _ 2 1 3 A2 (fun _ => 2) C2 (li3 1 2 3 0 143 1) (t3 false true true) _ (by exact M2.out) (by exact bool3_at w2 false true true) (by omega) (by omega) (by omega) (by omega)).mono ?_
  rintro e w3 ⟨hb3, ⟨hne, _⟩ | ⟨_, g3, rfl, ho3⟩⟩
  · exact absurd (show errMd 2 1 3 3 (t3 false true true) (fun _ => 2) ((lgt 3 2 : Nat) : Int) = 0 by decide +kernel) hne
  have b3' := (alloc1 w2 (.cells #[.bool false, .bool true, .bool true] 4)).then hb3
  have B3 := hid (B2.out.then b3')
  have M1c := hid (M1b.out.keep (Stays.of_below b3'))
  have S3 : Hid (StrAt w3 (some ⟨g3, 0, none⟩) 3 (fun j => (b3 1 2 3 j).val)) := .inr ⟨_, _, rfl, fun j hj => by
    rw [Nat.zero_add, own_cell ho3 j hj]
    have h1 : jnd (lgt 3 2) (mdd 2 (2 + 1) (t3 false true true) (li3 1 2 3 0 143 1)) j = b3 1 2 3 j := by
      have h2 : jnd 2 (mdd 2 (2 + 1) (t3 false true true) (li3 1 2 3 0 143 1)) j = jnd 2 (ash 2 2 3 (b3 1 2 3)) j := jnd_congr (k := 2) (s := 3) (by omega) (fun i hi j hj => mdd_all (by omega) (by omega) (by decide) i j (fun i hi _ => (three_ash i hi j hj).symm)) j hj
      exact h2.trans (jnd_ash (k := 2) j hj (by omega))
    rw [h1]; rfl⟩
  clear hb3 ho3 b3' B2 M1b M2
  go_wp2_with fail
  refine (three_any w3).mono ?_
  rintro e w4 ⟨p4, c4, A4, C4, rfl, _, hm4, hb4⟩
  have M1d := hid (M1c.out.keep (Stays.of_below hb4))
  have M4 := hid hm4
  have B4 := hid (B3.out.then hb4)
  have S4 := hid (S3.out.keep (Stays.of_below hb4))
  clear hm4 hb4 B3 S3 M1c
  go_wp2_with fail
  refine (sameLists_true _ _ 3 _ _ _ _ (fun _ => 2) _ _ _ _ w4 (by omega) (by exact M1d.out) M4.out three_ash).mono ?_
  rintro e w5 ⟨rfl, hb5⟩
  have B5 := hid (B4.out.then hb5)
  have S5 := hid ((S4.out.keep (Stays.of_below hb5)).keep (Stays.of_below (alloc1 w5 (.cells #[.int .u8 1, .int .u8 2, .int .u8 3] 5))))
  clear hb5 B4 S4 M4 M1d
  go_wp2_with fail
  refine (same_true _ _ 3 _ _ (fun j => (b3 1 2 3 j).val) _ (by exact S5.out) (by exact str3_at w5 1 2 3 (by decide) (by decide) (by decide))).mono ?_
  rintro e w6 ⟨rfl, hw⟩
  have hw2 := hw.symm
  subst hw2
  clear hw
  have B6 := hid (B5.out.then (alloc1 w5 (.cells #[.int .u8 1, .int .u8 2, .int .u8 3] 5)))
  clear B5 S5
  go_wp2
  go_ret
  exact ⟨rfl, B6.out⟩

set_option maxRecDepth 100000 in
set_option maxHeartbeats 4000000 in
theorem known_any (w : World) : Calls Try.prog 5 #[] w fun e w' => e = .returned (.bool true) ∧ Below w.heap.size w w' := by
  go_enter Try.func5, Try.ntmps5
  go_wp2_with fail
  refine (length_ok 5 2 w (by omega) (by omega) (by omega)).mono ?_
  rintro e w' ⟨rfl, hw⟩
  have hw2 := hw.symm
  subst hw2
  clear hw
  rw [show lgt 5 2 = 3 by decide]
  go_wp2_with fail
  refine (length_ok 0 3 w (by omega) (by omega) (by omega)).mono ?_
  rintro e w' ⟨rfl, hw⟩
  have hw2 := hw.symm
  subst hw2
  clear hw
  rw [show lgt 0 3 = 0 by decide]
  go_wp2_with fail
  refine (three_any w).mono ?_
  rintro e w2 ⟨p2, c2, A2, C2, rfl, _, hm2, hb2⟩
  have B2 := hid hb2
  have M2 := hid (hm2.keep (Stays.of_below (alloc1 w2 (.cells #[.bool false, .bool false, .bool true] 4))))
  clear hm2 hb2
  go_wp2_with fail
  refine (joinS_any _ _ 3 3 _ _ 2 1 3 A2 (fun _ => 2) C2 (li3 1 2 3 0 143 1) (t3 false false true) _ (by exact M2.out) (by exact bool3_at w2 false false true) (by omega) (by omega) (by omega) (by omega)).mono ?_
  rintro e w3 ⟨hb3, ⟨_, rfl⟩ | ⟨hne, _⟩⟩
  rotate_left
  · exact absurd hne (show ¬ errMd 2 1 3 3 (t3 false false true) (fun _ => 2) ((lgt 3 2 : Nat) : Int) = 0 by decide +kernel)
  rw [show errMd 2 1 3 3 (t3 false false true) (fun _ => 2) ((lgt 3 2 : Nat) : Int) = 10 by decide +kernel]
  have B3 := hid (B2.out.then ((alloc1 w2 (.cells #[.bool false, .bool false, .bool true] 4)).then hb3))
  clear hb3 B2 M2
  go_wp2_with fail
  refine (split_err none 0 0 16 1 w3 (by omega) (by omega) (by omega) (by omega) (by omega)).mono ?_
  rintro e w' ⟨rfl, hw⟩
  have hw2 := hw.symm
  subst hw2
  clear hw
  have M4 := hid ((lit212_at w3 w3.heap.size 1 2 3 1 1 rfl (by decide) (by decide) (by decide) (by decide) (by decide)))
  have HB : Hid (∀ a, Below w3.heap.size w3 ((((w3.alloc (.cells #[.int .u8 1, .int .u8 2] 5)).alloc (.cells #[.int .u8 3] 5)).alloc (.cells #[.int .u8 1, .int .u8 1] 5)).alloc a)) := fun a => alloc4 w3 _ _ _ _
  go_wp2_with fail
  refine (joinS_any _ _ 3 3 _ _ 2 1 3 _ (fun i => if i = 1 then 1 else 2) _ (li3 1 2 3 0 1 1) (t3 true true false) _ (by exact M4.out.keep (Stays.of_below (alloc1 _ _))) (by exact bool3_at' _ _ true true false (by simp)) (by omega) (by omega) (by omega) (by omega)).mono ?_
  rintro e w4 ⟨hb4, ⟨_, rfl⟩ | ⟨hne, _⟩⟩
  rotate_left
  · exact absurd hne (show ¬ errMd 2 1 3 3 (t3 true true false) (fun i => if i = 1 then 1 else 2) ((lgt 3 2 : Nat) : Int) = 0 by decide +kernel)
  rw [show errMd 2 1 3 3 (t3 true true false) (fun i => if i = 1 then 1 else 2) ((lgt 3 2 : Nat) : Int) = 2 by decide +kernel]
  have B4 := hid (B3.out.then ((HB.out _).then ((alloc1 _ _).then hb4)))
  clear hb4 B3 M4 HB
  go_wp2_with fail
  refine (awake_any w4).mono ?_
  rintro e w5 ⟨rfl, hb5⟩
  have B5 := hid (B4.out.then hb5)
  clear hb5 B4
  go_wp2
  go_ret
  exact ⟨rfl, B5.out⟩
end Go.Proofs.Ytapgdenodhcliaa
