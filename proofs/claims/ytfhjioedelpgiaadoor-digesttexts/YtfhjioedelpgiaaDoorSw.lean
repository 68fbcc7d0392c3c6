/- Walk of DigestBack: a digest's digits are read as it; what is read is written as the same digits. -/
import Derived.Test.YtfhjioedelpgiaaDoorSv
namespace Go.Proofs.YtfhjioedelpgiaaDoor
open Go Go.RowKit
theorem wpList_load_rowG {P : Program} {ops : Array Oper} {rest : List Oper} {o : Oper} {a : Act} {w : World} {Q : Exit → Act → World → Prop} (hw : Region.wanted o (yielded ops a.tmps) = true) (ty : TypeId) (x : Operand) (ho : o.op = .load ty x)
    (g : Nat) (hx : a.eval x = .pointer (some ⟨g, 0, none⟩)) (t : TypeId) (cs : Array Value) (fr : Nat × Nat) (d : TypeDesc) (hg : w.heap[g]? = some (.cells cs t fr))
    (hu : P.underlying ty = some d) (hd : (match d with | .struct _ | .array _ _ => true | _ => false) = true) (hi : (P.info? ty).map (·.size) = some cs.size)
    (h : wpList P ops Q rest (a.put o.dst (.agg cs)) w) : wpList P ops Q (o :: rest) a w :=
  BigFrame.wpList_want hw fun _ hK => wp_load_row ty x ho g hx t cs fr d hg hu (by cases d <;> first | rfl | (simp at hd)) hi (hK _ _ h)
theorem dig_lt (v : Nat) (h : v < 16) : dig v < 256 := by unfold dig; split <;> omega
theorem dval_dig (v : Nat) (h : v < 16) : dval (dig v) = v := by
  have h2 : ∀ v : Fin 16, dval (dig v.val) = v.val := by decide
  exact h2 ⟨v, h⟩
theorem isD_dig (v : Nat) (h : v < 16) : isD (dig v) = true := by
  have h2 : ∀ v : Fin 16, isD (dig v.val) = true := by decide
  exact h2 ⟨v, h⟩
theorem dig_dval (c : Nat) (hc : c < 256) (h : isD c = true) : dig (dval c) = c := by
  have h2 : ∀ c : Fin 256, isD c.val = true → dig (dval c.val) = c.val := by decide +kernel
  exact h2 ⟨c, hc⟩ h
theorem hexF_lt (x : Nat → Nat) (hx : ∀ i, i < 32 → x i < 256) (i : Nat) (hi : i < 64) : hexF x i < 256 := by
  have := hx (i / 2) (by omega)
  unfold hexF; split
  · exact dig_lt _ (by omega)
  · exact dig_lt _ (by omega)
theorem sg_strN (n : Nat) (f : Nat → Nat) (i : Nat) (h : i < n) (hf : f i < 256) : sg (strN n f) i = f i := by
  unfold sg strN strOfNums
  simp [h]
  omega
theorem strN_sg (s : ByteArray) : strN s.size (sg s) = s := by
  apply ByteArray.ext
  unfold strN strOfNums sg
  apply Array.ext
  · rw [List.size_toArray, List.length_map, List.length_map, List.length_range]; rfl
  · intro i h1 h2
    rw [List.getElem_toArray, List.getElem_map, List.getElem_map, List.getElem_range, Int.toNat_natCast, UInt8.ofNat_toNat, Array.getD_eq_getD_getElem?, Array.getElem?_eq_getElem h2]
    rfl
theorem ok_hex (x : Nat → Nat) (hx : ∀ i, i < 32 → x i < 256) : okS (strN 64 (hexF x)) 64 = true := by
  unfold okS
  rw [strN_size, (allD_iff 64 _).2]
  · simp
  · intro i hi
    rw [sg_strN 64 _ i hi (hexF_lt x hx i hi)]
    have := hx (i / 2) (by omega)
    unfold hexF; split
    · exact isD_dig _ (by omega)
    · exact isD_dig _ (by omega)
theorem rd_hex (x : Nat → Nat) (hx : ∀ i, i < 32 → x i < 256) (i : Nat) (hi : i < 32) : rdF (strN 64 (hexF x)) i = x i := by
  have hxi := hx i hi
  unfold rdF; rw [if_pos (ok_hex x hx)]
  unfold sayF
  rw [sg_strN 64 _ _ (by omega) (hexF_lt x hx _ (by omega)), sg_strN 64 _ _ (by omega) (hexF_lt x hx _ (by omega))]
  unfold hexF
  rw [if_pos (by omega), if_neg (by omega), show 2 * i / 2 = i by omega, show (2 * i + 1) / 2 = i by omega, dval_dig _ (by omega), dval_dig _ (by omega)]
  omega
theorem hex_rd (s : ByteArray) (h : okS s 64 = true) : strN 64 (hexF (rdF s)) = s := by
  have h2 := h
  unfold okS at h2
  simp only [Bool.and_eq_true, decide_eq_true_eq] at h2
  obtain ⟨hs, ha⟩ := h2
  have ha := (allD_iff 64 _).1 ha
  have e : strN 64 (hexF (rdF s)) = strN 64 (sg s) := strN_congr 64 fun i hi => by
    unfold hexF rdF
    rw [if_pos h]
    unfold sayF
    have d1 := dval_lt (sg s (2 * (i / 2)))
    have d2 := dval_lt (sg s (2 * (i / 2) + 1))
    by_cases hp : i % 2 = 0
    · rw [if_pos hp, show (16 * dval (sg s (2 * (i / 2))) + dval (sg s (2 * (i / 2) + 1))) / 16 = dval (sg s (2 * (i / 2))) by omega, show 2 * (i / 2) = i by omega]
      exact dig_dval _ (sg_lt s i) (ha i hi)
    · rw [if_neg hp, show (16 * dval (sg s (2 * (i / 2))) + dval (sg s (2 * (i / 2) + 1))) % 16 = dval (sg s (2 * (i / 2) + 1)) by omega, show 2 * (i / 2) + 1 = i by omega]
      exact dig_dval _ (sg_lt s i) (ha i hi)
  rw [e, ← hs, strN_sg]
set_option maxRecDepth 100000 in
set_option maxHeartbeats 1000000 in
theorem back_far (x : Nat → Nat) (s : ByteArray) (w : World) (hs : 1000 < s.size) :
    Calls Tryd.prog 5 #[.agg (aB 32 x), .string s] w fun e w' => e = .returned (.bool true) ∧ Below w.heap.size w w' := by
  have hs' : (1000 : Int) < (s.size : Int) := by omega
  have hz : (w.alloc (.cells (aB 32 x) 24)).heap.size = w.heap.size + 1 := by simp
  have HB0 : Hid (Below w.heap.size w (w.alloc (.cells (aB 32 x) 24))) := (Below.refl _ _).alloc (by omega) _
  have HZ := hid hz
  clear hz hs
  go_enter Tryd.func5, Tryd.ntmps5
  go_wp2_with (go_at_call 4; refine (known_any _).mono ?_; rintro e w1 ⟨rfl, hb⟩; have HB1 := hid (HB0.out.trans (hb.mono HB0.out.size)); clear hb)
  go_ret
  exact ⟨rfl, HB1.out⟩
set_option maxRecDepth 100000 in
set_option maxHeartbeats 1000000 in
theorem back_near (x : Nat → Nat) (s : ByteArray) (w : World) (hx : ∀ i, i < 32 → x i < 256) (hs : s.size ≤ 1000) :
    Calls Tryd.prog 5 #[.agg (aB 32 x), .string s] w fun e w' => e = .returned (.bool true) ∧ Below w.heap.size w w' := by
  have hs' : ¬ (1000 : Int) < (s.size : Int) := by omega
  have C0 := CAt.new w (aB 32 x) 24
  have HB0 : Hid (Below w.heap.size w (w.alloc (.cells (aB 32 x) 24))) := (Below.refl _ _).alloc (by omega) _
  have HC0 := hid C0
  have HX := hid hx
  clear C0 hs
  go_enter Tryd.func5, Tryd.ntmps5
  go_upto_region 4 with (go_at_call 4; refine (known_any _).mono ?_; rintro e w1 ⟨rfl, hb⟩; have HB1 := hid (HB0.out.trans (hb.mono HB0.out.size)); have HC1 := hid (HC0.out.below hb HC0.out.lt); clear hb)
  obtain ⟨s1, hs1⟩ : ∃ s1 : ByteArray, s1 = strN 64 (hexF x) := ⟨_, rfl⟩
  have e1 : rdE s1 = 0 := by unfold rdE; rw [hs1, if_pos (ok_hex x hx)]
  have e2 : aB 32 (rdF s1) = aB 32 x := aB_congr 32 fun i hi => by rw [hs1]; exact rd_hex x hx i hi
  have HS1 := hid hs1
  have HE1 := hid e1
  have HE2 := hid e2
  clear hs1 e1 e2 hx
  go_upto_region 5 with (first
    | refine wpList_load_row rfl 24 _ rfl _ rfl _ _ _ _ HC1.out Tryd.underlying24 rfl (size32 _) ?_
    | (go_at_call 14; refine (hex_any x HX.out _).mono ?_; rintro e w2 ⟨rfl, hb⟩; rw [← HS1.out]; have HB2 := hid (HB1.out.trans (hb.mono HB1.out.size)); have HC2 := hid (HC1.out.below hb HC1.out.lt); clear hb)
    | (go_at_call 10; refine (read_any s1 _).mono ?_; rintro e w3 ⟨rfl, hb⟩; rw [HE1.out, HE2.out]; have HB3 := hid (HB2.out.trans (hb.mono HB2.out.size)); have HC3 := hid (HC2.out.below hb HC2.out.lt); clear hb)
    | refine wpList_alloc_row rfl 24 rfl _ zero32 ?_
    | refine wpList_store_row rfl 24 _ _ rfl _ _ rfl rfl _ _ (CAt.new _ _ _) (size32 _) (by simp only [aB_size]) (aB_one _ _) ?_)
  have HCA := hid ((CAt.new w3 (aB 32 zB) 24).row (aB 32 x))
  have hl3 := HC3.out.lt
  have HCD := hid ((HC3.out.alloc (.cells (aB 32 zB) 24)).rowOther (k := w3.heap.size) (aB 32 x) (by omega))
  have HB4 := hid (below_setRow (g := w3.heap.size) (HB3.out.alloc HB3.out.size (.cells (aB 32 zB) 24)) HB3.out.size (aB 32 x))
  clear hl3 HC3 HB3
  generalize ((w3.alloc (.cells (aB 32 zB) 24)).setRow w3.heap.size (aB 32 x)) = w4 at *
  generalize w3.heap.size = ga at *
  go_upto_region 6 with (first
    | (go_at_call 10; refine (read_any s _).mono ?_; rintro e w5 ⟨rfl, hb⟩; have HB5 := hid (HB4.out.trans (hb.mono HB4.out.size)); have HCA := hid (HCA.out.below hb HCA.out.lt); have HCD := hid (HCD.out.below hb HCD.out.lt); clear hb)
    | refine wpList_alloc_row rfl 24 rfl _ zero32 ?_
    | refine wpList_store_row rfl 24 _ _ rfl _ _ rfl rfl _ _ (CAt.new _ _ _) (size32 _) (by simp only [aB_size]) (aB_one _ _) ?_)
  have hla := HCA.out.lt
  have hld := HCD.out.lt
  have HCB := hid ((CAt.new w5 (aB 32 zB) 24).row (aB 32 (rdF s)))
  have HCA := hid ((HCA.out.alloc (.cells (aB 32 zB) 24)).rowOther (k := w5.heap.size) (aB 32 (rdF s)) (by omega))
  have HCD := hid ((HCD.out.alloc (.cells (aB 32 zB) 24)).rowOther (k := w5.heap.size) (aB 32 (rdF s)) (by omega))
  have HB6 := hid (below_setRow (g := w5.heap.size) (HB5.out.alloc HB5.out.size (.cells (aB 32 zB) 24)) HB5.out.size (aB 32 (rdF s)))
  clear hla hld HB5 HB4
  generalize ((w5.alloc (.cells (aB 32 zB) 24)).setRow w5.heap.size (aB 32 (rdF s))) = w6 at *
  generalize w5.heap.size = gb at *
  have heq := fun w => run_eqDig x x w
  simp only [eqD_self] at heq
  by_cases hok : okS s 64 = true
  · have hE : rdE s = 0 := by unfold rdE; rw [if_pos hok]
    have HH := hid (hex_rd s hok)
    have HRL : Hid (∀ i, i < 32 → rdF s i < 256) := fun i _ => rdF_lt s i
    clear hok
    rw [hE]
    clear hE
    go_wp2_with (first
      | refine wpList_load_rowG rfl 24 _ rfl _ rfl _ _ _ _ HCA.out Tryd.underlying24 rfl (size32 _) ?_
      | refine wpList_load_rowG rfl 24 _ rfl _ rfl _ _ _ _ HCD.out Tryd.underlying24 rfl (size32 _) ?_
      | refine wpList_load_rowG rfl 24 _ rfl _ rfl _ _ _ _ HCB.out Tryd.underlying24 rfl (size32 _) ?_
      | (go_at_call 14; refine (hex_any _ HRL.out _).mono ?_; rintro e w7 ⟨rfl, hb⟩; rw [HH.out]; have HB7 := hid (HB6.out.trans (hb.mono HB6.out.size)); clear hb))
    go_ret
    exact ⟨rfl, HB7.out⟩
  · have hE : rdE s = 4 := by unfold rdE; rw [if_neg hok]
    have hF : rdF s = zB := by unfold rdF; rw [if_neg hok]
    have heq2 := fun w => run_eqDig zB zB w
    simp only [eqD_self] at heq2
    rw [← lit32] at heq2
    rw [hF, ← lit32] at HCB
    clear hok
    rw [hE]
    clear hE hF
    go_wp2_with (first
      | refine wpList_load_rowG rfl 24 _ rfl _ rfl _ _ _ _ HCA.out Tryd.underlying24 rfl (size32 _) ?_
      | refine wpList_load_rowG rfl 24 _ rfl _ rfl _ _ _ _ HCD.out Tryd.underlying24 rfl (size32 _) ?_
      | refine wpList_load_rowG rfl 24 _ rfl _ rfl _ _ _ _ HCB.out Tryd.underlying24 rfl (by kernel_rfl) ?_)
    go_ret
    exact ⟨rfl, HB6.out⟩
theorem back_all (x : Nat → Nat) (s : ByteArray) (w : World) (hx : ∀ i, i < 32 → x i < 256) :
    Calls Tryd.prog 5 #[.agg (aB 32 x), .string s] w fun e w' => e = .returned (.bool true) ∧ Below w.heap.size w w' := by
  by_cases h : s.size ≤ 1000
  · exact back_near x s w hx h
  · exact back_far x s w (by omega)
end Go.Proofs.YtfhjioedelpgiaaDoor
