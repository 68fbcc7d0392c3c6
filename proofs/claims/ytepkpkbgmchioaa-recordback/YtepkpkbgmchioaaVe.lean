/- Contracts of number and text of the reader, whatever it has; of readerOf, told, ReadUint and ReadText. -/
import Derived.Test.YtepkpkbgmchioaaVd
namespace Go.Proofs.Ytepkpkbgmchioaa
open Go Go.RowKit

theorem number_any (w : World) (p : Nat) (s : Option (List Nat)) (h : Rd w p s) : Calls Try.prog 41 #[ptr p] w (NumS w p s) := by
  cases s with
  | none => exact number_gone w p h
  | some L => exact number_some w p L h
def TexS (w : World) (p : Nat) (s : Option (List Nat)) (e : Ending) (w' : World) : Prop :=
  ∃ t : ByteArray, e = .returned (.string t) ∧ Rd w' p ((s.bind rdT).map (·.2)) ∧ Only (fun b => b = p) w w' ∧ t.size ≤ 65536 ∧ ∀ x r, s.bind rdT = some (x, r) → lst t = x
theorem rdT_bad {s : Option (List Nat)} (h : s.bind rdU = none) : s.bind rdT = none := by
  cases s with
  | none => rfl
  | some L => have h' : rdU L = none := h; show rdT L = none; unfold rdT; rw [h']
theorem rdT_of {s : Option (List Nat)} {n : Nat} {r : List Nat} (h : s.bind rdU = some (n, r)) : s.bind rdT = if n ≤ 65536 ∧ n ≤ r.length then some (r.take n, r.drop n) else none := by
  cases s with
  | none => cases h
  | some L => have h' : rdU L = some (n, r) := h; show rdT L = _; unfold rdT; rw [h']
theorem Rd.bytes {w : World} {p : Nat} {L : List Nat} (h : Rd w p (some L)) : L.length ≤ 100000 ∧ ∀ x ∈ L, x < 256 := by
  obtain ⟨_, _, _, _, _, _, h5, h6, h7⟩ := h
  rcases h5 with h | h <;> cases h
  exact ⟨h6, h7⟩
set_option maxRecDepth 100000 in
set_option maxHeartbeats 1000000 in
theorem text_any (w : World) (p : Nat) (s : Option (List Nat)) (h : Rd w p s) : Calls Try.prog 43 #[ptr p] w (TexS w p s) := by
  have hnum := number_any w p s h
  clear h
  have hcn : ∀ w : World, (convert 22 9 (.slice none 0 0)).run Try.prog w = .ok (.string ⟨#[]⟩) w := fun w => (BL.nil w none).conv 0
  have hbad : ∀ (w2 w3 : World), s.bind rdT = none → Rd w3 p none → Only (fun b => b = p) w w3 → TexS w p s (.returned (.string ⟨#[]⟩)) w3 := fun w2 w3 h1 h2 h3 =>
    ⟨⟨#[]⟩, rfl, by rw [h1]; exact h2, h3, by simp [ByteArray.size], fun x r h => by rw [h1] at h; cases h⟩
  have HBAD := hid hbad
  clear hbad
  cases hs : s.bind rdU with
  | none =>
    have HT := hid (rdT_bad hs)
    have HS := hid hs
    clear hs
    go_enter Try.func43, Try.ntmps43
    go_wp2_with (first
      | (go_at_call 41; refine hnum.mono ?_; rintro e w1 ⟨v, rfl, hr1, ho1, _⟩; rw [HS.out] at hr1; have HR1 := hid hr1; have HO1 := hid ho1; clear hr1 ho1)
      | (go_at_call 59; refine (need_gone _ p _ HR1.out).mono ?_; rintro e w2 ⟨rfl, hw2⟩; have hw3 := hw2.symm; subst hw3)
      | (go_at_call 60; refine (take_bad _ p _ none HR1.out (fun L h => by cases h)).mono ?_; rintro e w3 ⟨rfl, hr3, ho3⟩; have HR3 := hid hr3; have HO3 := hid ho3; clear hr3 ho3))
    go_ret
    exact HBAD.out w _ HT.out HR3.out (HO1.out.trans HO3.out)
  | some q =>
    obtain ⟨n, r⟩ := q
    have HT := hid (rdT_of hs)
    have HS := hid hs
    clear hs
    by_cases hn : n ≤ 65536
    · by_cases hl : n ≤ r.length
      · have hn' : (n : Int) ≤ 65536 := by omega
        go_enter Try.func43, Try.ntmps43
        go_wp2_with (first
          | (go_at_call 41; refine hnum.mono ?_; rintro e w1 ⟨v, rfl, hr1, ho1, hv⟩; have hv2 := hv n r HS.out; subst hv2; rw [HS.out] at hr1; have HR1 := hid hr1; have HO1 := hid ho1; clear hr1 ho1 hv)
          | (go_at_call 59; refine (need_true _ p).mono ?_; rintro e w2 ⟨rfl, hw2⟩; have hw3 := hw2.symm; subst hw3)
          | (go_at_call 60; refine (take_ok _ p n r HR1.out hl).mono ?_; rintro e w3 ⟨po, rfl, hb3, hr3, ho3, _⟩; have hcv := hb3.conv n; rw [show (r.take n).length = n by rw [List.length_take]; omega] at hcv; have HR3 := hid hr3; have HO3 := hid ho3; clear hr3 ho3))
        go_ret
        have e := HT.out
        rw [if_pos ⟨hn, hl⟩] at e
        refine ⟨_, rfl, by rw [e]; exact HR3.out, HO1.out.trans HO3.out, ?_, fun x r2 h => ?_⟩
        · unfold ba; rw [strOfNums_size, List.length_map, List.length_take]; omega
        · rw [e] at h; cases h; exact lst_ba fun x hx => HR1.out.bytes.2 x (List.mem_of_mem_take hx)
      · have hn' : (n : Int) ≤ 65536 := by omega
        have e := HT.out
        rw [if_neg (fun h => hl h.2)] at e
        have HE := hid e
        clear e
        go_enter Try.func43, Try.ntmps43
        go_wp2_with (first
          | (go_at_call 41; refine hnum.mono ?_; rintro e w1 ⟨v, rfl, hr1, ho1, hv⟩; have hv2 := hv n r HS.out; subst hv2; rw [HS.out] at hr1; have HR1 := hid hr1; have HO1 := hid ho1; clear hr1 ho1 hv)
          | (go_at_call 59; refine (need_true _ p).mono ?_; rintro e w2 ⟨rfl, hw2⟩; have hw3 := hw2.symm; subst hw3)
          | (go_at_call 60; refine (take_bad _ p _ (some r) HR1.out (fun L h => by cases h; omega)).mono ?_; rintro e w3 ⟨rfl, hr3, ho3⟩; have HR3 := hid hr3; have HO3 := hid ho3; clear hr3 ho3))
        go_ret
        exact HBAD.out w _ HE.out HR3.out (HO1.out.trans HO3.out)
    · have hn' : ¬ (n : Int) ≤ 65536 := by omega
      have e := HT.out
      rw [if_neg (fun h => hn h.1)] at e
      have HE := hid e
      clear e
      go_enter Try.func43, Try.ntmps43
      go_wp2_with (first
        | (go_at_call 41; refine hnum.mono ?_; rintro e w1 ⟨v, rfl, hr1, ho1, hv⟩; have hv2 := hv n r HS.out; subst hv2; rw [HS.out] at hr1; have HR1 := hid hr1; have HO1 := hid ho1; clear hr1 ho1 hv)
        | (go_at_call 59; refine (need_any _ p _ _ HR1.out).mono ?_; rintro e w2 ⟨rfl, hr2, ho2⟩; have HR2 : Hid (Rd w2 p none) := hid (by have hz : ¬ ((n : Int) ≤ 65536) := (by omega); simpa [hz] using hr2); have HO2 := hid ho2; clear hr2 ho2)
        | (go_at_call 60; refine (take_bad _ p _ none HR2.out (fun L h => by cases h)).mono ?_; rintro e w3 ⟨rfl, hr3, ho3⟩; have HR3 := hid hr3; have HO3 := hid ho3; clear hr3 ho3))
      go_ret
      exact HBAD.out w _ HE.out HR3.out (HO1.out.trans (HO2.out.trans HO3.out))
theorem clip_bl (po : Option Addr) (n c : Nat) (hc : n ≤ c) (w : World) : Calls Try.prog 36 #[.slice po n c] w fun e w' => e = .returned (.slice po n n) ∧ w' = w := by
  have hs := run_clip8 po n c hc
  go_enter Try.func36, Try.ntmps36
  go_wp2
  go_ret
  exact ⟨rfl, rfl⟩
theorem readerOf_any (po : Option Addr) (c : Nat) (bs : List Nat) (w : World) (h : BL w po bs) (hc : bs.length ≤ c) (hn : bs.length ≤ 100000) (h8 : ∀ x ∈ bs, x < 256) :
    Calls Try.prog 39 #[.slice po bs.length c] w fun e w' => e = .returned (ptr w.heap.size) ∧ Rd w' w.heap.size (some bs) ∧ Below w.heap.size w w' := by
  have H := hid h
  have H8 := hid h8
  clear h h8
  go_enter Try.func39, Try.ntmps39
  go_wp2_with (go_at_call 36; refine (clip_bl po bs.length c hc w).mono ?_; rintro e w2 ⟨rfl, hw2⟩; have hw3 := hw2.symm; subst hw3)
  go_ret
  refine ⟨rfl, ⟨po, bs, CAt.made _ _ _, H.out.below (below_al _ _), fun hne a ha => ?_, fun e => ?_, Or.inr rfl, hn, H8.out⟩, below_al _ _⟩
  · rcases H.out with h | ⟨b, o, h1, h2⟩
    · exact absurd h hne
    · rw [h1] at ha; cases ha
      have := h2 0 (List.length_pos_iff.2 hne)
      exact cell_lt' (a := ⟨b, o + 0, none⟩) (by rw [this]; simp)
  · rcases H.out with h | ⟨b, o, h1, h2⟩
    · exact h
    · rw [h1] at e; cases e
def TolS (w : World) (L : List Nat) (v : Value) (e : Ending) (w' : World) : Prop := ∃ out, e = .returned (.tuple #[v, out, i64 0]) ∧ OutB w.heap.size w' out L ∧ Below w.heap.size w w'
theorem toldI_bad (w : World) (p : Nat) (v : Int) (h : Rd w p none) : Calls Try.prog 40 #[ptr p, i64 v] w fun e w' => e = .returned (.tuple #[i64 0, .slice none 0 0, i64 4]) ∧ Below w.heap.size w w' := by
  obtain ⟨po, L, h1, _⟩ := h
  have c1 := h1.cell 1
  simp at c1
  clear h1
  go_enter Try.func40, Try.ntmps40
  go_wp2
  go_region
  go_wp2
  go_ret3
  exact ⟨rfl, (Below.refl _ _).drew⟩
theorem toldI_ok (w : World) (p : Nat) (K : List Nat) (v : Int) (h : Rd w p (some K)) : Calls Try.prog 40 #[ptr p, i64 v] w (TolS w K (i64 v)) := by
  obtain ⟨po, L, h1, h2, h3, h4, h5, h6, h7⟩ := h
  have c0 := h1.cell 0
  have c1 := h1.cell 1
  have e : K = L := by rcases h5 with h | h <;> cases h; rfl
  subst e
  simp at c0 c1
  have hf := fresh_any po K.length K w h2 (fun e => by rw [h4 e]; rfl) (by omega)
  clear h1 h2 h3 h4 h5 h6 h7
  go_enter Try.func40, Try.ntmps40
  go_wp2_with (go_at_call 57; refine hf.mono ?_; rintro e w2 ⟨v2, rfl, ho, hb⟩)
  go_ret3
  exact ⟨v2, rfl, ho, hb⟩
theorem toldT_bad (w : World) (p : Nat) (v : ByteArray) (h : Rd w p none) : Calls Try.prog 42 #[ptr p, .string v] w fun e w' => e = .returned (.tuple #[.string ⟨#[]⟩, .slice none 0 0, i64 4]) ∧ Below w.heap.size w w' := by
  obtain ⟨po, L, h1, _⟩ := h
  have c1 := h1.cell 1
  simp at c1
  clear h1
  go_enter Try.func42, Try.ntmps42
  go_wp2
  go_region
  go_wp2
  go_ret3
  exact ⟨rfl, (Below.refl _ _).drew⟩
theorem toldT_ok (w : World) (p : Nat) (K : List Nat) (v : ByteArray) (h : Rd w p (some K)) : Calls Try.prog 42 #[ptr p, .string v] w (TolS w K (.string v)) := by
  obtain ⟨po, L, h1, h2, h3, h4, h5, h6, h7⟩ := h
  have c0 := h1.cell 0
  have c1 := h1.cell 1
  have e : K = L := by rcases h5 with h | h <;> cases h; rfl
  subst e
  simp at c0 c1
  have hf := fresh_any po K.length K w h2 (fun e => by rw [h4 e]; rfl) (by omega)
  clear h1 h2 h3 h4 h5 h6 h7
  go_enter Try.func42, Try.ntmps42
  go_wp2_with (go_at_call 57; refine hf.mono ?_; rintro e w2 ⟨v2, rfl, ho, hb⟩)
  go_ret3
  exact ⟨v2, rfl, ho, hb⟩
theorem readUint_bad (po : Option Addr) (c : Nat) (bs : List Nat) (w : World) (h : BL w po bs) (hc : bs.length ≤ c) (hn : bs.length ≤ 100000) (h8 : ∀ x ∈ bs, x < 256) (hq : rdU bs = none) :
    Calls Try.prog 15 #[.slice po bs.length c] w fun e w' => e = .returned (.tuple #[i64 0, .slice none 0 0, i64 4]) ∧ Below w.heap.size w w' := by
  have hro := readerOf_any po c bs w h hc hn h8
  have HQ : Hid ((some bs).bind rdU = none) := hid hq
  clear h h8 hq
  go_enter Try.func15, Try.ntmps15
  go_wp2_with (first
    | (go_at_call 39; refine hro.mono ?_; rintro e w1 ⟨rfl, hr1, hb1⟩; have HB1 := hid hb1; have HR1 := hid hr1; clear hr1 hb1)
    | (go_at_call 41; refine (number_any _ _ _ HR1.out).mono ?_; rintro e w2 ⟨v, rfl, hr2, ho2, _⟩; rw [HQ.out] at hr2; have HR2 := hid hr2; have HO2 := hid ho2; clear hr2 ho2)
    | (go_at_call 40; refine (toldI_bad _ _ _ HR2.out).mono ?_; rintro e w3 ⟨rfl, hb3⟩; have HB3 := hid hb3; clear hb3)) 
  go_ret3
  exact ⟨rfl, below_on (below_tr HB1.out (HO2.out.below HB1.out.size (fun i e => by omega))) HB3.out⟩
def readUintS (w : World) (x : Nat) (r : List Nat) (e : Ending) (w' : World) : Prop := ∃ out, e = .returned (.tuple #[i64 x, out, i64 0]) ∧ OutB w.heap.size w' out r ∧ Below w.heap.size w w'
theorem readUint_ok (po : Option Addr) (c : Nat) (bs : List Nat) (w : World) (h : BL w po bs) (hc : bs.length ≤ c) (hn : bs.length ≤ 100000) (h8 : ∀ x ∈ bs, x < 256) {x : Nat} {r : List Nat} (hq : rdU bs = some (x, r)) :
    Calls Try.prog 15 #[.slice po bs.length c] w (readUintS w x r) := by
  have hro := readerOf_any po c bs w h hc hn h8
  have HQ : Hid ((some bs).bind rdU = some (x, r)) := hid hq
  clear h h8 hq
  go_enter Try.func15, Try.ntmps15
  go_wp2_with (first
    | (go_at_call 39; refine hro.mono ?_; rintro e w1 ⟨rfl, hr1, hb1⟩; have HB1 := hid hb1; have HR1 := hid hr1; clear hr1 hb1)
    | (go_at_call 41; refine (number_any _ _ _ HR1.out).mono ?_; rintro e w2 ⟨v, rfl, hr2, ho2, hv⟩; have hv2 := hv _ _ HQ.out; subst hv2; rw [HQ.out] at hr2; have HR2 := hid hr2; have HO2 := hid ho2; clear hr2 ho2 hv)
    | (go_at_call 40; refine (toldI_ok _ _ r _ HR2.out).mono ?_; rintro e w3 ⟨out, rfl, hout, hb3⟩; have HT := hid hout; have HB3 := hid hb3; clear hout hb3))
  go_ret3
  have h2 := below_tr HB1.out (HO2.out.below HB1.out.size (fun i e => by omega))
  exact ⟨out, rfl, HT.out.base h2.size, below_on h2 HB3.out⟩
theorem readText_bad (po : Option Addr) (c : Nat) (bs : List Nat) (w : World) (h : BL w po bs) (hc : bs.length ≤ c) (hn : bs.length ≤ 100000) (h8 : ∀ x ∈ bs, x < 256) (hq : rdT bs = none) :
    Calls Try.prog 16 #[.slice po bs.length c] w fun e w' => e = .returned (.tuple #[.string ⟨#[]⟩, .slice none 0 0, i64 4]) ∧ Below w.heap.size w w' := by
  have hro := readerOf_any po c bs w h hc hn h8
  have HQ : Hid ((some bs).bind rdT = none) := hid hq
  clear h h8 hq
  go_enter Try.func16, Try.ntmps16
  go_wp2_with (first
    | (go_at_call 39; refine hro.mono ?_; rintro e w1 ⟨rfl, hr1, hb1⟩; have HB1 := hid hb1; have HR1 := hid hr1; clear hr1 hb1)
    | (go_at_call 43; refine (text_any _ _ _ HR1.out).mono ?_; rintro e w2 ⟨v, rfl, hr2, ho2, _⟩; rw [HQ.out] at hr2; have HR2 := hid hr2; have HO2 := hid ho2; clear hr2 ho2)
    | (go_at_call 42; refine (toldT_bad _ _ _ HR2.out).mono ?_; rintro e w3 ⟨rfl, hb3⟩; have HB3 := hid hb3; clear hb3)) 
  go_ret3
  exact ⟨rfl, below_on (below_tr HB1.out (HO2.out.below HB1.out.size (fun i e => by omega))) HB3.out⟩
def readTextS (w : World) (x : List Nat) (r : List Nat) (e : Ending) (w' : World) : Prop := ∃ t : ByteArray, ∃ out, lst t = x ∧ t.size ≤ 65536 ∧ e = .returned (.tuple #[.string t, out, i64 0]) ∧ OutB w.heap.size w' out r ∧ Below w.heap.size w w'
theorem readText_ok (po : Option Addr) (c : Nat) (bs : List Nat) (w : World) (h : BL w po bs) (hc : bs.length ≤ c) (hn : bs.length ≤ 100000) (h8 : ∀ x ∈ bs, x < 256) {x : List Nat} {r : List Nat} (hq : rdT bs = some (x, r)) :
    Calls Try.prog 16 #[.slice po bs.length c] w (readTextS w x r) := by
  have hro := readerOf_any po c bs w h hc hn h8
  have HQ : Hid ((some bs).bind rdT = some (x, r)) := hid hq
  clear h h8 hq
  go_enter Try.func16, Try.ntmps16
  go_wp2_with (first
    | (go_at_call 39; refine hro.mono ?_; rintro e w1 ⟨rfl, hr1, hb1⟩; have HB1 := hid hb1; have HR1 := hid hr1; clear hr1 hb1)
    | (go_at_call 43; refine (text_any _ _ _ HR1.out).mono ?_; rintro e w2 ⟨v, rfl, hr2, ho2, hz, hv⟩; have hv2 := hv _ _ HQ.out; rw [HQ.out] at hr2; have HR2 := hid hr2; have HO2 := hid ho2; clear hr2 ho2 hv)
    | (go_at_call 42; refine (toldT_ok _ _ r _ HR2.out).mono ?_; rintro e w3 ⟨out, rfl, hout, hb3⟩; have HT := hid hout; have HB3 := hid hb3; clear hout hb3))
  go_ret3
  have h2 := below_tr HB1.out (HO2.out.below HB1.out.size (fun i e => by omega))
  exact ⟨v, out, hv2, hz, rfl, HT.out.base h2.size, below_on h2 HB3.out⟩
#print axioms readUint_ok
#print axioms readText_ok
end Go.Proofs.Ytepkpkbgmchioaa
