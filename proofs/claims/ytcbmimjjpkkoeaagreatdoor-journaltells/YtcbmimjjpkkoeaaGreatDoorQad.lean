/- Texts laid into one: the remark ahead of each part says what is proved there. -/
import Derived.Test.YtcbmimjjpkkoeaaGreatDoorQac
/- Contracts of number and text of the reader, whatever it has; of readerOf, told, ReadUint and ReadText. -/
namespace Go.Proofs.YtcbmimjjpkkoeaaGreatDoor
open Go Go.RowKit

theorem number_any (w : World) (p : Nat) (s : Option (List Nat)) (h : Rd w p s) : Calls Tryz.prog 110 #[ptr p] w (NumS w p s) := by
  cases s with
  | none => exact number_gone w p h
  | some L => exact number_some w p L h
def TexS (w : World) (p : Nat) (s : Option (List Nat)) (e : Ending) (w' : World) : Prop :=
  ∃ t : ByteArray, e = .returned (.string t) ∧ Rd w' p ((s.bind rdT).map (·.2)) ∧ Only (fun b => b = p) w w' ∧ t.size ≤ 65536 ∧ ∀ x r, s.bind rdT = some (x, r) → lst t = x
theorem rdT_bad {s : Option (List Nat)} (h : s.bind rdU = none) : s.bind rdT = none := by
  cases s with
  | none => rfl
  | some L => have h' : rdU L = none := h; show rdT L = none; unfold rdT; rw [h']
theorem rdT_of {s : Option (List Nat)} {n : Nat} {r : List Nat} (h : s.bind rdU = some (n, r)) : s.bind rdT = if n ≤ 65536 ∧ n ≤ r.length then some (r.take n, r.drop n) else none := by
  cases s with
  | none => cases h
  | some L => have h' : rdU L = some (n, r) := h; show rdT L = _; unfold rdT; rw [h']
theorem Rd.bytes {w : World} {p : Nat} {L : List Nat} (h : Rd w p (some L)) : L.length ≤ 100000 ∧ ∀ x ∈ L, x < 256 := by
  obtain ⟨_, _, _, _, _, _, h5, h6, h7⟩ := h
  rcases h5 with h | h <;> cases h
  exact ⟨h6, h7⟩
set_option maxRecDepth 100000 in
set_option maxHeartbeats 1000000 in
theorem text_any (w : World) (p : Nat) (s : Option (List Nat)) (h : Rd w p s) : Calls Tryz.prog 112 #[ptr p] w (TexS w p s) := by
  have hnum := number_any w p s h
  clear h
  have hcn : ∀ w : World, (convert 25 9 (.slice none 0 0)).run Tryz.prog w = .ok (.string ⟨#[]⟩) w := fun w => (BL.nil w none).conv 0
  have hbad : ∀ (w2 w3 : World), s.bind rdT = none → Rd w3 p none → Only (fun b => b = p) w w3 → TexS w p s (.returned (.string ⟨#[]⟩)) w3 := fun w2 w3 h1 h2 h3 =>
    ⟨⟨#[]⟩, rfl, by rw [h1]; exact h2, h3, by simp [ByteArray.size], fun x r h => by rw [h1] at h; cases h⟩
  have HBAD := hid hbad
  clear hbad
  cases hs : s.bind rdU with
  | none =>
    have HT := hid (rdT_bad hs)
    have HS := hid hs
    clear hs
    go_enter Tryz.func112, Tryz.ntmps112
    go_wp2_with (first
      | (go_at_call 110; refine hnum.mono ?_; rintro e w1 ⟨v, rfl, hr1, ho1, _⟩; rw [HS.out] at hr1; have HR1 := hid hr1; have HO1 := hid ho1; clear hr1 ho1)
      | (go_at_call 114; refine (need_gone _ p _ HR1.out).mono ?_; rintro e w2 ⟨rfl, hw2⟩; have hw3 := hw2.symm; subst hw3)
      | (go_at_call 117; refine (take_bad _ p _ none HR1.out (fun L h => by cases h)).mono ?_; rintro e w3 ⟨rfl, hr3, ho3⟩; have HR3 := hid hr3; have HO3 := hid ho3; clear hr3 ho3))
    go_ret
    exact HBAD.out w _ HT.out HR3.out (HO1.out.trans HO3.out)
  | some q =>
    obtain ⟨n, r⟩ := q
    have HT := hid (rdT_of hs)
    have HS := hid hs
    clear hs
    by_cases hn : n ≤ 65536
    · by_cases hl : n ≤ r.length
      · have hn' : (n : Int) ≤ 65536 := by omega
        go_enter Tryz.func112, Tryz.ntmps112
        go_wp2_with (first
          | (go_at_call 110; refine hnum.mono ?_; rintro e w1 ⟨v, rfl, hr1, ho1, hv⟩; have hv2 := hv n r HS.out; subst hv2; rw [HS.out] at hr1; have HR1 := hid hr1; have HO1 := hid ho1; clear hr1 ho1 hv)
          | (go_at_call 114; refine (need_true _ p).mono ?_; rintro e w2 ⟨rfl, hw2⟩; have hw3 := hw2.symm; subst hw3)
          | (go_at_call 117; refine (take_ok _ p n r HR1.out hl).mono ?_; rintro e w3 ⟨po, rfl, hb3, hr3, ho3, _⟩; have hcv := hb3.conv n; rw [show (r.take n).length = n by rw [List.length_take]; omega] at hcv; have HR3 := hid hr3; have HO3 := hid ho3; clear hr3 ho3))
        go_ret
        have e := HT.out
        rw [if_pos ⟨hn, hl⟩] at e
        refine ⟨_, rfl, by rw [e]; exact HR3.out, HO1.out.trans HO3.out, ?_, fun x r2 h => ?_⟩
        · unfold ba; rw [strOfNums_size, List.length_map, List.length_take]; omega
        · rw [e] at h; cases h; exact lst_ba fun x hx => HR1.out.bytes.2 x (List.mem_of_mem_take hx)
      · have hn' : (n : Int) ≤ 65536 := by omega
        have e := HT.out
        rw [if_neg (fun h => hl h.2)] at e
        have HE := hid e
        clear e
        go_enter Tryz.func112, Tryz.ntmps112
        go_wp2_with (first
          | (go_at_call 110; refine hnum.mono ?_; rintro e w1 ⟨v, rfl, hr1, ho1, hv⟩; have hv2 := hv n r HS.out; subst hv2; rw [HS.out] at hr1; have HR1 := hid hr1; have HO1 := hid ho1; clear hr1 ho1 hv)
          | (go_at_call 114; refine (need_true _ p).mono ?_; rintro e w2 ⟨rfl, hw2⟩; have hw3 := hw2.symm; subst hw3)
          | (go_at_call 117; refine (take_bad _ p _ (some r) HR1.out (fun L h => by cases h; omega)).mono ?_; rintro e w3 ⟨rfl, hr3, ho3⟩; have HR3 := hid hr3; have HO3 := hid ho3; clear hr3 ho3))
        go_ret
        exact HBAD.out w _ HE.out HR3.out (HO1.out.trans HO3.out)
    · have hn' : ¬ (n : Int) ≤ 65536 := by omega
      have e := HT.out
      rw [if_neg (fun h => hn h.1)] at e
      have HE := hid e
      clear e
      go_enter Tryz.func112, Tryz.ntmps112
      go_wp2_with (first
        | (go_at_call 110; refine hnum.mono ?_; rintro e w1 ⟨v, rfl, hr1, ho1, hv⟩; have hv2 := hv n r HS.out; subst hv2; rw [HS.out] at hr1; have HR1 := hid hr1; have HO1 := hid ho1; clear hr1 ho1 hv)
        | (go_at_call 114; refine (need_any _ p _ _ HR1.out).mono ?_; rintro e w2 ⟨rfl, hr2, ho2⟩; have HR2 : Hid (Rd w2 p none) := hid (by have hz : ¬ ((n : Int) ≤ 65536) := (by omega); simpa [hz] using hr2); have HO2 := hid ho2; clear hr2 ho2)
        | (go_at_call 117; refine (take_bad _ p _ none HR2.out (fun L h => by cases h)).mono ?_; rintro e w3 ⟨rfl, hr3, ho3⟩; have HR3 := hid hr3; have HO3 := hid ho3; clear hr3 ho3))
      go_ret
      exact HBAD.out w _ HE.out HR3.out (HO1.out.trans (HO2.out.trans HO3.out))
theorem clip_bl (po : Option Addr) (n c : Nat) (hc : n ≤ c) (w : World) : Calls Tryz.prog 46 #[.slice po n c] w fun e w' => e = .returned (.slice po n n) ∧ w' = w := by
  have hs := run_clip8 po n c hc
  go_enter Tryz.func46, Tryz.ntmps46
  go_wp2
  go_ret
  exact ⟨rfl, rfl⟩
theorem readerOf_any (po : Option Addr) (c : Nat) (bs : List Nat) (w : World) (h : BL w po bs) (hc : bs.length ≤ c) (hn : bs.length ≤ 100000) (h8 : ∀ x ∈ bs, x < 256) :
    Calls Tryz.prog 104 #[.slice po bs.length c] w fun e w' => e = .returned (ptr w.heap.size) ∧ Rd w' w.heap.size (some bs) ∧ Below w.heap.size w w' := by
  have H := hid h
  have H8 := hid h8
  clear h h8
  go_enter Tryz.func104, Tryz.ntmps104
  go_wp2_with (go_at_call 46; refine (clip_bl po bs.length c hc w).mono ?_; rintro e w2 ⟨rfl, hw2⟩; have hw3 := hw2.symm; subst hw3)
  go_ret
  refine ⟨rfl, ⟨po, bs, CAt.made _ _ _, H.out.below (below_al _ _), fun hne a ha => ?_, fun e => ?_, Or.inr rfl, hn, H8.out⟩, below_al _ _⟩
  · rcases H.out with h | ⟨b, o, h1, h2⟩
    · exact absurd h hne
    · rw [h1] at ha; cases ha
      have := h2 0 (List.length_pos_iff.2 hne)
      exact cell_lt' (a := ⟨b, o + 0, none⟩) (by rw [this]; simp)
  · rcases H.out with h | ⟨b, o, h1, h2⟩
    · exact h
    · rw [h1] at e; cases e
def TolS (w : World) (L : List Nat) (v : Value) (e : Ending) (w' : World) : Prop := ∃ out, e = .returned (.tuple #[v, out, i64 0]) ∧ OutB w.heap.size w' out L ∧ Below w.heap.size w w'
theorem toldI_bad (w : World) (p : Nat) (v : Int) (h : Rd w p none) : Calls Tryz.prog 109 #[ptr p, i64 v] w fun e w' => e = .returned (.tuple #[i64 0, .slice none 0 0, i64 4]) ∧ Below w.heap.size w w' := by
  obtain ⟨po, L, h1, _⟩ := h
  have c1 := h1.cell 1
  simp at c1
  clear h1
  go_enter Tryz.func109, Tryz.ntmps109
  go_wp2
  go_region
  go_wp2
  go_ret3
  exact ⟨rfl, (Below.refl _ _).drew⟩
theorem toldI_ok (w : World) (p : Nat) (K : List Nat) (v : Int) (h : Rd w p (some K)) : Calls Tryz.prog 109 #[ptr p, i64 v] w (TolS w K (i64 v)) := by
  obtain ⟨po, L, h1, h2, h3, h4, h5, h6, h7⟩ := h
  have c0 := h1.cell 0
  have c1 := h1.cell 1
  have e : K = L := by rcases h5 with h | h <;> cases h; rfl
  subst e
  simp at c0 c1
  have hf := fresh_any po K.length K w h2 (fun e => by rw [h4 e]; rfl) (by omega)
  clear h1 h2 h3 h4 h5 h6 h7
  go_enter Tryz.func109, Tryz.ntmps109
  go_wp2_with (go_at_call 111; refine hf.mono ?_; rintro e w2 ⟨v2, rfl, ho, hb⟩)
  go_ret3
  exact ⟨v2, rfl, ho, hb⟩
theorem readUint_bad (po : Option Addr) (c : Nat) (bs : List Nat) (w : World) (h : BL w po bs) (hc : bs.length ≤ c) (hn : bs.length ≤ 100000) (h8 : ∀ x ∈ bs, x < 256) (hq : rdU bs = none) :
    Calls Tryz.prog 103 #[.slice po bs.length c] w fun e w' => e = .returned (.tuple #[i64 0, .slice none 0 0, i64 4]) ∧ Below w.heap.size w w' := by
  have hro := readerOf_any po c bs w h hc hn h8
  have HQ : Hid ((some bs).bind rdU = none) := hid hq
  clear h h8 hq
  go_enter Tryz.func103, Tryz.ntmps103
  go_wp2_with (first
    | (go_at_call 104; refine hro.mono ?_; rintro e w1 ⟨rfl, hr1, hb1⟩; have HB1 := hid hb1; have HR1 := hid hr1; clear hr1 hb1)
    | (go_at_call 110; refine (number_any _ _ _ HR1.out).mono ?_; rintro e w2 ⟨v, rfl, hr2, ho2, _⟩; rw [HQ.out] at hr2; have HR2 := hid hr2; have HO2 := hid ho2; clear hr2 ho2)
    | (go_at_call 109; refine (toldI_bad _ _ _ HR2.out).mono ?_; rintro e w3 ⟨rfl, hb3⟩; have HB3 := hid hb3; clear hb3)) 
  go_ret3
  exact ⟨rfl, below_on (below_tr HB1.out (HO2.out.below HB1.out.size (fun i e => by omega))) HB3.out⟩
def readUintS (w : World) (x : Nat) (r : List Nat) (e : Ending) (w' : World) : Prop := ∃ out, e = .returned (.tuple #[i64 x, out, i64 0]) ∧ OutB w.heap.size w' out r ∧ Below w.heap.size w w'
theorem readUint_ok (po : Option Addr) (c : Nat) (bs : List Nat) (w : World) (h : BL w po bs) (hc : bs.length ≤ c) (hn : bs.length ≤ 100000) (h8 : ∀ x ∈ bs, x < 256) {x : Nat} {r : List Nat} (hq : rdU bs = some (x, r)) :
    Calls Tryz.prog 103 #[.slice po bs.length c] w (readUintS w x r) := by
  have hro := readerOf_any po c bs w h hc hn h8
  have HQ : Hid ((some bs).bind rdU = some (x, r)) := hid hq
  clear h h8 hq
  go_enter Tryz.func103, Tryz.ntmps103
  go_wp2_with (first
    | (go_at_call 104; refine hro.mono ?_; rintro e w1 ⟨rfl, hr1, hb1⟩; have HB1 := hid hb1; have HR1 := hid hr1; clear hr1 hb1)
    | (go_at_call 110; refine (number_any _ _ _ HR1.out).mono ?_; rintro e w2 ⟨v, rfl, hr2, ho2, hv⟩; have hv2 := hv _ _ HQ.out; subst hv2; rw [HQ.out] at hr2; have HR2 := hid hr2; have HO2 := hid ho2; clear hr2 ho2 hv)
    | (go_at_call 109; refine (toldI_ok _ _ r _ HR2.out).mono ?_; rintro e w3 ⟨out, rfl, hout, hb3⟩; have HT := hid hout; have HB3 := hid hb3; clear hout hb3))
  go_ret3
  have h2 := below_tr HB1.out (HO2.out.below HB1.out.size (fun i e => by omega))
  exact ⟨out, rfl, HT.out.base h2.size, below_on h2 HB3.out⟩
def readTextS (w : World) (x : List Nat) (r : List Nat) (e : Ending) (w' : World) : Prop := ∃ t : ByteArray, ∃ out, lst t = x ∧ t.size ≤ 65536 ∧ e = .returned (.tuple #[.string t, out, i64 0]) ∧ OutB w.heap.size w' out r ∧ Below w.heap.size w w'
#print axioms readUint_ok

end Go.Proofs.YtcbmimjjpkkoeaaGreatDoor

/- Contracts of the document's Uint, Text, ReadUint and ReadText. -/
namespace Go.Proofs.YtcbmimjjpkkoeaaGreatDoor
open Go Go.RowKit

theorem Buf.one (w : World) (k : Nat) (B : Nat) (hB : B ≤ w.heap.size) : Buf B (w.alloc (.cells #[u8 k] 5)) (.slice (some ⟨w.heap.size, 0, none⟩) 1 1) [k] :=
  ⟨rfl, Or.inr ⟨w.heap.size, 1, #[u8 k], rfl, hB, at_new _ _, Nat.le_refl _, by unfold maxLen; omega, rfl, rfl⟩⟩
theorem Buf.base {B C : Nat} {w : World} {v : Value} {L : List Nat} (h : Buf B w v L) (hC : C ≤ B) : Buf C w v L := own_base h hC
theorem Buf.capn {B : Nat} {w : World} {n c : Nat} {L : List Nat} (h : Buf B w (.slice none n c) L) : c = 0 := by
  rcases h.2 with ⟨h, _⟩ | ⟨g, _, _, h, _⟩
  · simp at h; exact h.2
  · simp at h
set_option maxRecDepth 100000 in
theorem rUint_k (k : Nat) : ∀ (n : Nat) (w : World), n < 128 ^ (k + 1) → n ≤ 1099511627776 → Calls Tryz.prog 31 #[i64 n] w (BufS w.heap.size w (nb n)) := by
  induction k with
  | zero =>
    intro n w hk hn
    have hlt : (n : Int) < 128 := by omega
    have HB := hid (Buf.one w n w.heap.size (Nat.le_refl _))
    go_enter Tryz.func31, Tryz.ntmps31
    go_wp2_with fail
    go_ret
    rw [nb_lt (by omega)]
    exact ⟨_, rfl, HB.out, below_al _ _⟩
  | succ k ih =>
    intro n w hk hn
    by_cases hlt : (n : Int) < 128
    · have HB := hid (Buf.one w n w.heap.size (Nat.le_refl _))
      go_enter Tryz.func31, Tryz.ntmps31
      go_wp2_with fail
      go_ret
      rw [nb_lt (by omega)]
      exact ⟨_, rfl, HB.out, below_al _ _⟩
    · have h128 : n / 128 < 128 ^ (k + 1) := by rw [Nat.pow_succ] at hk; exact Nat.div_lt_of_lt_mul (by rw [Nat.mul_comm]; exact hk)
      have HB := hid (Buf.one w (n % 128 + 128) w.heap.size (Nat.le_refl _))
      have HIH := hid (ih (n / 128) (w.alloc (.cells #[u8 (n % 128 + 128)] 5)) h128 (by omega))
      have hc : (n : Int) % 128 + 128 = ((n % 128 + 128 : Nat) : Int) := by omega
      have hlen := nb_le (n := n / 128) (by omega)
      have e0 : nb n = (n % 128 + 128) :: nb (n / 128) := nb_ge (by omega)
      have HE := hid e0
      generalize hcc : n % 128 + 128 = cc at *
      clear e0 ih h128
      go_enter Tryz.func31, Tryz.ntmps31
      go_wp2_with (first
        | (go_at_call 31; refine (HIH.out).mono ?_; rintro e w2 ⟨v2, rfl, hb2, hw2⟩; obtain ⟨po2, c2, rfl⟩ := hb2.form; obtain ⟨v3, w3, hr3, hb3, hg3⟩ := (HB.out.below hw2).app po2 c2 _ hb2.bl (fun e => by subst e; exact hb2.capn) (by simp; omega) (by have := hw2.size; rw [size_al] at this; omega); have HRUN := hid hr3; clear hr3)
        | (at_builtin; refine wpList_append_run _ _ 25 25 rfl rfl _ _ _ rfl rfl HRUN.out ?_))
      go_ret
      rw [HE.out]
      exact ⟨v3, rfl, hb3, below_grown (below_on (below_al _ _) hw2) hg3 (Nat.le_refl _) (fun b hb => by cases hb; exact Nat.le_refl _)⟩
theorem rUint_any (n : Nat) (w : World) (hn : n ≤ 1099511627776) : Calls Tryz.prog 31 #[i64 n] w (BufS w.heap.size w (nb n)) := rUint_k 5 n w (by omega) hn
theorem rText_any (s : ByteArray) (w : World) (hn : s.size ≤ 65536) : Calls Tryz.prog 60 #[.string s] w (BufS w.heap.size w (tb (lst s))) := by
  go_enter Tryz.func60, Tryz.ntmps60
  go_wp2_with (first
    | (go_at_call 31; refine (rUint_any s.size w (by omega)).mono ?_; rintro e w1 ⟨v1, rfl, hb1, hw1⟩; have hlen := nb_le (n := s.size) (by omega); obtain ⟨v2, w2, hr, hb2, hw2⟩ := hb1.appS s (by omega) hw1.size; have HRUN := hid hr; clear hr)
    | (at_builtin; refine wpList_append_run _ _ 25 9 rfl rfl _ _ _ rfl rfl HRUN.out ?_))
  go_ret
  refine ⟨v2, rfl, ?_, below_tr hw1 hw2⟩
  unfold tb; rw [lst_len]; exact hb2
#print axioms rText_any
end Go.Proofs.YtcbmimjjpkkoeaaGreatDoor

/- Contracts of the document's ReadUint and ReadText. (The rounds of the loop are written by tools/gen_Vg.py.) -/
namespace Go.Proofs.YtcbmimjjpkkoeaaGreatDoor
open Go Go.RowKit

/-- A slice leads to these bytes. -/
def SL (w : World) (v : Value) (r : List Nat) : Prop := ∃ po c, v = .slice po r.length c ∧ BL w po r ∧ r.length ≤ c
theorem SL.below {w w' : World} {v : Value} {r : List Nat} (h : SL w v r) (hb : Below w.heap.size w w') : SL w' v r := by
  obtain ⟨po, c, h1, h2, h3⟩ := h; exact ⟨po, c, h1, h2.below hb, h3⟩
def RuS (w : World) (q : Option (Nat × List Nat)) (e : Ending) (w' : World) : Prop := Below w.heap.size w w' ∧ match q with
  | none => e = .returned (.tuple #[i64 0, .slice none 0 0, .bool false])
  | some (n, r) => ∃ v, e = .returned (.tuple #[i64 n, v, .bool true]) ∧ SL w' v r
theorem BL.from8 {w : World} {po : Option Addr} {bs : List Nat} (h : BL w po bs) (c l : Nat) (hl : l ≤ bs.length) (hc : bs.length ≤ c) : ∃ p2 : Option Addr, (∀ w : World, (Instr.slice 25 (.slice po bs.length c) (some (.int .i64 (l : Int))) none none).run Tryz.prog w = .ok (.slice p2 (bs.length - l) (c - l)) w) ∧ SL w (.slice p2 (bs.length - l) (c - l)) (bs.drop l) := by
  obtain ⟨p2, h1, h2, _, _⟩ := run_from8 po bs.length c l hl hc
  refine ⟨p2, h1, p2, c - l, by rw [List.length_drop], ?_, by rw [List.length_drop]; omega⟩
  rcases Nat.lt_or_ge l bs.length with hlt | hge
  · rcases h with e | ⟨b, o, hpo, hc⟩
    · subst e; simp at hlt
    · rw [h2 b o hpo hlt]
      exact BL.drop (Or.inr ⟨b, o, rfl, hc⟩) l
  · exact Or.inl (List.drop_eq_nil_of_le hge)
theorem drop_cons {bs : List Nat} {i : Nat} (h : i < bs.length) : bs.drop i = bs.getD i 0 :: bs.drop (i + 1) := by
  rw [List.drop_eq_getElem_cons h]; simp [List.getD, h]
set_option maxRecDepth 100000 in
set_option maxHeartbeats 4000000 in
theorem rReadUint_any (po : Option Addr) (c0 : Nat) (bs : List Nat) (w : World) (h : BL w po bs) (hc0 : bs.length ≤ c0) (hn : bs.length ≤ 100000) (h8 : ∀ x ∈ bs, x < 256) :
    Calls Tryz.prog 74 #[.slice po bs.length c0] w (RuS w (rdU bs)) := by
  have H := hid h
  have H8 := hid h8
  clear h h8
  go_enter Tryz.func74, Tryz.ntmps74
  go_wp2
  go_loopw [5, 6, 7] (fun nv uv iv wr => ∃ (i acc : Nat), i ≤ 6 ∧ i ≤ bs.length ∧ nv = i64 acc ∧ uv = i64 ((128 ^ i : Nat) : Int) ∧ iv = i64 i ∧ Acc bs i acc (bs.drop i) ∧ w = wr) (fun _ _ iv _ => (7 - intOf iv).toNat)
  case atStart => exact ⟨0, 0, by omega, by omega, rfl, rfl, rfl, by simpa using Acc.start bs, rfl⟩
  case round =>
    obtain ⟨i, acc, hi, hib, rfl, rfl, rfl, ha, hw⟩ := hrel
    subst hw
    have HA := hid ha
    clear ha
    have hi6 : i = 0 ∨ i = 1 ∨ i = 2 ∨ i = 3 ∨ i = 4 ∨ i = 5 ∨ i = 6 := by omega
    rcases hi6 with rfl | rfl | rfl | rfl | rfl | rfl | rfl
    · by_cases hlt : 0 < bs.length
      · have hlt' : (0 : Int) < (bs.length : Int) := by omega
        have hd := drop_cons hlt
        have hcb : bs.getD 0 0 < 256 := H8.out _ (by rw [List.getD_eq_getElem?_getD, List.getElem?_eq_getElem hlt]; exact List.getElem_mem hlt)
        have hat : ∃ b o, po = some ⟨b, o, none⟩ ∧ w.cell? ⟨b, o + 0, none⟩ = some (.int .u8 ((bs.getD 0 0 : Nat) : Int)) := by
          rcases H.out with e | ⟨b, o, e, hcell⟩
          · subst e; simp at hlt
          · exact ⟨b, o, e, hcell 0 hlt⟩
        obtain ⟨b, o, rfl, hcell⟩ := hat
        simp only [Nat.add_zero] at hcell
        rw [hd] at HA
        generalize bs.getD 0 0 = c at hcell HA hcb hd
        have HD := hid hd
        clear hd
        have hacc : acc < 1 := HA.out.1
        simp only [Nat.reducePow]
        by_cases hc : c < 128
        · have hc' : (c : Int) % 128 = (c : Int) := by omega
          have HU := hid (HA.out.last (by omega) hc)
          simp only [Nat.reducePow] at HU
          obtain rfl : acc = 0 := by omega
          have HU2 : Hid (rdG 6 bs = some (c, bs.drop 1)) := hid (by rw [HU.out]; simp)
          have HUN : Hid (rdU bs = some (c, bs.drop 1)) := hid (by rw [rdU_at HU2.out, if_pos (by omega)])
          obtain ⟨p2, hsl0, hS⟩ := H.out.from8 c0 1 (by omega) hc0
          have hsl : ∀ w : World, (Instr.slice 25 (.slice (some ⟨b, o, none⟩) bs.length c0) (some (.int .i64 1)) none none).run Tryz.prog w = .ok (.slice p2 (bs.length - 1) (c0 - 1)) w := hsl0
          have HS := hid hS
          clear hS HU HU2 hsl0 HA hacc
          by_cases hz : c = 0
          · subst hz
            go_wp2
            go_region
            go_wp2
            go_ret3
            exact ⟨(Below.refl _ _).drew, by rw [HUN.out]; exact ⟨_, rfl, HS.out.below (Below.refl _ _).drew⟩⟩
          · go_wp2
            go_region
            go_wp2
            go_ret3
            exact ⟨(Below.refl _ _).drew, by rw [HUN.out]; exact ⟨_, rfl, HS.out.below (Below.refl _ _).drew⟩⟩
        · have HM := hid (HA.out.more (by omega) (by omega) hcb)
          simp only [Nat.reducePow] at HM
          have hsum : (acc : Int) + (c : Int) % 128 = ((acc + 1 * (c % 128) : Nat) : Int) := by omega
          have hNb : acc + 1 * (c % 128) < 128 := by omega
          generalize acc + 1 * (c % 128) = N at hsum HM hNb
          clear HA hacc
          go_wp2
          exact ⟨⟨1, N, by omega, by omega, rfl, rfl, rfl, HM.out, by trivial⟩, by simp [intOf]⟩
      · have hlt' : ¬ (0 : Int) < (bs.length : Int) := by omega
        have e : bs.drop 0 = [] := List.drop_eq_nil_of_le (by omega)
        rw [e] at HA
        have HU := hid (rdU_none (HA.out.short (by omega)))
        clear HA e
        go_wp2
        go_ret3
        exact ⟨Below.refl _ _, by rw [HU.out]; rfl⟩
    · by_cases hlt : 1 < bs.length
      · have hlt' : (1 : Int) < (bs.length : Int) := by omega
        have hd := drop_cons hlt
        have hcb : bs.getD 1 0 < 256 := H8.out _ (by rw [List.getD_eq_getElem?_getD, List.getElem?_eq_getElem hlt]; exact List.getElem_mem hlt)
        have hat : ∃ b o, po = some ⟨b, o, none⟩ ∧ w.cell? ⟨b, o + 1, none⟩ = some (.int .u8 ((bs.getD 1 0 : Nat) : Int)) := by
          rcases H.out with e | ⟨b, o, e, hcell⟩
          · subst e; simp at hlt
          · exact ⟨b, o, e, hcell 1 hlt⟩
        obtain ⟨b, o, rfl, hcell⟩ := hat
        skip
        rw [hd] at HA
        generalize bs.getD 1 0 = c at hcell HA hcb hd
        have HD := hid hd
        clear hd
        have hacc : acc < 128 := HA.out.1
        simp only [Nat.reducePow]
        by_cases hc : c < 128
        · have hc' : (c : Int) % 128 = (c : Int) := by omega
          have HU := hid (HA.out.last (by omega) hc)
          simp only [Nat.reducePow] at HU
          have hsum : (acc : Int) + (c : Int) * 128 = ((acc + 128 * c : Nat) : Int) := by omega
          have hNb : acc + 128 * c < 16384 := by omega
          generalize acc + 128 * c = N at hsum HU hNb
          clear HA hacc
          by_cases hz : (c : Int) = 0
          · have HUN : Hid (rdU bs = none) := hid (rdU_none (by rw [HU.out]; simp; omega))
            clear HU
            have hc0' : c = 0 := by omega
            subst hc0'
            have hsum0 : (acc : Int) = (N : Int) := by omega
            go_wp2
            go_ret3
            exact ⟨Below.refl _ _, by rw [HUN.out]; rfl⟩
          · have HU2 : Hid (rdG 6 bs = some (N, bs.drop 2)) := hid (by rw [HU.out, if_neg (by omega)])
            by_cases hbig : 1099511627776 < (N : Int)
            · exfalso; omega
            · have HUN : Hid (rdU bs = some (N, bs.drop 2)) := hid (by rw [rdU_at HU2.out, if_pos (by omega)])
              obtain ⟨p2, hsl0, hS⟩ := H.out.from8 c0 2 (by omega) hc0
              have hsl : ∀ w : World, (Instr.slice 25 (.slice (some ⟨b, o, none⟩) bs.length c0) (some (.int .i64 2)) none none).run Tryz.prog w = .ok (.slice p2 (bs.length - 2) (c0 - 2)) w := hsl0
              clear hsl0
              have HS := hid hS
              clear hS HU HU2
              go_wp2
              go_region
              go_wp2
              go_ret3
              exact ⟨(Below.refl _ _).drew, by rw [HUN.out]; exact ⟨_, rfl, HS.out.below (Below.refl _ _).drew⟩⟩
        · have HM := hid (HA.out.more (by omega) (by omega) hcb)
          simp only [Nat.reducePow] at HM
          have hsum : (acc : Int) + (c : Int) % 128 * 128 = ((acc + 128 * (c % 128) : Nat) : Int) := by omega
          have hNb : acc + 128 * (c % 128) < 16384 := by omega
          generalize acc + 128 * (c % 128) = N at hsum HM hNb
          clear HA hacc
          go_wp2
          exact ⟨⟨2, N, by omega, by omega, rfl, rfl, rfl, HM.out, by trivial⟩, by simp [intOf]⟩
      · have hlt' : ¬ (1 : Int) < (bs.length : Int) := by omega
        have e : bs.drop 1 = [] := List.drop_eq_nil_of_le (by omega)
        rw [e] at HA
        have HU := hid (rdU_none (HA.out.short (by omega)))
        clear HA e
        go_wp2
        go_ret3
        exact ⟨Below.refl _ _, by rw [HU.out]; rfl⟩
    · by_cases hlt : 2 < bs.length
      · have hlt' : (2 : Int) < (bs.length : Int) := by omega
        have hd := drop_cons hlt
        have hcb : bs.getD 2 0 < 256 := H8.out _ (by rw [List.getD_eq_getElem?_getD, List.getElem?_eq_getElem hlt]; exact List.getElem_mem hlt)
        have hat : ∃ b o, po = some ⟨b, o, none⟩ ∧ w.cell? ⟨b, o + 2, none⟩ = some (.int .u8 ((bs.getD 2 0 : Nat) : Int)) := by
          rcases H.out with e | ⟨b, o, e, hcell⟩
          · subst e; simp at hlt
          · exact ⟨b, o, e, hcell 2 hlt⟩
        obtain ⟨b, o, rfl, hcell⟩ := hat
        skip
        rw [hd] at HA
        generalize bs.getD 2 0 = c at hcell HA hcb hd
        have HD := hid hd
        clear hd
        have hacc : acc < 16384 := HA.out.1
        simp only [Nat.reducePow]
        by_cases hc : c < 128
        · have hc' : (c : Int) % 128 = (c : Int) := by omega
          have HU := hid (HA.out.last (by omega) hc)
          simp only [Nat.reducePow] at HU
          have hsum : (acc : Int) + (c : Int) * 16384 = ((acc + 16384 * c : Nat) : Int) := by omega
          have hNb : acc + 16384 * c < 2097152 := by omega
          generalize acc + 16384 * c = N at hsum HU hNb
          clear HA hacc
          by_cases hz : (c : Int) = 0
          · have HUN : Hid (rdU bs = none) := hid (rdU_none (by rw [HU.out]; simp; omega))
            clear HU
            have hc0' : c = 0 := by omega
            subst hc0'
            have hsum0 : (acc : Int) = (N : Int) := by omega
            go_wp2
            go_ret3
            exact ⟨Below.refl _ _, by rw [HUN.out]; rfl⟩
          · have HU2 : Hid (rdG 6 bs = some (N, bs.drop 3)) := hid (by rw [HU.out, if_neg (by omega)])
            by_cases hbig : 1099511627776 < (N : Int)
            · exfalso; omega
            · have HUN : Hid (rdU bs = some (N, bs.drop 3)) := hid (by rw [rdU_at HU2.out, if_pos (by omega)])
              obtain ⟨p2, hsl0, hS⟩ := H.out.from8 c0 3 (by omega) hc0
              have hsl : ∀ w : World, (Instr.slice 25 (.slice (some ⟨b, o, none⟩) bs.length c0) (some (.int .i64 3)) none none).run Tryz.prog w = .ok (.slice p2 (bs.length - 3) (c0 - 3)) w := hsl0
              clear hsl0
              have HS := hid hS
              clear hS HU HU2
              go_wp2
              go_region
              go_wp2
              go_ret3
              exact ⟨(Below.refl _ _).drew, by rw [HUN.out]; exact ⟨_, rfl, HS.out.below (Below.refl _ _).drew⟩⟩
        · have HM := hid (HA.out.more (by omega) (by omega) hcb)
          simp only [Nat.reducePow] at HM
          have hsum : (acc : Int) + (c : Int) % 128 * 16384 = ((acc + 16384 * (c % 128) : Nat) : Int) := by omega
          have hNb : acc + 16384 * (c % 128) < 2097152 := by omega
          generalize acc + 16384 * (c % 128) = N at hsum HM hNb
          clear HA hacc
          go_wp2
          exact ⟨⟨3, N, by omega, by omega, rfl, rfl, rfl, HM.out, by trivial⟩, by simp [intOf]⟩
      · have hlt' : ¬ (2 : Int) < (bs.length : Int) := by omega
        have e : bs.drop 2 = [] := List.drop_eq_nil_of_le (by omega)
        rw [e] at HA
        have HU := hid (rdU_none (HA.out.short (by omega)))
        clear HA e
        go_wp2
        go_ret3
        exact ⟨Below.refl _ _, by rw [HU.out]; rfl⟩
    · by_cases hlt : 3 < bs.length
      · have hlt' : (3 : Int) < (bs.length : Int) := by omega
        have hd := drop_cons hlt
        have hcb : bs.getD 3 0 < 256 := H8.out _ (by rw [List.getD_eq_getElem?_getD, List.getElem?_eq_getElem hlt]; exact List.getElem_mem hlt)
        have hat : ∃ b o, po = some ⟨b, o, none⟩ ∧ w.cell? ⟨b, o + 3, none⟩ = some (.int .u8 ((bs.getD 3 0 : Nat) : Int)) := by
          rcases H.out with e | ⟨b, o, e, hcell⟩
          · subst e; simp at hlt
          · exact ⟨b, o, e, hcell 3 hlt⟩
        obtain ⟨b, o, rfl, hcell⟩ := hat
        skip
        rw [hd] at HA
        generalize bs.getD 3 0 = c at hcell HA hcb hd
        have HD := hid hd
        clear hd
        have hacc : acc < 2097152 := HA.out.1
        simp only [Nat.reducePow]
        by_cases hc : c < 128
        · have hc' : (c : Int) % 128 = (c : Int) := by omega
          have HU := hid (HA.out.last (by omega) hc)
          simp only [Nat.reducePow] at HU
          have hsum : (acc : Int) + (c : Int) * 2097152 = ((acc + 2097152 * c : Nat) : Int) := by omega
          have hNb : acc + 2097152 * c < 268435456 := by omega
          generalize acc + 2097152 * c = N at hsum HU hNb
          clear HA hacc
          by_cases hz : (c : Int) = 0
          · have HUN : Hid (rdU bs = none) := hid (rdU_none (by rw [HU.out]; simp; omega))
            clear HU
            have hc0' : c = 0 := by omega
            subst hc0'
            have hsum0 : (acc : Int) = (N : Int) := by omega
            go_wp2
            go_ret3
            exact ⟨Below.refl _ _, by rw [HUN.out]; rfl⟩
          · have HU2 : Hid (rdG 6 bs = some (N, bs.drop 4)) := hid (by rw [HU.out, if_neg (by omega)])
            by_cases hbig : 1099511627776 < (N : Int)
            · exfalso; omega
            · have HUN : Hid (rdU bs = some (N, bs.drop 4)) := hid (by rw [rdU_at HU2.out, if_pos (by omega)])
              obtain ⟨p2, hsl0, hS⟩ := H.out.from8 c0 4 (by omega) hc0
              have hsl : ∀ w : World, (Instr.slice 25 (.slice (some ⟨b, o, none⟩) bs.length c0) (some (.int .i64 4)) none none).run Tryz.prog w = .ok (.slice p2 (bs.length - 4) (c0 - 4)) w := hsl0
              clear hsl0
              have HS := hid hS
              clear hS HU HU2
              go_wp2
              go_region
              go_wp2
              go_ret3
              exact ⟨(Below.refl _ _).drew, by rw [HUN.out]; exact ⟨_, rfl, HS.out.below (Below.refl _ _).drew⟩⟩
        · have HM := hid (HA.out.more (by omega) (by omega) hcb)
          simp only [Nat.reducePow] at HM
          have hsum : (acc : Int) + (c : Int) % 128 * 2097152 = ((acc + 2097152 * (c % 128) : Nat) : Int) := by omega
          have hNb : acc + 2097152 * (c % 128) < 268435456 := by omega
          generalize acc + 2097152 * (c % 128) = N at hsum HM hNb
          clear HA hacc
          go_wp2
          exact ⟨⟨4, N, by omega, by omega, rfl, rfl, rfl, HM.out, by trivial⟩, by simp [intOf]⟩
      · have hlt' : ¬ (3 : Int) < (bs.length : Int) := by omega
        have e : bs.drop 3 = [] := List.drop_eq_nil_of_le (by omega)
        rw [e] at HA
        have HU := hid (rdU_none (HA.out.short (by omega)))
        clear HA e
        go_wp2
        go_ret3
        exact ⟨Below.refl _ _, by rw [HU.out]; rfl⟩
    · by_cases hlt : 4 < bs.length
      · have hlt' : (4 : Int) < (bs.length : Int) := by omega
        have hd := drop_cons hlt
        have hcb : bs.getD 4 0 < 256 := H8.out _ (by rw [List.getD_eq_getElem?_getD, List.getElem?_eq_getElem hlt]; exact List.getElem_mem hlt)
        have hat : ∃ b o, po = some ⟨b, o, none⟩ ∧ w.cell? ⟨b, o + 4, none⟩ = some (.int .u8 ((bs.getD 4 0 : Nat) : Int)) := by
          rcases H.out with e | ⟨b, o, e, hcell⟩
          · subst e; simp at hlt
          · exact ⟨b, o, e, hcell 4 hlt⟩
        obtain ⟨b, o, rfl, hcell⟩ := hat
        skip
        rw [hd] at HA
        generalize bs.getD 4 0 = c at hcell HA hcb hd
        have HD := hid hd
        clear hd
        have hacc : acc < 268435456 := HA.out.1
        simp only [Nat.reducePow]
        by_cases hc : c < 128
        · have hc' : (c : Int) % 128 = (c : Int) := by omega
          have HU := hid (HA.out.last (by omega) hc)
          simp only [Nat.reducePow] at HU
          have hsum : (acc : Int) + (c : Int) * 268435456 = ((acc + 268435456 * c : Nat) : Int) := by omega
          have hNb : acc + 268435456 * c < 34359738368 := by omega
          generalize acc + 268435456 * c = N at hsum HU hNb
          clear HA hacc
          by_cases hz : (c : Int) = 0
          · have HUN : Hid (rdU bs = none) := hid (rdU_none (by rw [HU.out]; simp; omega))
            clear HU
            have hc0' : c = 0 := by omega
            subst hc0'
            have hsum0 : (acc : Int) = (N : Int) := by omega
            go_wp2
            go_ret3
            exact ⟨Below.refl _ _, by rw [HUN.out]; rfl⟩
          · have HU2 : Hid (rdG 6 bs = some (N, bs.drop 5)) := hid (by rw [HU.out, if_neg (by omega)])
            by_cases hbig : 1099511627776 < (N : Int)
            · exfalso; omega
            · have HUN : Hid (rdU bs = some (N, bs.drop 5)) := hid (by rw [rdU_at HU2.out, if_pos (by omega)])
              obtain ⟨p2, hsl0, hS⟩ := H.out.from8 c0 5 (by omega) hc0
              have hsl : ∀ w : World, (Instr.slice 25 (.slice (some ⟨b, o, none⟩) bs.length c0) (some (.int .i64 5)) none none).run Tryz.prog w = .ok (.slice p2 (bs.length - 5) (c0 - 5)) w := hsl0
              clear hsl0
              have HS := hid hS
              clear hS HU HU2
              go_wp2
              go_region
              go_wp2
              go_ret3
              exact ⟨(Below.refl _ _).drew, by rw [HUN.out]; exact ⟨_, rfl, HS.out.below (Below.refl _ _).drew⟩⟩
        · have HM := hid (HA.out.more (by omega) (by omega) hcb)
          simp only [Nat.reducePow] at HM
          have hsum : (acc : Int) + (c : Int) % 128 * 268435456 = ((acc + 268435456 * (c % 128) : Nat) : Int) := by omega
          have hNb : acc + 268435456 * (c % 128) < 34359738368 := by omega
          generalize acc + 268435456 * (c % 128) = N at hsum HM hNb
          clear HA hacc
          go_wp2
          exact ⟨⟨5, N, by omega, by omega, rfl, rfl, rfl, HM.out, by trivial⟩, by simp [intOf]⟩
      · have hlt' : ¬ (4 : Int) < (bs.length : Int) := by omega
        have e : bs.drop 4 = [] := List.drop_eq_nil_of_le (by omega)
        rw [e] at HA
        have HU := hid (rdU_none (HA.out.short (by omega)))
        clear HA e
        go_wp2
        go_ret3
        exact ⟨Below.refl _ _, by rw [HU.out]; rfl⟩
    · by_cases hlt : 5 < bs.length
      · have hlt' : (5 : Int) < (bs.length : Int) := by omega
        have hd := drop_cons hlt
        have hcb : bs.getD 5 0 < 256 := H8.out _ (by rw [List.getD_eq_getElem?_getD, List.getElem?_eq_getElem hlt]; exact List.getElem_mem hlt)
        have hat : ∃ b o, po = some ⟨b, o, none⟩ ∧ w.cell? ⟨b, o + 5, none⟩ = some (.int .u8 ((bs.getD 5 0 : Nat) : Int)) := by
          rcases H.out with e | ⟨b, o, e, hcell⟩
          · subst e; simp at hlt
          · exact ⟨b, o, e, hcell 5 hlt⟩
        obtain ⟨b, o, rfl, hcell⟩ := hat
        skip
        rw [hd] at HA
        generalize bs.getD 5 0 = c at hcell HA hcb hd
        have HD := hid hd
        clear hd
        have hacc : acc < 34359738368 := HA.out.1
        simp only [Nat.reducePow]
        by_cases hc : c < 128
        · have hc' : (c : Int) % 128 = (c : Int) := by omega
          have HU := hid (HA.out.last (by omega) hc)
          simp only [Nat.reducePow] at HU
          have hsum : (acc : Int) + (c : Int) * 34359738368 = ((acc + 34359738368 * c : Nat) : Int) := by omega
          have hNb : acc + 34359738368 * c < 4398046511104 := by omega
          generalize acc + 34359738368 * c = N at hsum HU hNb
          clear HA hacc
          by_cases hz : (c : Int) = 0
          · have HUN : Hid (rdU bs = none) := hid (rdU_none (by rw [HU.out]; simp; omega))
            clear HU
            have hc0' : c = 0 := by omega
            subst hc0'
            have hsum0 : (acc : Int) = (N : Int) := by omega
            go_wp2
            go_ret3
            exact ⟨Below.refl _ _, by rw [HUN.out]; rfl⟩
          · have HU2 : Hid (rdG 6 bs = some (N, bs.drop 6)) := hid (by rw [HU.out, if_neg (by omega)])
            by_cases hbig : 1099511627776 < (N : Int)
            · have HUN : Hid (rdU bs = none) := hid (by rw [rdU_at HU2.out, if_neg (by omega)])
              clear HU HU2
              go_wp2
              go_ret3
              exact ⟨Below.refl _ _, by rw [HUN.out]; rfl⟩
            · have HUN : Hid (rdU bs = some (N, bs.drop 6)) := hid (by rw [rdU_at HU2.out, if_pos (by omega)])
              obtain ⟨p2, hsl0, hS⟩ := H.out.from8 c0 6 (by omega) hc0
              have hsl : ∀ w : World, (Instr.slice 25 (.slice (some ⟨b, o, none⟩) bs.length c0) (some (.int .i64 6)) none none).run Tryz.prog w = .ok (.slice p2 (bs.length - 6) (c0 - 6)) w := hsl0
              clear hsl0
              have HS := hid hS
              clear hS HU HU2
              go_wp2
              go_region
              go_wp2
              go_ret3
              exact ⟨(Below.refl _ _).drew, by rw [HUN.out]; exact ⟨_, rfl, HS.out.below (Below.refl _ _).drew⟩⟩
        · have HM := hid (HA.out.more (by omega) (by omega) hcb)
          simp only [Nat.reducePow] at HM
          have hsum : (acc : Int) + (c : Int) % 128 * 34359738368 = ((acc + 34359738368 * (c % 128) : Nat) : Int) := by omega
          have hNb : acc + 34359738368 * (c % 128) < 4398046511104 := by omega
          generalize acc + 34359738368 * (c % 128) = N at hsum HM hNb
          clear HA hacc
          go_wp2
          exact ⟨⟨6, N, by omega, by omega, rfl, rfl, rfl, HM.out, by trivial⟩, by simp [intOf]⟩
      · have hlt' : ¬ (5 : Int) < (bs.length : Int) := by omega
        have e : bs.drop 5 = [] := List.drop_eq_nil_of_le (by omega)
        rw [e] at HA
        have HU := hid (rdU_none (HA.out.short (by omega)))
        clear HA e
        go_wp2
        go_ret3
        exact ⟨Below.refl _ _, by rw [HU.out]; rfl⟩
    · have HU := hid (rdU_none HA.out.long)
      clear HA
      by_cases hlt : (6 : Int) < (bs.length : Int) <;>
      · go_wp2
        go_ret3
        exact ⟨Below.refl _ _, by rw [HU.out]; rfl⟩
/- behind rReadUint_any -/
end Go.Proofs.YtcbmimjjpkkoeaaGreatDoor

/- Contracts of the document's ReadText; of SameBytes and CopyBytes of the statements' kit. -/
namespace Go.Proofs.YtcbmimjjpkkoeaaGreatDoor
open Go Go.RowKit

def RtS (w : World) (q : Option (List Nat × List Nat)) (e : Ending) (w' : World) : Prop := Below w.heap.size w w' ∧ match q with
  | none => e = .returned (.tuple #[.string ⟨#[]⟩, .slice none 0 0, .bool false])
  | some (x, r) => ∃ t v, e = .returned (.tuple #[.string t, v, .bool true]) ∧ lst t = x ∧ SL w' v r
theorem run_h8 (po : Option Addr) (n c h : Nat) (hh : h ≤ c) (w : World) : (Instr.slice 25 (.slice po n c) none (some (.int .i64 (h : Int))) none).run Tryz.prog w = .ok (.slice po h c) w := by
  rw [run_slice_h (P := Tryz.prog) w 25 po n c underE8 .i64 (h : Int) (by omega) (by omega), elem8]
  cases po with
  | none => simp [Result.andThen, sliced]
  | some a =>
    by_cases h0 : c = 0
    · simp [Result.andThen, sliced, h0]
    · simp [Result.andThen, sliced, h0, add_zero']
theorem rdU_less {bs : List Nat} (h8 : ∀ x ∈ bs, x < 256) {n : Nat} {r : List Nat} (h : rdU bs = some (n, r)) : r.length ≤ bs.length ∧ (∀ x ∈ r, x < 256) ∧ n ≤ 1099511627776 := by
  obtain ⟨e, hn⟩ := rdU_some h8 h
  rw [e] at h8 ⊢
  exact ⟨by simp, (sub256 h8).2, hn⟩
set_option maxRecDepth 100000 in
set_option maxHeartbeats 1000000 in
theorem rReadText_any (po : Option Addr) (c0 : Nat) (bs : List Nat) (w : World) (h : BL w po bs) (hc0 : bs.length ≤ c0) (hn : bs.length ≤ 100000) (h8 : ∀ x ∈ bs, x < 256) :
    Calls Tryz.prog 96 #[.slice po bs.length c0] w (RtS w (rdT bs)) := by
  have hu := rReadUint_any po c0 bs w h hc0 hn h8
  cases hq : rdU bs with
  | none =>
    rw [hq] at hu
    have HT : Hid (rdT bs = none) := hid (by unfold rdT; rw [hq])
    clear hq h h8
    go_enter Tryz.func96, Tryz.ntmps96
    go_wp2_with (go_at_call 74; refine hu.mono ?_; rintro e w1 ⟨hb1, he⟩; simp only at he; subst he)
    go_ret3
    exact ⟨hb1, by rw [HT.out]; rfl⟩
  | some q =>
    obtain ⟨n, r⟩ := q
    rw [hq] at hu
    have HL := hid (rdU_less h8 hq)
    have HT : Hid (rdT bs = if n ≤ 65536 ∧ n ≤ r.length then some (r.take n, r.drop n) else none) := hid (by unfold rdT; rw [hq])
    clear hq h h8
    by_cases h1 : n ≤ 65536
    · by_cases h2 : n ≤ r.length
      · have h1' : ¬ 65536 < (n : Int) := by omega
        have h2' : ¬ (r.length : Int) < (n : Int) := by omega
        go_enter Tryz.func96, Tryz.ntmps96
        go_wp2_with (go_at_call 74; refine hu.mono ?_; rintro e w1 ⟨hb1, v1, he, hs⟩; subst he; obtain ⟨po1, c1, rfl, hbl, hcc⟩ := hs; have hhead := run_h8 po1 r.length c1 n (by omega); obtain ⟨p2, hfrom, hS⟩ := hbl.from8 c1 n h2 hcc; have HS := hid hS; have hcv := ((hbl.take n).below (Below.refl w1.heap.size w1).drew).conv c1; rw [show (r.take n).length = n by rw [List.length_take]; omega] at hcv; have HB1 := hid hb1; clear hS hb1 hbl)
        go_region
        go_wp2
        go_ret3
        refine ⟨HB1.out.drew, ?_⟩
        rw [HT.out, if_pos ⟨h1, h2⟩]
        exact ⟨_, _, rfl, lst_ba fun x hx => HL.out.2.1 x (List.mem_of_mem_take hx), HS.out.below (Below.refl _ _).drew⟩
      · have h1' : ¬ 65536 < (n : Int) := by omega
        have h2' : (r.length : Int) < (n : Int) := by omega
        go_enter Tryz.func96, Tryz.ntmps96
        go_wp2_with (go_at_call 74; refine hu.mono ?_; rintro e w1 ⟨hb1, v1, he, hs⟩; subst he; obtain ⟨po1, c1, rfl, hbl, hcc⟩ := hs; have HB1 := hid hb1; clear hb1 hbl)
        go_ret3
        exact ⟨HB1.out, by rw [HT.out, if_neg (fun h => h2 h.2)]; rfl⟩
    · have h1' : 65536 < (n : Int) := by omega
      go_enter Tryz.func96, Tryz.ntmps96
      go_wp2_with (go_at_call 74; refine hu.mono ?_; rintro e w1 ⟨hb1, v1, he, hs⟩; subst he; obtain ⟨po1, c1, rfl, hbl, hcc⟩ := hs; have HB1 := hid hb1; clear hb1 hbl)
      go_ret3
      exact ⟨HB1.out, by rw [HT.out, if_neg (fun h => h1 h.1)]; rfl⟩
theorem sameB_any {w : World} {u v : Value} {x y : List Nat} (hu : SL w u x) (hv : SL w v y) (hx : ∀ z ∈ x, z < 256) (hy : ∀ z ∈ y, z < 256) :
    Calls Tryz.prog 12 #[u, v] w fun e w' => e = .returned (.bool (decide (x = y))) ∧ w' = w := by
  obtain ⟨p, c, rfl, hp, _⟩ := hu
  obtain ⟨q, d, rfl, hq, _⟩ := hv
  have h1 := hp.conv c
  have h2 := hq.conv d
  have h3 := lst_beq (ba x) (ba y)
  rw [lst_ba hx, lst_ba hy] at h3
  generalize ba x = X at *
  generalize ba y = Y at *
  clear hp hq hx hy
  go_enter Tryz.func12, Tryz.ntmps12
  go_wp2
  go_ret
  exact ⟨by first | rfl | (rw [h3]; rfl) | simp [h3], rfl⟩
theorem OutB.sl {B : Nat} {w : World} {v : Value} {bs : List Nat} (h : OutB B w v bs) : SL w v bs := by
  obtain ⟨po, h1, h2, _⟩ := h.form; exact ⟨po, _, h1, h2, Nat.le_refl _⟩
theorem Buf.sl {B : Nat} {w : World} {v : Value} {bs : List Nat} (h : Buf B w v bs) : SL w v bs := by
  obtain ⟨po, c, rfl⟩ := h.form; exact ⟨po, c, rfl, h.bl, h.cap.2⟩
theorem Buf.made0 (w : World) (B : Nat) (hB : B ≤ w.heap.size) : Buf B (w.alloc (.cells #[] 5)) (.slice (some ⟨w.heap.size, 0, none⟩) 0 0) [] := World.ownsRow_made w #[] 0 hB (by unfold maxLen; omega) (by simp)
#print axioms rReadText_any

end Go.Proofs.YtcbmimjjpkkoeaaGreatDoor
