/- Texts laid into one, cut to what is needed: the remark ahead of each part says what is proved there. -/
import Derived.Test.YtdohmokhfajjpaaGreatDoorPap
import Derived.Lib.ConvBytes
/- Contracts of number and text of the reader, whatever it has; of readerOf, told, ReadUint and ReadText. -/
namespace Go.Proofs.YtdohmokhfajjpaaGreatDoor
open Go Go.RowKit

theorem number_any (w : World) (p : Nat) (s : Option (List Nat)) (h : Rd w p s) : Calls Tryz.prog 112 #[ptr p] w (NumS w p s) := by
 cases s with
 | none => exact number_gone w p h
 | some L => exact number_some w p L h
def TexS (w : World) (p : Nat) (s : Option (List Nat)) (e : Ending) (w' : World) : Prop :=
 ∃ t : ByteArray, e = .returned (.string t) ∧ Rd w' p ((s.bind rdT).map (·.2)) ∧ Only (fun b => b = p) w w' ∧ t.size ≤ 65536 ∧ ∀ x r, s.bind rdT = some (x, r) → lst t = x
theorem rdT_bad {s : Option (List Nat)} (h : s.bind rdU = none) : s.bind rdT = none := by
 cases s with
 | none => rfl
 | some L => have h' : rdU L = none := h; show rdT L = none; unfold rdT; rw [h']
theorem rdT_of {s : Option (List Nat)} {n : Nat} {r : List Nat} (h : s.bind rdU = some (n, r)) : s.bind rdT = if n ≤ 65536 ∧ n ≤ r.length then some (r.take n, r.drop n) else none := by
 cases s with
 | none => cases h
 | some L => have h' : rdU L = some (n, r) := h; show rdT L = _; unfold rdT; rw [h']
theorem Rd.bytes {w : World} {p : Nat} {L : List Nat} (h : Rd w p (some L)) : L.length ≤ 100000 ∧ ∀ x ∈ L, x < 256 := by
 obtain ⟨_, _, _, _, _, _, h5, h6, h7⟩ := h
 rcases h5 with h | h <;> cases h
 exact ⟨h6, h7⟩
set_option maxRecDepth 100000 in
set_option maxHeartbeats 1000000 in
theorem text_any (w : World) (p : Nat) (s : Option (List Nat)) (h : Rd w p s) : Calls Tryz.prog 115 #[ptr p] w (TexS w p s) := by
 have hnum := number_any w p s h
 clear h
 have hcn : ∀ w : World, (convert 22 9 (.slice none 0 0)).run Tryz.prog w = .ok (.string ⟨#[]⟩) w := fun w => (BL.nil w none).conv 0
 have hbad : ∀ (w2 w3 : World), s.bind rdT = none → Rd w3 p none → Only (fun b => b = p) w w3 → TexS w p s (.returned (.string ⟨#[]⟩)) w3 := fun w2 w3 h1 h2 h3 =>
  ⟨⟨#[]⟩, rfl, by rw [h1]; exact h2, h3, by simp [ByteArray.size], fun x r h => by rw [h1] at h; cases h⟩
 have HBAD := hid hbad
 clear hbad
 cases hs : s.bind rdU with
 | none =>
  have HT := hid (rdT_bad hs)
  have HS := hid hs
  clear hs
  go_enter Tryz.func115, Tryz.ntmps115
  go_wp2_with (first
   | (go_at_call 112; refine hnum.mono ?_; rintro e w1 ⟨v, rfl, hr1, ho1, _⟩; rw [HS.out] at hr1; have HR1 := hid hr1; have HO1 := hid ho1; clear hr1 ho1)
   | (go_at_call 117; refine (need_gone _ p _ HR1.out).mono ?_; rintro e w2 ⟨rfl, hw2⟩; have hw3 := hw2.symm; subst hw3)
   | (go_at_call 124; refine (take_bad _ p _ none HR1.out (fun L h => by cases h)).mono ?_; rintro e w3 ⟨rfl, hr3, ho3⟩; have HR3 := hid hr3; have HO3 := hid ho3; clear hr3 ho3))
  go_ret
  exact HBAD.out w _ HT.out HR3.out (HO1.out.trans HO3.out)
 | some q =>
  obtain ⟨n, r⟩ := q
  have HT := hid (rdT_of hs)
  have HS := hid hs
  clear hs
  by_cases hn : n ≤ 65536
  ·by_cases hl : n ≤ r.length
   ·have hn' : (n : Int) ≤ 65536 := by omega
    go_enter Tryz.func115, Tryz.ntmps115
    go_wp2_with (first
     | (go_at_call 112; refine hnum.mono ?_; rintro e w1 ⟨v, rfl, hr1, ho1, hv⟩; have hv2 := hv n r HS.out; subst hv2; rw [HS.out] at hr1; have HR1 := hid hr1; have HO1 := hid ho1; clear hr1 ho1 hv)
     | (go_at_call 117; refine (need_true _ p).mono ?_; rintro e w2 ⟨rfl, hw2⟩; have hw3 := hw2.symm; subst hw3)
     | (go_at_call 124; refine (take_ok _ p n r HR1.out hl).mono ?_; rintro e w3 ⟨po, rfl, hb3, hr3, ho3, _⟩; have hcv := hb3.conv n; rw [show (r.take n).length = n by rw [List.length_take]; omega] at hcv; have HR3 := hid hr3; have HO3 := hid ho3; clear hr3 ho3))
    go_ret
    have e := HT.out
    rw [if_pos ⟨hn, hl⟩] at e
    refine ⟨_, rfl, by rw [e]; exact HR3.out, HO1.out.trans HO3.out, ?_, fun x r2 h => ?_⟩
    ·unfold ba; rw [strOfNums_size, List.length_map, List.length_take]; omega
    ·rw [e] at h; cases h; exact lst_ba fun x hx => HR1.out.bytes.2 x (List.mem_of_mem_take hx)
   ·have hn' : (n : Int) ≤ 65536 := by omega
    have e := HT.out
    rw [if_neg (fun h => hl h.2)] at e
    have HE := hid e
    clear e
    go_enter Tryz.func115, Tryz.ntmps115
    go_wp2_with (first
     | (go_at_call 112; refine hnum.mono ?_; rintro e w1 ⟨v, rfl, hr1, ho1, hv⟩; have hv2 := hv n r HS.out; subst hv2; rw [HS.out] at hr1; have HR1 := hid hr1; have HO1 := hid ho1; clear hr1 ho1 hv)
     | (go_at_call 117; refine (need_true _ p).mono ?_; rintro e w2 ⟨rfl, hw2⟩; have hw3 := hw2.symm; subst hw3)
     | (go_at_call 124; refine (take_bad _ p _ (some r) HR1.out (fun L h => by cases h; omega)).mono ?_; rintro e w3 ⟨rfl, hr3, ho3⟩; have HR3 := hid hr3; have HO3 := hid ho3; clear hr3 ho3))
    go_ret
    exact HBAD.out w _ HE.out HR3.out (HO1.out.trans HO3.out)
  ·have hn' : ¬ (n : Int) ≤ 65536 := by omega
   have e := HT.out
   rw [if_neg (fun h => hn h.1)] at e
   have HE := hid e
   clear e
   go_enter Tryz.func115, Tryz.ntmps115
   go_wp2_with (first
    | (go_at_call 112; refine hnum.mono ?_; rintro e w1 ⟨v, rfl, hr1, ho1, hv⟩; have hv2 := hv n r HS.out; subst hv2; rw [HS.out] at hr1; have HR1 := hid hr1; have HO1 := hid ho1; clear hr1 ho1 hv)
    | (go_at_call 117; refine (need_any _ p _ _ HR1.out).mono ?_; rintro e w2 ⟨rfl, hr2, ho2⟩; have HR2 : Hid (Rd w2 p none) := hid (by have hz : ¬ ((n : Int) ≤ 65536) := (by omega); simpa [hz] using hr2); have HO2 := hid ho2; clear hr2 ho2)
    | (go_at_call 124; refine (take_bad _ p _ none HR2.out (fun L h => by cases h)).mono ?_; rintro e w3 ⟨rfl, hr3, ho3⟩; have HR3 := hid hr3; have HO3 := hid ho3; clear hr3 ho3))
   go_ret
   exact HBAD.out w _ HE.out HR3.out (HO1.out.trans (HO2.out.trans HO3.out))
theorem clip_bl (po : Option Addr) (n c : Nat) (hc : n ≤ c) (w : World) : Calls Tryz.prog 113 #[.slice po n c] w fun e w' => e = .returned (.slice po n n) ∧ w' = w := by
 have hs := run_clip8 po n c hc
 go_enter Tryz.func113, Tryz.ntmps113
 go_wp2
 go_ret
 exact ⟨rfl, rfl⟩
theorem readerOf_any (po : Option Addr) (c : Nat) (bs : List Nat) (w : World) (h : BL w po bs) (hc : bs.length ≤ c) (hn : bs.length ≤ 100000) (h8 : ∀ x ∈ bs, x < 256) :
  Calls Tryz.prog 99 #[.slice po bs.length c] w fun e w' => e = .returned (ptr w.heap.size) ∧ Rd w' w.heap.size (some bs) ∧ Below w.heap.size w w' := by
 have H := hid h
 have H8 := hid h8
 clear h h8
 go_enter Tryz.func99, Tryz.ntmps99
 go_wp2_with (go_at_call 113; refine (clip_bl po bs.length c hc w).mono ?_; rintro e w2 ⟨rfl, hw2⟩; have hw3 := hw2.symm; subst hw3)
 go_ret
 refine ⟨rfl, ⟨po, bs, CAt.made _ _ _, H.out.below (below_al _ _), fun hne a ha => ?_, fun e => ?_, Or.inr rfl, hn, H8.out⟩, below_al _ _⟩
 ·rcases H.out with h | ⟨b, o, h1, h2⟩
  ·exact absurd h hne
  ·rw [h1] at ha; cases ha
   have := h2 0 (List.length_pos_iff.2 hne)
   exact cell_lt' (a := ⟨b, o + 0, none⟩) (by rw [this]; simp)
 ·rcases H.out with h | ⟨b, o, h1, h2⟩
  ·exact h
  ·rw [h1] at e; cases e
def TolS (w : World) (L : List Nat) (v : Value) (e : Ending) (w' : World) : Prop := ∃ out, e = .returned (.tuple #[v, out, i64 0]) ∧ OutB w.heap.size w' out L ∧ Below w.heap.size w w'
theorem toldI_bad (w : World) (p : Nat) (v : Int) (h : Rd w p none) : Calls Tryz.prog 111 #[ptr p, i64 v] w fun e w' => e = .returned (.tuple #[i64 0, .slice none 0 0, i64 4]) ∧ Below w.heap.size w w' := by
 obtain ⟨po, L, h1, _⟩ := h
 have c1 := h1.cell 1
 simp at c1
 clear h1
 go_enter Tryz.func111, Tryz.ntmps111
 go_wp2
 go_region
 go_wp2
 go_ret3
 exact ⟨rfl, (Below.refl _ _).drew⟩
theorem toldI_ok (w : World) (p : Nat) (K : List Nat) (v : Int) (h : Rd w p (some K)) : Calls Tryz.prog 111 #[ptr p, i64 v] w (TolS w K (i64 v)) := by
 obtain ⟨po, L, h1, h2, h3, h4, h5, h6, h7⟩ := h
 have c0 := h1.cell 0
 have c1 := h1.cell 1
 have e : K = L := by rcases h5 with h | h <;> cases h; rfl
 subst e
 simp at c0 c1
 have hf := fresh_any po K.length K w h2 (fun e => by rw [h4 e]; rfl) (by omega)
 clear h1 h2 h3 h4 h5 h6 h7
 go_enter Tryz.func111, Tryz.ntmps111
 go_wp2_with (go_at_call 114; refine hf.mono ?_; rintro e w2 ⟨v2, rfl, ho, hb⟩)
 go_ret3
 exact ⟨v2, rfl, ho, hb⟩
theorem readUint_bad (po : Option Addr) (c : Nat) (bs : List Nat) (w : World) (h : BL w po bs) (hc : bs.length ≤ c) (hn : bs.length ≤ 100000) (h8 : ∀ x ∈ bs, x < 256) (hq : rdU bs = none) :
  Calls Tryz.prog 98 #[.slice po bs.length c] w fun e w' => e = .returned (.tuple #[i64 0, .slice none 0 0, i64 4]) ∧ Below w.heap.size w w' := by
 have hro := readerOf_any po c bs w h hc hn h8
 have HQ : Hid ((some bs).bind rdU = none) := hid hq
 clear h h8 hq
 go_enter Tryz.func98, Tryz.ntmps98
 go_wp2_with (first
  | (go_at_call 99; refine hro.mono ?_; rintro e w1 ⟨rfl, hr1, hb1⟩; have HB1 := hid hb1; have HR1 := hid hr1; clear hr1 hb1)
  | (go_at_call 112; refine (number_any _ _ _ HR1.out).mono ?_; rintro e w2 ⟨v, rfl, hr2, ho2, _⟩; rw [HQ.out] at hr2; have HR2 := hid hr2; have HO2 := hid ho2; clear hr2 ho2)
  | (go_at_call 111; refine (toldI_bad _ _ _ HR2.out).mono ?_; rintro e w3 ⟨rfl, hb3⟩; have HB3 := hid hb3; clear hb3))
 go_ret3
 exact ⟨rfl, below_on (below_tr HB1.out (HO2.out.below HB1.out.size (fun i e => by omega))) HB3.out⟩
def readUintS (w : World) (x : Nat) (r : List Nat) (e : Ending) (w' : World) : Prop := ∃ out, e = .returned (.tuple #[i64 x, out, i64 0]) ∧ OutB w.heap.size w' out r ∧ Below w.heap.size w w'
theorem readUint_ok (po : Option Addr) (c : Nat) (bs : List Nat) (w : World) (h : BL w po bs) (hc : bs.length ≤ c) (hn : bs.length ≤ 100000) (h8 : ∀ x ∈ bs, x < 256) {x : Nat} {r : List Nat} (hq : rdU bs = some (x, r)) :
  Calls Tryz.prog 98 #[.slice po bs.length c] w (readUintS w x r) := by
 have hro := readerOf_any po c bs w h hc hn h8
 have HQ : Hid ((some bs).bind rdU = some (x, r)) := hid hq
 clear h h8 hq
 go_enter Tryz.func98, Tryz.ntmps98
 go_wp2_with (first
  | (go_at_call 99; refine hro.mono ?_; rintro e w1 ⟨rfl, hr1, hb1⟩; have HB1 := hid hb1; have HR1 := hid hr1; clear hr1 hb1)
  | (go_at_call 112; refine (number_any _ _ _ HR1.out).mono ?_; rintro e w2 ⟨v, rfl, hr2, ho2, hv⟩; have hv2 := hv _ _ HQ.out; subst hv2; rw [HQ.out] at hr2; have HR2 := hid hr2; have HO2 := hid ho2; clear hr2 ho2 hv)
  | (go_at_call 111; refine (toldI_ok _ _ r _ HR2.out).mono ?_; rintro e w3 ⟨out, rfl, hout, hb3⟩; have HT := hid hout; have HB3 := hid hb3; clear hout hb3))
 go_ret3
 have h2 := below_tr HB1.out (HO2.out.below HB1.out.size (fun i e => by omega))
 exact ⟨out, rfl, HT.out.base h2.size, below_on h2 HB3.out⟩
end Go.Proofs.YtdohmokhfajjpaaGreatDoor

/- Contracts of the document's Uint, Text, ReadUint and ReadText. -/
namespace Go.Proofs.YtdohmokhfajjpaaGreatDoor
open Go Go.RowKit

theorem Buf.one (w : World) (k : Nat) (B : Nat) (hB : B ≤ w.heap.size) : Buf B (w.alloc (.cells #[u8 k] 5)) (.slice (some ⟨w.heap.size, 0, none⟩) 1 1) [k] :=
 ⟨rfl, Or.inr ⟨w.heap.size, 1, #[u8 k], rfl, hB, at_new _ _, Nat.le_refl _, by unfold maxLen; omega, rfl, rfl⟩⟩
theorem Buf.base {B C : Nat} {w : World} {v : Value} {L : List Nat} (h : Buf B w v L) (hC : C ≤ B) : Buf C w v L := own_base h hC
theorem Buf.capn {B : Nat} {w : World} {n c : Nat} {L : List Nat} (h : Buf B w (.slice none n c) L) : c = 0 := by
 rcases h.2 with ⟨h, _⟩ | ⟨g, _, _, h, _⟩
 ·simp at h; exact h.2
 ·simp at h

end Go.Proofs.YtdohmokhfajjpaaGreatDoor

/- Contracts of the document's ReadUint and ReadText. (The rounds of the loop are written by tools/gen_Vg.py.) -/
namespace Go.Proofs.YtdohmokhfajjpaaGreatDoor
open Go Go.RowKit

/-- A slice leads to these bytes. -/
def SL (w : World) (v : Value) (r : List Nat) : Prop := ∃ po c, v = .slice po r.length c ∧ BL w po r ∧ r.length ≤ c
theorem SL.below {w w' : World} {v : Value} {r : List Nat} (h : SL w v r) (hb : Below w.heap.size w w') : SL w' v r := by
 obtain ⟨po, c, h1, h2, h3⟩ := h; exact ⟨po, c, h1, h2.below hb, h3⟩
/- behind rReadUint_any -/
end Go.Proofs.YtdohmokhfajjpaaGreatDoor

/- Contracts of the document's ReadText; of SameBytes and CopyBytes of the statements' kit. -/
namespace Go.Proofs.YtdohmokhfajjpaaGreatDoor
open Go Go.RowKit

theorem sameB_any {w : World} {u v : Value} {x y : List Nat} (hu : SL w u x) (hv : SL w v y) (hx : ∀ z ∈ x, z < 256) (hy : ∀ z ∈ y, z < 256) :
  Calls Tryz.prog 11 #[u, v] w fun e w' => e = .returned (.bool (decide (x = y))) ∧ w' = w := by
 obtain ⟨p, c, rfl, hp, _⟩ := hu
 obtain ⟨q, d, rfl, hq, _⟩ := hv
 have h1 := hp.conv c
 have h2 := hq.conv d
 have h3 := lst_beq (ba x) (ba y)
 rw [lst_ba hx, lst_ba hy] at h3
 generalize ba x = X at *
 generalize ba y = Y at *
 clear hp hq hx hy
 go_enter Tryz.func11, Tryz.ntmps11
 go_wp2
 go_ret
 exact ⟨by first | rfl | (rw [h3]; rfl) | simp [h3], rfl⟩
theorem OutB.sl {B : Nat} {w : World} {v : Value} {bs : List Nat} (h : OutB B w v bs) : SL w v bs := by
 obtain ⟨po, h1, h2, _⟩ := h.form; exact ⟨po, _, h1, h2, Nat.le_refl _⟩
theorem Buf.sl {B : Nat} {w : World} {v : Value} {bs : List Nat} (h : Buf B w v bs) : SL w v bs := by
 obtain ⟨po, c, rfl⟩ := h.form; exact ⟨po, c, rfl, h.bl, h.cap.2⟩
theorem Buf.made0 (w : World) (B : Nat) (hB : B ≤ w.heap.size) : Buf B (w.alloc (.cells #[] 5)) (.slice (some ⟨w.heap.size, 0, none⟩) 0 0) [] := World.ownsRow_made w #[] 0 hB (by unfold maxLen; omega) (by simp)
theorem copyB_any {w : World} {v : Value} {x : List Nat} (hv : SL w v x) (hn : x.length ≤ 1000000) (hnil : ∀ n c, v = .slice none n c → c = 0) : Calls Tryz.prog 6 #[v] w (BufS w.heap.size w x) := by
 obtain ⟨p, c, rfl, hp, _⟩ := hv
 obtain ⟨v', w', hr, hb, hg⟩ := (Buf.made0 w w.heap.size (Nat.le_refl _)).app p c x (hp.below (below_al _ _)) (fun e => by subst e; exact hnil _ _ rfl) (by simp; omega) (by rw [size_al]; omega)
 have HRUN := hid hr
 clear hr
 go_enter Tryz.func6, Tryz.ntmps6
 go_wp2_with (at_builtin; refine wpList_append_run _ _ 22 22 rfl rfl _ _ _ rfl rfl HRUN.out ?_)
 go_ret
 exact ⟨v', rfl, by simpa using hb, below_grown (below_al _ _) hg (Nat.le_refl _) (fun b hb => by cases hb; exact Nat.le_refl _)⟩

end Go.Proofs.YtdohmokhfajjpaaGreatDoor

/- Contracts of LentBytes, KeptBytes and OverBytes of the statements' kit. -/
namespace Go.Proofs.YtdohmokhfajjpaaGreatDoor
open Go.RowKit

/-- A row of n bytes lies at block b from o on. -/
def RowAt (w : World) (b o n : Nat) (x : Nat → Nat) : Prop := ∀ i, i < n → w.cell? ⟨b, o + i, none⟩ = some (.int .u8 (x i : Nat))
/-- The world w has one block more than w0 has: n bytes, x, which may be written; what was there is as it was. -/
structure NewRow (w0 w : World) (n : Nat) (x : Nat → Nat) : Prop where
 size : w.heap.size = w0.heap.size + 1
 below : Below w0.heap.size w0 w
 cells : ∀ i, i < n → w.cell? ⟨w0.heap.size, i, none⟩ = some (.int .u8 (x i : Nat))
 free : ∀ i, w.frozen? ⟨w0.heap.size, i, none⟩ = false

theorem madeCells_get (z : Value) (n i : Nat) (h : i < n) : (madeCells #[z] n)[i]? = some z := by
 simp [madeCells, h, Nat.mod_one]
theorem run_make_u8 (n : Nat) (hn : n ≤ 70003) (w : World) :
  (Instr.makeSlice 22 (.int .i64 (n : Int)) (.int .i64 (n : Int))).run Tryz.prog w = .ok (.slice (some ⟨w.heap.size, 0, none⟩) n n) (w.alloc (.cells (madeCells #[.int .u8 0] n) 5)) := by
 obtain ⟨i0, hi, hz0, hz1, hz2⟩ := info_parts Tryz.info5
 have h := run_make (P := Tryz.prog) w 22 5 i0 (.int .u8 0) Tryz.underlying22 hi hz0 .i64 .i64 n n (by omega) (Int.le_refl _) (by rw [hz2]; omega) (by omega)
 rw [hz1] at h
 simpa [Value.cells] using h

theorem NewRow.made (w : World) (n : Nat) : NewRow w (w.alloc (.cells (madeCells #[.int .u8 0] n) 5)) n (fun _ => 0) where
 size := by simp
 below := (Below.refl _ _).alloc (Nat.le_refl _) _
 cells := fun i h => by rw [World.cell?_alloc_new, madeCells_get _ _ _ h]; rfl
 free := fun i => World.frozen?_alloc_new _ _ _ _
theorem NewRow.set {w0 w : World} {n : Nat} {x : Nat → Nat} (h : NewRow w0 w n x) (k : Nat) (v : Nat) (hk : k < n) :
  NewRow w0 (w.setCell ⟨w0.heap.size, k, none⟩ (.int .u8 (v : Nat))) n (fun i => if i = k then v else x i) where
 size := by simp [h.size]
 below := h.below.setCell (Nat.le_refl _) _
 cells := fun i hi => by
  by_cases e : i = k
  ·subst e
   rw [World.cell?_setCell_same _ _ _ (h.cells i hi)]; simp
  ·rw [World.cell?_setCell_other _ _ _ _ (by intro h2; cases h2; exact e rfl), h.cells i hi]; simp [e]
 free := fun i => by rw [World.frozen?_setCell]; exact h.free i
theorem NewRow.congr {w0 w : World} {n : Nat} {x y : Nat → Nat} (h : NewRow w0 w n x) (e : ∀ i, i < n → x i = y i) : NewRow w0 w n y where
 size := h.size
 below := h.below
 cells := fun i hi => by rw [h.cells i hi, e i hi]
 free := h.free

end Go.Proofs.YtdohmokhfajjpaaGreatDoor

/- Contract of SameBytes of the statements' kit: of two slices that read alike it returns true, and leaves the world as it was. -/
namespace Go.Proofs.YtdohmokhfajjpaaGreatDoor
open Go.RowKit

/-- The slice's value leads to n bytes x; one of no byte may lead anywhere. -/
def StrAt (w : World) (p : Option Addr) (n : Nat) (x : Nat → Nat) : Prop := n = 0 ∨ ∃ b o, p = some ⟨b, o, none⟩ ∧ RowAt w b o n x
def strN (n : Nat) (x : Nat → Nat) : ByteArray := strOfNums ((List.range n).map fun i => (x i : Int))
theorem conv_str (w : World) (p : Option Addr) (n c : Nat) (x : Nat → Nat) (h : StrAt w p n x) :
  (convert 22 9 (.slice p n c)).run Tryz.prog w = .ok (.string (strN n x)) w := by
 rcases h with rfl | ⟨b, o, rfl, h⟩
 ·rw [run_convert_bytes_string w 22 9 5 _ 0 c Tryz.underlying22 Tryz.underlying5 Tryz.underlying9]
  cases p <;> simp [Conv.bytesToString, loadCells, strN]
  all_goals rfl
 ·exact run_convert_bytes_arg w 22 5 Tryz.underlying22 Tryz.underlying5 b o n c _ (by simp) (fun i hi => by rw [h i hi]; simp [List.getD, hi]) 9 Tryz.underlying9

end Go.Proofs.YtdohmokhfajjpaaGreatDoor

/- Contract of LentBytes of the statements' kit: a copy of the bytes lies in a new block, with three marked bytes of spare room behind it; what was there is as it was. -/
namespace Go.Proofs.YtdohmokhfajjpaaGreatDoor
open Go.RowKit

theorem size_setCells (b : Nat) : ∀ (vs : List Value) (o : Nat) (w : World), (w.setCells b o vs).heap.size = w.heap.size
 | [], _, _ => rfl
 | v :: r, o, w => by rw [World.setCells, size_setCells b r, World.size_setCell]
theorem below_setCells (b B : Nat) (hB : B ≤ b) : ∀ (vs : List Value) (o : Nat) (w0 w : World), Below B w0 w → Below B w0 (w.setCells b o vs)
 | [], _, _, _, h => h
 | v :: r, o, w0, w, h => by rw [World.setCells]; exact below_setCells b B hB r (o + 1) w0 _ (h.setCell hB _)

/-- n bytes as values. -/
def valN (n : Nat) (x : Nat → Nat) : List Value := (List.range n).map fun i => .int .u8 (x i : Nat)
theorem valN_len (n : Nat) (x : Nat → Nat) : (valN n x).length = n := by simp [valN]
theorem valN_get (n : Nat) (x : Nat → Nat) (i : Nat) (h : i < n) : (valN n x)[i]? = some (.int .u8 (x i : Nat)) := by simp [valN, h]

theorem NewRow.copied {w0 w : World} {n : Nat} {x : Nat → Nat} (h : NewRow w0 w n x) (m : Nat) (y : Nat → Nat) (hm : m ≤ n) :
  NewRow w0 (w.setCells w0.heap.size 0 (valN m y)) n (fun i => if i < m then y i else x i) where
 size := by rw [size_setCells, h.size]
 below := below_setCells _ _ (Nat.le_refl _) _ _ _ _ h.below
 cells := fun i hi => by
  by_cases e : i < m
  ·have hin := World.cell?_setCells_in w0.heap.size (valN m y) 0 w (fun j hj => by
     rw [valN_len] at hj
     rw [Nat.zero_add, h.cells j (by omega)]; rfl) i (by rw [valN_len]; exact e)
   rw [Nat.zero_add] at hin
   rw [hin, if_pos e]
   have g := valN_get m y i e
   rw [List.getElem?_eq_getElem (by rw [valN_len]; exact e)] at g
   exact g
  ·rw [World.cell?_setCells_out _ _ _ _ _ (fun _ _ => by rw [valN_len]; right; simp; omega), if_neg e, h.cells i hi]
 free := fun i => by rw [World.frozen?_setCells]; exact h.free i

/-- What a lent list reads as, its spare room with it. -/
def lentN (n : Nat) (x : Nat → Nat) (i : Nat) : Nat := if i < n then x i else 160 + i % 90

end Go.Proofs.YtdohmokhfajjpaaGreatDoor

/- Contract of KeptBytes of the statements' kit: it returns true of a lent list that reads as it was lent. -/
namespace Go.Proofs.YtdohmokhfajjpaaGreatDoor
open Go.RowKit

theorem RowAt.below {B : Nat} {w w' : World} {b o n : Nat} {x : Nat → Nat} (h : RowAt w b o n x) (hb : Below B w w') (hlt : b < B) : RowAt w' b o n x :=
 fun i hi => (hb.cell (p := ⟨b, o + i, none⟩) hlt).trans (h i hi)
theorem NewRow.row {w0 w : World} {n : Nat} {x : Nat → Nat} (h : NewRow w0 w n x) : RowAt w w0.heap.size 0 n x :=
 fun i hi => by rw [Nat.zero_add]; exact h.cells i hi

/-- Bytes that were lent. -/
structure Lent (w : World) (g : Nat) (bs : List Nat) : Prop where
 lt : g < w.heap.size
 row : RowAt w g 0 (bs.length + 3) (lentN bs.length fun i => bs.getD i 0)
theorem Lent.below {w w' : World} {g : Nat} {bs : List Nat} (h : Lent w g bs) (hb : Below w.heap.size w w') : Lent w' g bs := ⟨Nat.lt_of_lt_of_le h.lt hb.size, h.row.below hb h.lt⟩
theorem Lent.only {w w' : World} {g : Nat} {bs : List Nat} {S : Nat → Prop} (h : Lent w g bs) (ho : Only S w w') (hS : ¬ S g) : Lent w' g bs :=
 ⟨Nat.lt_of_lt_of_le h.lt ho.size, fun i hi => (World.cell?_of_block (ho.block g h.lt hS)).trans (h.row i hi)⟩
/-- c cells of a block, each a byte, that may be written. -/
structure CellsU (w : World) (g c : Nat) : Prop where
 c : ∀ i, i < c → ∃ z : Nat, z < 256 ∧ w.cell? ⟨g, i, none⟩ = some (.int .u8 (z : Int))
 f : ∀ i, w.frozen? ⟨g, i, none⟩ = false
theorem CellsU.set {w : World} {g c : Nat} (h : CellsU w g c) (k z : Nat) (hz : z < 256) : CellsU (w.setCell ⟨g, k, none⟩ (.int .u8 (z : Int))) g c :=
 ⟨fun i hi => by
  obtain ⟨x, hx, hc⟩ := h.c i hi
  by_cases e : i = k
  ·subst e; exact ⟨z, hz, World.cell?_setCell_same _ _ _ hc⟩
  ·exact ⟨x, hx, by rw [World.cell?_setCell_other _ _ _ _ (by intro h2; cases h2; exact e rfl)]; exact hc⟩, fun i => by rw [World.frozen?_setCell]; exact h.f i⟩
theorem xor_lt {a b : Nat} (ha : a < 256) (hb : b < 256) : a ^^^ b < 256 := Nat.xor_lt_two_pow (n := 8) ha hb


end Go.Proofs.YtdohmokhfajjpaaGreatDoor

/- The walk of RecordNumbers. (Written by tools/gen_Vj.py.) -/
namespace Go.Proofs.YtdohmokhfajjpaaGreatDoor
open Go Go.RowKit

theorem SL.nil (w : World) : SL w (.slice none 0 0) [] := ⟨none, 0, rfl, Or.inl rfl, Nat.le_refl _⟩
theorem OutB.blk {B : Nat} {w : World} {v : Value} {bs : List Nat} (h : OutB B w v bs) : ∀ b, v.ownBlock = some b → B ≤ b ∧ b < w.heap.size := fun b hb => by
 rcases h with ⟨rfl, _⟩ | ⟨g, rfl, h1, h2, _⟩
 ·cases hb
 ·cases hb; exact ⟨h1, h2⟩
theorem OutB.only {B : Nat} {w w' : World} {v : Value} {bs : List Nat} {S : Nat → Prop} (h : OutB B w v bs) (ho : Only S w w') (hS : ∀ b, v.ownBlock = some b → ¬ S b) : OutB B w' v bs := by
 rcases h with h | ⟨g, h1, h2, h3, h4, h5⟩
 ·exact Or.inl h
 ·have e := ho.block g h3 (hS g (by rw [h1]; rfl))
  exact Or.inr ⟨g, h1, h2, by have := ho.size; omega, fun i hi => (World.cell?_of_block e).trans (h4 i hi), fun i => by have := h5 i; unfold World.frozen? at this ⊢; rw [e]; exact this⟩
end Go.Proofs.YtdohmokhfajjpaaGreatDoor

/- Which texts may be IDs, tags, data names, by the program and by the document. (Written by tools/gen_Vk.py.) -/
namespace Go.Proofs.YtdohmokhfajjpaaGreatDoor
open Go Go.RowKit

theorem toBytes (s : ByteArray) (w : World) : ∃ c w1, (convert 9 22 (.string s)).run Tryz.prog w = .ok (.slice (some ⟨w.heap.size, 0, none⟩) s.size c) w1 ∧ Below w.heap.size w w1 ∧ BL w1 (some ⟨w.heap.size, 0, none⟩) (lst s) ∧ s.size ≤ c := by
 refine ⟨_, _, Lib.run_convert_string_bytes (P := Tryz.prog) w 9 22 5 s Tryz.underlying9 Tryz.underlying22 Tryz.underlying5, ⟨rfl, rfl, rfl, by rw [Lib.bytesWorld_size]; omega, fun k hk => Lib.bytesWorld_at_old w 5 s k hk⟩, Or.inr ⟨_, 0, rfl, fun i hi => ?_⟩, by have := grownCap_ge w s.size 0 5; omega⟩
 rw [lst_len] at hi
 rw [Nat.zero_add, Lib.bytesWorld_cell w 5 s i hi]
 have h2 : i < s.data.toList.length := by rw [Array.length_toList]; exact hi
 unfold lst u8
 rw [List.getD_eq_getElem?_getD, List.getD_eq_getElem?_getD, List.getElem?_map, List.getElem?_eq_getElem h2]
 rfl
theorem getD_all {l : List Nat} {f : Nat → Bool} : l.all f = true ↔ ∀ i, i < l.length → f (l.getD i 0) = true := by
 rw [List.all_eq_true]
 constructor
 ·intro h i hi
  rw [List.getD_eq_getElem?_getD, List.getElem?_eq_getElem hi]
  exact h _ (List.getElem_mem hi)
 ·intro h x hx
  obtain ⟨i, hi, rfl⟩ := List.mem_iff_getElem.1 hx
  have := h i hi
  rwa [List.getD_eq_getElem?_getD, List.getElem?_eq_getElem hi] at this
theorem all_not {l : List Nat} {last : Nat} {dash : Bool} {k : Nat} (hk : k < l.length) (h : isOf last dash (l.getD k 0) = false) : l.all (isOf last dash) = false := by
 cases e : l.all (isOf last dash)
 ·rfl
 ·have := getD_all.1 e k hk; rw [h] at this; cases this
theorem lst_getD (s : ByteArray) (i : Nat) : (lst s).getD i 0 < 256 := by
 by_cases hi : i < (lst s).length
 ·rw [List.getD_eq_getElem?_getD, List.getElem?_eq_getElem hi]; exact lst_lt s _ (List.getElem_mem hi)
 ·rw [List.getD_eq_getElem?_getD, List.getElem?_eq_none (by omega)]; decide
set_option maxRecDepth 100000 in
set_option maxHeartbeats 2000000 in
theorem allOf_any (s : ByteArray) (last : Nat) (dash : Bool) (w : World) (hs : s.size ≤ 1000000) : Calls Tryz.prog 72 #[.string s, .int .u8 (last : Int), .bool dash] w fun e w' => e = .returned (.bool ((lst s).all (isOf last dash))) ∧ Below w.heap.size w w' := by
 obtain ⟨cc, w1, hconv, hb, hbl, _⟩ := toBytes s w
 have HB := hid hb
 have HBL := hid hbl
 have HZ := hid (lst_len s)
 clear hb hbl
 go_enter Tryz.func72, Tryz.ntmps72
 go_wp2
 clear hconv
 go_loopw [14] (fun v wr => ∃ k : Nat, k ≤ s.size ∧ v = .int .i64 (k : Int) ∧ w1 = wr ∧ ∀ i, i < k → isOf last dash ((lst s).getD i 0) = true) (fun v _ => (s.size - intOf v).toNat)
 case atStart => exact ⟨0, by omega, rfl, rfl, fun i hi => by omega⟩
 case round =>
  obtain ⟨k, hk, rfl, hw, hok⟩ := hrel
  have HOK := hid hok
  subst hw
  clear hok
  by_cases hlt0 : k < s.size
  ·have hlt : k < (lst s).length := by rw [lst_len]; exact hlt0
   have hlt' : (k : Int) < (s.size : Int) := by omega
   have hcell : w1.cell? ⟨w.heap.size, k, none⟩ = some (.int .u8 (((lst s).getD k 0 : Nat) : Int)) := by
    rcases HBL.out with h | ⟨b, o, e, h⟩
    ·rw [h] at hlt; simp at hlt
    ·cases e; have := h k hlt; rwa [Nat.zero_add] at this
   have hc8 := lst_getD s k
   generalize hc : (lst s).getD k 0 = c at hcell hc8
   have HC := hid hc
   clear hc
   by_cases hd : 48 ≤ c ∧ c ≤ 57
   ·have hok : isOf last dash c = true := by simp [isOf, dgt, hd]
    obtain ⟨hd1, hd2⟩ := hd
    go_wp2
    go_roundw
    case rel => exact ⟨k + 1, by omega, by go_num, by trivial, fun i hi => (by
      by_cases e : i = k
      ·rw [e, HC.out]; exact hok
      ·exact HOK.out i (by omega))⟩
    case measure => simp [intOf]; omega
   by_cases hl : 97 ≤ c ∧ c ≤ last
   ·have hok : isOf last dash c = true := by simp [isOf, hl]
    obtain ⟨hl1, hl2⟩ := hl
    have h5 : ¬ (c : Int) ≤ 57 := by omega
    go_wp2
    go_roundw
    case rel => exact ⟨k + 1, by omega, by go_num, by trivial, fun i hi => (by
      by_cases e : i = k
      ·rw [e, HC.out]; exact hok
      ·exact HOK.out i (by omega))⟩
    case measure => simp [intOf]; omega
   have h3 : c < 48 ∨ (57 < c ∧ c < 97) ∨ (97 ≤ c ∧ last < c) := by omega
   cases dash with
   | false =>
    have hok : isOf last false c = false := by simp [isOf, dgt]; omega
    rcases h3 with h3 | ⟨h3, h4⟩ | ⟨h3, h4⟩
    ·clear hd hl
     go_wp2
     go_ret
     exact ⟨by rw [all_not (last := last) hlt (by rw [HC.out]; exact hok)]; rfl, HB.out⟩
    ·have h5 : ¬ (c : Int) ≤ 57 := by omega
     clear hd hl
     go_wp2
     go_ret
     exact ⟨by rw [all_not (last := last) hlt (by rw [HC.out]; exact hok)]; rfl, HB.out⟩
    ·have h5 : ¬ (c : Int) ≤ 57 := by omega
     have h6 : ¬ (c : Int) ≤ (last : Int) := by omega
     clear hd hl
     go_wp2
     go_ret
     exact ⟨by rw [all_not (last := last) hlt (by rw [HC.out]; exact hok)]; rfl, HB.out⟩
   | true =>
    by_cases h45 : c = 45
    ·have hok : isOf last true c = true := by simp [isOf, h45]
     subst h45
     clear hd hl h3
     go_wp2
     go_roundw
     case rel => exact ⟨k + 1, by omega, by go_num, by trivial, fun i hi => (by
       by_cases e : i = k
       ·rw [e, HC.out]; exact hok
       ·exact HOK.out i (by omega))⟩
     case measure => simp [intOf]; omega
    ·have hok : isOf last true c = false := by simp [isOf, dgt]; omega
     have h45' : ((c : Int) == 45) = false := by simp; omega
     rcases h3 with h3 | ⟨h3, h4⟩ | ⟨h3, h4⟩
     ·clear hd hl
      go_wp2
      go_ret
      exact ⟨by rw [all_not (last := last) hlt (by rw [HC.out]; exact hok)]; rfl, HB.out⟩
     ·have h5 : ¬ (c : Int) ≤ 57 := by omega
      clear hd hl
      go_wp2
      go_ret
      exact ⟨by rw [all_not (last := last) hlt (by rw [HC.out]; exact hok)]; rfl, HB.out⟩
     ·have h5 : ¬ (c : Int) ≤ 57 := by omega
      have h6 : ¬ (c : Int) ≤ (last : Int) := by omega
      clear hd hl
      go_wp2
      go_ret
      exact ⟨by rw [all_not (last := last) hlt (by rw [HC.out]; exact hok)]; rfl, HB.out⟩
  ·have hlt' : ¬ (k : Int) < (s.size : Int) := by omega
   have e : Hid ((lst s).all (isOf last dash) = true) := getD_all.2 fun i hi => HOK.out i (by rw [lst_len] at hi; omega)
   go_wp2
   go_ret
   exact ⟨by rw [e.out]; rfl, HB.out⟩
theorem okOf_all {l : List Nat} {least most last : Nat} {dash : Bool} (h : l.all (isOf last dash) = true) : okOf l least most last dash = inR (l.length : Int) (least : Int) (most : Int) := by
 unfold okOf inR; rw [h]
 simp only [Bool.true_and]
 congr 1 <;> simp
theorem okOf_in (l : List Nat) (least most last : Nat) (dash : Bool) : okOf l least most last dash = (inR (l.length : Int) (least : Int) (most : Int) && l.all (isOf last dash)) := by
 cases h : l.all (isOf last dash)
 ·unfold okOf; rw [h]; simp
 ·rw [okOf_all h]; simp
theorem isID_any (s : ByteArray) (w : World) (hs : s.size ≤ 1000000) : Calls Tryz.prog 49 #[.string s] w fun e w' => e = .returned (.bool (okId (lst s))) ∧ Below w.heap.size w w' := by
 have hal := allOf_any s 122 false w hs
 have hle : okId (lst s) = (inR (s.size : Int) 1 32 && (lst s).all (isOf 122 false)) := by unfold okId; rw [okOf_in, lst_len]; rfl
 rw [hle]
 clear hle
 generalize (lst s).all (isOf 122 false) = bb at *
 cases hin : inR (s.size : Int) 1 32
 ·go_enter Tryz.func49, Tryz.ntmps49
  go_wp2_with (go_at_call 50; refine (between_any _ _ _ _).mono ?_; rintro e w' ⟨rfl, hw'⟩; rw [hin]; have hw2 := hw'.symm; subst hw2)
  go_ret
  exact ⟨rfl, Below.refl _ _⟩
 ·go_enter Tryz.func49, Tryz.ntmps49
  go_wp2_with (first
   | (go_at_call 50; refine (between_any _ _ _ _).mono ?_; rintro e w' ⟨rfl, hw'⟩; rw [hin]; have hw2 := hw'.symm; subst hw2)
   | (go_at_call 72; refine hal.mono ?_; rintro e w1 ⟨rfl, hb⟩))
  go_ret
  exact ⟨by simp, hb⟩
theorem isTag_any (s : ByteArray) (w : World) (hs : s.size ≤ 1000000) : Calls Tryz.prog 74 #[.string s] w fun e w' => e = .returned (.bool (okTag (lst s))) ∧ Below w.heap.size w w' := by
 have hal := allOf_any s 102 true w hs
 have hle : okTag (lst s) = (inR (s.size : Int) 1 40 && (lst s).all (isOf 102 true)) := by unfold okTag; rw [okOf_in, lst_len]; rfl
 rw [hle]
 clear hle
 generalize (lst s).all (isOf 102 true) = bb at *
 cases hin : inR (s.size : Int) 1 40
 ·go_enter Tryz.func74, Tryz.ntmps74
  go_wp2_with (go_at_call 50; refine (between_any _ _ _ _).mono ?_; rintro e w' ⟨rfl, hw'⟩; rw [hin]; have hw2 := hw'.symm; subst hw2)
  go_ret
  exact ⟨rfl, Below.refl _ _⟩
 ·go_enter Tryz.func74, Tryz.ntmps74
  go_wp2_with (first
   | (go_at_call 50; refine (between_any _ _ _ _).mono ?_; rintro e w' ⟨rfl, hw'⟩; rw [hin]; have hw2 := hw'.symm; subst hw2)
   | (go_at_call 72; refine hal.mono ?_; rintro e w1 ⟨rfl, hb⟩))
  go_ret
  exact ⟨by simp, hb⟩
theorem isDataName_any (s : ByteArray) (w : World) (hs : s.size ≤ 1000000) : Calls Tryz.prog 75 #[.string s] w fun e w' => e = .returned (.bool (okData (lst s))) ∧ Below w.heap.size w w' := by
 have hal := allOf_any s 102 false w hs
 have hle : okData (lst s) = (inR (s.size : Int) 32 32 && (lst s).all (isOf 102 false)) := by unfold okData; rw [okOf_in, lst_len]; rfl
 rw [hle]
 clear hle
 generalize (lst s).all (isOf 102 false) = bb at *
 by_cases hin : (s.size : Int) = 32
 ·have hi : inR (s.size : Int) 32 32 = true := inR_iff.2 (by omega)
  rw [hi]
  have hin' : ((s.size : Int) == 32) = true := by simpa using hin
  go_enter Tryz.func75, Tryz.ntmps75
  go_wp2_with (go_at_call 72; refine hal.mono ?_; rintro e w1 ⟨rfl, hb⟩)
  go_ret
  exact ⟨by simp, hb⟩
 ·have hi : inR (s.size : Int) 32 32 = false := by simp [inR]; omega
  rw [hi]
  have hin' : ((s.size : Int) == 32) = false := by simpa using hin
  go_enter Tryz.func75, Tryz.ntmps75
  go_wp2_with fail
  go_ret
  exact ⟨rfl, Below.refl _ _⟩
end Go.Proofs.YtdohmokhfajjpaaGreatDoor

/- Records and their parts in memory. Contracts of slices.Equal over parts. -/

namespace Go.Proofs.YtdohmokhfajjpaaGreatDoor
open Go Go.RowKit

theorem run_loadVar_at (w : World) (g off : Nat) (ty : TypeId) (cs : Array Value) (d : TypeDesc) (hc : ∀ j v, cs[j]? = some v → w.cell? ⟨g, off + j, none⟩ = some v)
  (hu : Tryz.prog.underlying ty = some d) (hd : (match d with | .struct _ | .array _ _ => true | _ => false) = true) (hi : (Tryz.prog.info? ty).map (·.size) = some cs.size) :
  (loadVar ty ⟨g, off, none⟩).run Tryz.prog w = .ok (.agg cs) w := by
 have hl : (loadCells ⟨g, off, none⟩ cs.toList.length).run Tryz.prog w = .ok cs.toList.toArray w :=
  run_loadCells_list (P := Tryz.prog) w ⟨g, off, none⟩ cs.toList (fun j v hv => by
   rw [add_none]; exact hc j v (by simpa using hv))
 cases hq : Tryz.prog.info? ty with
 | none => simp [hq] at hi
 | some i =>
  have hs : i.size = cs.size := by simpa [hq] using hi
  have hagg : (isAgg ty).run Tryz.prog w = .ok true w := by
   unfold isAgg
   rw [Sem.run_bind, run_underlying hu w]
   cases d <;> simp_all
  simp only [Array.length_toList, Array.toArray_toList] at hl
  simp [loadVar, Sem.run_bind, hagg, sizeOf, typeInfo, hq, hs, hl]
theorem wpList_load_at {ops : Array Oper} {rest : List Oper} {o : Oper} {a : Act} {w : World} {Q : Exit → Act → World → Prop} (ty : TypeId) (x : Operand) (ho : o.op = .load ty x) (hw : Region.wanted o (yielded ops a.tmps) = true)
  (g off : Nat) (hx : a.eval x = .pointer (some ⟨g, off, none⟩)) (cs : Array Value) (d : TypeDesc) (hc : ∀ j v, cs[j]? = some v → w.cell? ⟨g, off + j, none⟩ = some v)
  (hu : Tryz.prog.underlying ty = some d) (hd : (match d with | .struct _ | .array _ _ => true | _ => false) = true) (hi : (Tryz.prog.info? ty).map (·.size) = some cs.size)
  (h : wpList Tryz.prog ops Q rest (a.put o.dst (.agg cs)) w) : wpList Tryz.prog ops Q (o :: rest) a w := by
 refine BigFrame.wpList_want hw fun K hK => ?_
 unfold Oper.wp execOp
 simp only [ho, hx, Instr.loadAt, Instr.sureAddr, Sem.run_bind, Sem.run_pure, Result.andThen_ok, run_loadVar_at w g off ty cs d hc hu hd hi]
 exact hK _ _ h
/-- Parts of a version. -/
abbrev Ps := List (Int × Int)
def PCells (w : World) (b o : Nat) (ps : Ps) : Prop := ∀ i, i < ps.length → w.cell? ⟨b, o + i * 2, none⟩ = some (i64 (ps.getD i (0, 0)).1) ∧ w.cell? ⟨b, o + i * 2 + 1, none⟩ = some (i64 (ps.getD i (0, 0)).2)
def PL (w : World) (v : Value) (ps : Ps) : Prop := ∃ po c, v = .slice po ps.length c ∧ ps.length ≤ c ∧ ps.length ≤ 100000 ∧ (ps = [] ∨ ∃ b o, po = some ⟨b, o, none⟩ ∧ PCells w b o ps)
theorem PL.keep {w w' : World} {v : Value} {ps : Ps} (h : PL w v ps) (hk : ∀ a, w.cell? a ≠ none → w'.cell? a = w.cell? a) : PL w' v ps := by
 obtain ⟨po, c, h1, h2, h3, h⟩ := h
 refine ⟨po, c, h1, h2, h3, ?_⟩
 rcases h with h | ⟨b, o, hp, h⟩
 ·exact Or.inl h
 ·exact Or.inr ⟨b, o, hp, fun i hi => ⟨(hk _ (by rw [(h i hi).1]; simp)).trans (h i hi).1, (hk _ (by rw [(h i hi).2]; simp)).trans (h i hi).2⟩⟩
theorem PL.below {w w' : World} {v : Value} {ps : Ps} (h : PL w v ps) (hb : Below w.heap.size w w') : PL w' v ps :=
 h.keep fun a ha => World.cell?_of_block (hb.block a.block (cell_lt' ha))
set_option maxRecDepth 100000 in
set_option maxHeartbeats 1000000 in
theorem equal_any (u v : Value) (ps qs : Ps) (w : World) (hu : PL w u ps) (hv : PL w v qs) : Calls Tryz.prog 73 #[u, v] w fun e w' => e = .returned (.bool (decide (ps = qs))) ∧ Below w.heap.size w w' := by
 obtain ⟨p, c, rfl, hc, hl, hp⟩ := hu
 obtain ⟨q, d, rfl, hd, hl2, hq⟩ := hv
 by_cases hlen : ps.length = qs.length
 ·have hlen' : (ps.length : Int) = (qs.length : Int) := by omega
  have HP := hid hp
  have HQ := hid hq
  have HE := hid hlen
  rw [← hlen] at hl2 hd ⊢
  clear hp hq hlen'
  go_enter Tryz.func73, Tryz.ntmps73
  go_wp2
  go_loopw [13] (fun v wr => ∃ k : Nat, k ≤ ps.length ∧ v = .int .i64 (k : Int) ∧ Below w.heap.size w wr ∧ ∀ i, i < k → ps.getD i (0, 0) = qs.getD i (0, 0)) (fun v _ => (ps.length - intOf v).toNat)
  case atStart => exact ⟨0, by omega, rfl, Below.refl _ _, fun i hi => by omega⟩
  case round =>
   obtain ⟨k, hk, rfl, hw, hok⟩ := hrel
   have HOK := hid hok
   have HW := hid hw
   clear hok hw
   by_cases hlt : k < ps.length
   ·have hlt' : (k : Int) < (ps.length : Int) := by omega
    have hx : ∃ b o, p = some ⟨b, o, none⟩ ∧ wr.cell? ⟨b, o + k * 2, none⟩ = some (i64 (ps.getD k (0, 0)).1) ∧ wr.cell? ⟨b, o + k * 2 + 1, none⟩ = some (i64 (ps.getD k (0, 0)).2) := by
     rcases HP.out with h | ⟨b, o, h, hc⟩
     ·rw [h] at hlt; simp at hlt
     ·obtain ⟨h1, h2⟩ := hc k hlt
      exact ⟨b, o, h, (World.cell?_of_block (HW.out.block b (cell_lt' (a := ⟨b, o + k * 2, none⟩) (by rw [h1]; simp)))).trans h1, (World.cell?_of_block (HW.out.block b (cell_lt' (a := ⟨b, o + k * 2, none⟩) (by rw [h1]; simp)))).trans h2⟩
    have hy : ∃ b o, q = some ⟨b, o, none⟩ ∧ wr.cell? ⟨b, o + k * 2, none⟩ = some (i64 (qs.getD k (0, 0)).1) ∧ wr.cell? ⟨b, o + k * 2 + 1, none⟩ = some (i64 (qs.getD k (0, 0)).2) := by
     rcases HQ.out with h | ⟨b, o, h, hc⟩
     ·have := HE.out; rw [h] at this; simp at this; subst this; simp at hlt
     ·obtain ⟨h1, h2⟩ := hc k (by have := HE.out; omega)
      exact ⟨b, o, h, (World.cell?_of_block (HW.out.block b (cell_lt' (a := ⟨b, o + k * 2, none⟩) (by rw [h1]; simp)))).trans h1, (World.cell?_of_block (HW.out.block b (cell_lt' (a := ⟨b, o + k * 2, none⟩) (by rw [h1]; simp)))).trans h2⟩
    obtain ⟨b, o, rfl, x1, x2⟩ := hx
    obtain ⟨b', o', rfl, y1, y2⟩ := hy
    by_cases hX : (ps.getD k (0, 0)).1 = (qs.getD k (0, 0)).1
    ·by_cases hY : (ps.getD k (0, 0)).2 = (qs.getD k (0, 0)).2
     ·have HXY : Hid (ps.getD k (0, 0) = qs.getD k (0, 0)) := Prod.ext hX hY
      rw [← hX] at y1
      rw [← hY] at y2
      clear hX hY
      generalize (ps.getD k (0, 0)).1 = X1 at *
      generalize (ps.getD k (0, 0)).2 = X2 at *
      go_wp2
      go_region
      go_wp2
      exact ⟨⟨k + 1, by omega, by simp, HW.out.drew, fun i hi => (by
       by_cases e : i = k
       ·rw [e]; exact HXY.out
       ·exact HOK.out i (by omega))⟩, by simp [intOf]; omega⟩
     ·have e : Hid (decide (ps = qs) = false) := decide_eq_false fun e => hY (by rw [e])
      rw [← hX] at y1
      clear hX
      generalize (ps.getD k (0, 0)).1 = X1 at *
      generalize (ps.getD k (0, 0)).2 = X2 at *
      generalize (qs.getD k (0, 0)).2 = Y2 at *
      go_wp2
      go_region
      go_wp2
      go_ret
      exact ⟨by rw [e.out]; rfl, HW.out.drew⟩
    ·have e : Hid (decide (ps = qs) = false) := decide_eq_false fun e => hX (by rw [e])
     generalize (ps.getD k (0, 0)).1 = X1 at *
     generalize (ps.getD k (0, 0)).2 = X2 at *
     generalize (qs.getD k (0, 0)).1 = Y1 at *
     generalize (qs.getD k (0, 0)).2 = Y2 at *
     go_wp2
     go_region
     go_wp2
     go_ret
     exact ⟨by rw [e.out]; rfl, HW.out.drew⟩
   ·have hlt' : ¬ (k : Int) < (ps.length : Int) := by omega
    have e : Hid (decide (ps = qs) = true) := decide_eq_true (List.ext_getElem HE.out fun i h1 h2 => by
     have := HOK.out i (by omega)
     simpa [List.getD, h1, h2] using this)
    go_wp2
    go_ret
    exact ⟨by rw [e.out]; rfl, HW.out⟩
 ·have hlen' : ((ps.length : Int) == (qs.length : Int)) = false := by simp; omega
  have e : decide (ps = qs) = false := decide_eq_false fun e => hlen (by rw [e])
  rw [e]
  go_enter Tryz.func73, Tryz.ntmps73
  go_wp2
  go_ret
  exact ⟨rfl, Below.refl _ _⟩
end Go.Proofs.YtdohmokhfajjpaaGreatDoor
