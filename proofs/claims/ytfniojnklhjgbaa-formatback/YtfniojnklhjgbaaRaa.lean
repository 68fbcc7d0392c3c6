/- Texts laid into one: the remark ahead of each part says what is proved there. -/
import Derived.Test.YtfniojnklhjgbaaPaa
import Derived.Test.YtfniojnklhjgbaaPab
import Derived.Test.YtfniojnklhjgbaaPac
import Derived.Test.YtfniojnklhjgbaaPad
import Derived.Test.YtfniojnklhjgbaaPae
import Derived.Test.YtfniojnklhjgbaaPaf
import Derived.Test.YtfniojnklhjgbaaPag
import Derived.Test.YtfniojnklhjgbaaPah
import Derived.Test.YtfniojnklhjgbaaPai
import Derived.Test.YtfniojnklhjgbaaPaj
import Derived.Test.YtfniojnklhjgbaaPak
import Derived.Test.YtfniojnklhjgbaaPal
import Derived.Test.YtfniojnklhjgbaaPam
import Derived.Test.YtfniojnklhjgbaaPan
import Derived.Test.YtfniojnklhjgbaaPao
import Derived.Test.YtfniojnklhjgbaaPap
import Derived.Test.YtfniojnklhjgbaaPaq
import Derived.Test.YtfniojnklhjgbaaPar
import Derived.Laws.BitsAllLaws
/- Contracts of what writes numbers and texts: clipped, fresh, appendNumber, appendText, Uint, Text of package record. -/
namespace Go.Proofs.Ytfniojnklhjgbaa
open Go Go.RowKit

def BufS (B : Nat) (w : World) (L : List Nat) (e : Ending) (w' : World) : Prop := ∃ v', e = .returned v' ∧ Buf B w' v' L ∧ Below B w w'
end Go.Proofs.Ytfniojnklhjgbaa

/- Contracts of the document's ReadText; of SameBytes and CopyBytes of the statements' kit. -/
namespace Go.Proofs.Ytfniojnklhjgbaa
open Go Go.RowKit

theorem Buf.made0 (w : World) (B : Nat) (hB : B ≤ w.heap.size) : Buf B (w.alloc (.cells #[] 5)) (.slice (some ⟨w.heap.size, 0, none⟩) 0 0) [] := World.ownsRow_made w #[] 0 hB (by unfold maxLen; omega) (by simp)
theorem copyB_any {w : World} {v : Value} {x : List Nat} (hv : SL w v x) (hn : x.length ≤ 1000000) (hnil : ∀ n c, v = .slice none n c → c = 0) : Calls Try.prog 24 #[v] w (BufS w.heap.size w x) := by
  obtain ⟨p, c, rfl, hp, _⟩ := hv
  obtain ⟨v', w', hr, hb, hg⟩ := (Buf.made0 w w.heap.size (Nat.le_refl _)).app p c x (hp.below (below_al _ _)) (fun e => by subst e; exact hnil _ _ rfl) (by simp; omega) (by rw [size_al]; omega)
  have HRUN := hid hr
  clear hr
  go_enter Try.func24, Try.ntmps24
  go_wp2_with (at_builtin; refine wpList_append_run _ _ 24 24 rfl rfl _ _ _ rfl rfl HRUN.out ?_)
  go_ret
  exact ⟨v', rfl, by simpa using hb, below_grown (below_al _ _) hg (Nat.le_refl _) (fun b hb => by cases hb; exact Nat.le_refl _)⟩

end Go.Proofs.Ytfniojnklhjgbaa

/- Formats: the mathematics: which may be, their bytes, which format any bytes are, all formats of k, m and so many sets, how each copy is judged. -/
namespace Go.Proofs.Ytfniojnklhjgbaa
open Go Go.RowKit

instance : Inhabited FmV := ⟨⟨0, 0, 0, 0, 0⟩⟩
theorem fmB_inj {f g : FmV} (hf : okFm f = true) (hg : okFm g = true) : fmB f = fmB g ↔ f = g := ⟨fun h => by rw [← fmG_fmB hf, ← fmG_fmB hg, h], fun h => by rw [h]⟩
/-- A turned byte: read only if the digest is that of what stands ahead. -/
theorem rd_sealed {L : List Nat} (h : rdFe L = 0) : L.length = 40 ∧ dig (L.take 8) = L.drop 8 := by
  unfold rdFe at h
  split at h
  · cases h
  · split at h
    · cases h
    · rename_i h1 h2
      exact ⟨Classical.not_not.1 fun e => h1 (.inl e), Classical.not_not.1 h2⟩
end Go.Proofs.Ytfniojnklhjgbaa

/- Pick; sealed; the bytes of a journal. -/
namespace Go.Proofs.Ytfniojnklhjgbaa
open Go Go.RowKit

def pkN (x : Int) (n : Nat) : Nat := if x.tmod n < 0 then (x.tmod n + n).toNat else (x.tmod n).toNat
theorem tmod_lo (x : Int) (n : Nat) (h : 1 ≤ n) : -(n : Int) < x.tmod n := by
  have := Int.tmod_lt_of_pos (-x) (b := (n : Int)) (by omega)
  rw [Int.neg_tmod] at this; omega
theorem pkN_lt (x : Int) (n : Nat) (h : 1 ≤ n) : pkN x n < n := by
  have b1 := Int.tmod_lt_of_pos x (b := (n : Int)) (by omega)
  have b2 := tmod_lo x n h
  unfold pkN; split <;> omega
theorem pick_any (x : Int) (n : Nat) (w : World) (h1 : 1 ≤ n) (hn : n ≤ 1000000) :
    Calls Try.prog 25 #[.int .i64 x, .int .i64 (n : Int)] w fun e w' => e = .returned (.int .i64 (pkN x n : Int)) ∧ w' = w := by
  have b1 := Int.tmod_lt_of_pos x (b := (n : Int)) (by omega)
  have b2 := tmod_lo x n h1
  have hn1 : ¬ (n : Int) < 1 := by omega
  have hn0 : ¬ (n : Int) = 0 := by omega
  by_cases hneg : x.tmod n < 0
  · have e : ((pkN x n : Nat) : Int) = x.tmod n + n := by unfold pkN; rw [if_pos hneg]; omega
    have HE := hid e
    clear e
    go_enter Try.func25, Try.ntmps25
    go_wp2
    go_ret
    exact ⟨by rw [HE.out]; rfl, rfl⟩
  · have e : ((pkN x n : Nat) : Int) = x.tmod n := by unfold pkN; rw [if_neg hneg]; omega
    have HE := hid e
    clear e
    go_enter Try.func25, Try.ntmps25
    go_wp2
    go_ret
    exact ⟨by rw [HE.out]; rfl, rfl⟩
/-- Are the last 32 bytes the digest of those ahead? -/
def sealB (L : List Nat) : Bool := decide (32 ≤ L.length) && decide (dig (L.take (L.length - 32)) = L.drop (L.length - 32))
end Go.Proofs.Ytfniojnklhjgbaa

/- The statements' sealed (out of S8's Jbc). -/
namespace Go.Proofs.Ytfniojnklhjgbaa
open Go Go.RowKit

set_option maxRecDepth 100000 in
set_option maxHeartbeats 2000000 in
theorem sealed14_any (po : Option Addr) (c : Nat) (L : List Nat) (w : World) (h : BL w po L) (hc : L.length ≤ c) (hn : L.length ≤ 100000) (h8 : ∀ z ∈ L, z < 256) : Calls Try.prog 26 #[.slice po L.length c] w fun e w' => e = .returned (.bool (sealB L)) ∧ Below w.heap.size w w' := by
  by_cases h32 : L.length < 32
  · have e : sealB L = false := by unfold sealB; rw [decide_eq_false (by omega)]; rfl
    rw [e]
    obtain ⟨n, hn'⟩ : ∃ n, L.length = n := ⟨_, rfl⟩
    rw [hn'] at h32 ⊢
    have hz : (n : Int) - 32 < 0 := by omega
    clear h e h8
    go_enter Try.func26, Try.ntmps26
    go_wp2
    go_ret
    exact ⟨rfl, Below.refl _ _⟩
  · obtain ⟨E, hE⟩ : ∃ E, L.length = E + 32 := ⟨L.length - 32, by omega⟩
    obtain ⟨b, o, rfl, hcells⟩ : ∃ b o, po = some ⟨b, o, none⟩ ∧ True := by
      rcases h with h | ⟨b, o, h, _⟩
      · rw [h] at hE; simp at hE
      · exact ⟨b, o, h, trivial⟩
    have e : sealB L = decide (dig (L.take E) = L.drop E) := by unfold sealB; rw [decide_eq_true (show 32 ≤ L.length by omega), show L.length - 32 = E by omega]; rfl
    rw [e, hE]
    have hs1 := run_head8n (some ⟨b, o, none⟩) (E + 32) c E (by omega)
    have hs2 : ∀ w, (Instr.slice 24 (.slice (some ⟨b, o, none⟩) (E + 32) c) (some (.int .i64 (E : Int))) none none).run Try.prog w = .ok (.slice (some ⟨b, o + E, none⟩) 32 (c - E)) w := fun w => by have := run_from8s b o (E + 32) c E (by omega) (by omega) w; rwa [show E + 32 - E = 32 by omega] at this
    obtain ⟨D, hD⟩ : ∃ D, dig (L.take E) = D := ⟨_, rfl⟩
    have hDl : D.length = 32 := by rw [← hD]; exact dig_len _
    have hD8 : ∀ z ∈ D, z < 256 := by rw [← hD]; exact dig_lt _
    have hE32 : (L.drop E).length = 32 := by rw [List.length_drop]; omega
    have HSUM : Hid (Calls Try.prog 31 #[.slice (some ⟨b, o, none⟩) E c] w fun e w' => e = .returned (.agg (sumC D)) ∧ Below w.heap.size w w') := hid (by
      have := dsum_any (some ⟨b, o, none⟩) c (L.take E) w (by rw [len_take (by omega)]; omega) (by rw [len_take (by omega)]; omega) (h.take E) (fun z hz => h8 z (List.mem_of_mem_take hz))
      rw [len_take (by omega), hD] at this
      exact this)
    rw [hD]
    obtain ⟨R, hR⟩ : ∃ R : Bool, decide (D = L.drop E) = R := ⟨_, rfl⟩
    rw [hR]
    have HEQ : Hid (∀ W g, Below w.heap.size w W → CAt W g (sumC D) 61 → Calls Try.prog 14 #[.slice (some ⟨g, 0, none⟩) 32 32, .slice (some ⟨b, o + E, none⟩) 32 (c - E)] W fun e w' => e = .returned (.bool R) ∧ w' = W) := hid (fun W g hW hg => by
      have := sameB_any (w := W) (u := .slice (some ⟨g, 0, none⟩) 32 32) (v := .slice (some ⟨b, o + E, none⟩) 32 (c - E)) (x := D) (y := L.drop E) ⟨_, _, by rw [hDl], hg.bl, by omega⟩ ⟨_, _, by rw [hE32], (h.below hW).drop E, by omega⟩ hD8 (fun z hz => h8 z (List.mem_of_mem_drop hz))
      rw [hR] at this
      exact this)
    have hEi : (E : Int) ≤ 100000 := by omega
    have hw0 : (((E + 32 : Nat) : Int)) - 32 = (E : Int) := by omega
    have hE0 : ¬ (E : Int) < 0 := by omega
    clear h hcells hD hD8 hE32 hE e h8 hR h32 hn
    have hsd := run_dig
    go_enter Try.func26, Try.ntmps26
    go_upto_region 5 with (first
      | (go_at_call 31; refine HSUM.out.mono ?_; rintro e w1 ⟨rfl, hb1⟩; have HB1 := hid hb1; clear hb1)
      | ((with_reducible refine wpList_allocD rfl rfl ?_); intro w2 g2 hz2 hb2 hg2; have HZ2 := hid hz2; have HB2 := hid (below_on HB1.out hb2); have HG2 := hid (show w.heap.size ≤ g2 by have := HB1.out.size; omega); clear hz2 hb2 hg2)
      | ((with_reducible refine wpList_storeD rfl rfl _ _ rfl g2 ?_ (m := zeroD) (n := D) ?_ ?_ hDl HZ2.out ?_); exact rfl; exact rfl; exact rfl; intro w3 h3 o3; have HB3 := hid (below_tr HB2.out (o3.below HB2.out.size (fun i e => by have := HG2.out; omega))); have HC3 := hid h3; clear h3 o3 HZ2))
    simp only [Act.put, List.setIfInBounds_toArray, List.set_cons_zero, List.set_cons_succ]
    have HEQ2 := hid (fun k => HEQ.out (w3.drewN k) g2 (below_on HB3.out (below_drewN w3 k)) HC3.out)
    go_quiet ((go_at_call 14; refine Calls.quiet_of_same (HEQ2.out _)))
    go_wp2
    go_ret
    exact ⟨rfl, below_on HB3.out (below_drewN _ _)⟩
/-- Forty bytes that are read are sealed. -/
theorem seal14 {L : List Nat} (h : rdFe L = 0) : sealB L = true := by
  obtain ⟨h1, h2⟩ := rd_sealed h
  unfold sealB
  rw [h1, decide_eq_true (show 32 ≤ 40 by omega)]
  simpa using h2
end Go.Proofs.Ytfniojnklhjgbaa

/- FormatBack over package format's contracts. (Written by tools/gen_Fm14.py.) -/
namespace Go.Proofs.Ytfniojnklhjgbaa
open Go Go.RowKit

theorem step_callGF {w : World} {ops : Array Oper} {o : Oper} {a : Act} {K : Act → World → Prop} {Q : Exit → Act → World → Prop} {E : Prop} (hw : Region.wanted o (yielded ops a.tmps) = true) (g : FuncId) (vs : Array Value) (hrun : (execOp a.eval o).run Try.prog w = .ok (.enter g vs) w)
    (h : Calls Try.prog g vs w fun e w' => ∃ v, e = .returned v ∧ K (a.put o.dst v) w') : if Region.wanted o (yielded ops a.tmps) = true then Oper.wp Try.prog o a w K Q else E := by
  rw [if_pos hw]
  exact H.wp_enter g vs hrun h
set_option linter.unusedVariables false in
set_option maxRecDepth 100000 in
set_option maxHeartbeats 4000000 in
theorem formatBack_bad (hF : FmC) (f g : FmV) (hf : f.wf) (hok : okFm f = false) (at_ : Int) (mask : Nat) (w : World) : Calls Try.prog 5 #[.agg f.cs, .agg g.cs, .int .i64 at_, .int .u8 (mask : Int)] w fun e w' => e = .returned (.bool true) ∧ Below w.heap.size w w' := by
  have HAW := hid (fun W => awake14_any hF W)
  have HBY := hid (fun W => (hF.bytes f W hf).mono (R' := fun e w' => e = .returned (.tuple #[.slice none 0 0, .int .i64 2]) ∧ Below W.heap.size W w') (fun e w' h => by
    rcases h with ⟨h, _⟩ | ⟨_, h⟩
    · rw [hok] at h; cases h
    · exact h))
  have TA : Hid True := hid trivial
  clear hF hf hok
  go_enter Try.func5, Try.ntmps5
  go_wp2_with (first
    | (clear TA; (with_reducible refine wpList_boxT 23 rfl _ rfl f.cs ?_ ?_); exact rfl; intro w1 g4 hc1 hb1 hg1; have HX4 := hid (show FmAt w1 g4 0 f from fun j u hu => by rw [Nat.zero_add, hc1.cell]; exact hu); have HB := hid hb1; clear hc1 hb1 hg1)
    | ((with_reducible refine wpList_boxT 23 rfl _ rfl g.cs ?_ ?_); exact rfl; intro w2 g5 hc1 hb1 hg1; replace HX4 := hid (HX4.out.below hb1); replace HB := hid (below_on HB.out hb1); clear hc1 hb1 hg1)
    | (go_at_call 18; refine (HAW.out _).mono ?_; rintro e w3 ⟨rfl, hb3⟩; replace HX4 := hid (HX4.out.below hb3); replace HB := hid (below_on HB.out hb3); clear hb3)
    | ((with_reducible refine wpList_loadW 23 _ rfl ?_ (.pointer (some ⟨g4, 0, none⟩)) (.agg f.cs) ?_ HX4.out.load ?_); kernel_rfl; exact rfl)
    | (go_at_call 10; refine (HBY.out _).mono ?_; rintro e w4 ⟨rfl, hb4⟩; replace HB := hid (below_on HB.out hb4); clear hb4))
  go_ret
  exact ⟨rfl, HB.out⟩
end Go.Proofs.Ytfniojnklhjgbaa

/- FormatBack over package format's contracts: no byte turned. (Written by tools/gen_Fm14.py.) -/
namespace Go.Proofs.Ytfniojnklhjgbaa
open Go Go.RowKit

set_option linter.unusedVariables false in
set_option maxRecDepth 100000 in
set_option maxHeartbeats 8000000 in
theorem formatBack_mk (hF : FmC) (f g : FmV) (hf : f.wf) (hg : g.wf) (hok : okFm f = true) (hgk : okFm g = true) (at_ : Int) (mask : Nat) (hm : mask < 256) (X T : List Nat) (hX : fmB f = X) (hT : X.set (pkN at_ 40) (X.getD (pkN at_ 40) 0 ^^^ mask) = T) (m0 : mask = 0) (w : World) : Calls Try.prog 5 #[.agg f.cs, .agg g.cs, .int .i64 at_, .int .u8 (mask : Int)] w fun e w' => e = .returned (.bool true) ∧ Below w.heap.size w w' := by
  have HAW := hid (fun W => awake14_any hF W)
  have hxl : X.length = 40 := by rw [← hX]; exact fmB_len f
  have hx8 : ∀ z ∈ X, z < 256 := by rw [← hX]; exact fmB_lt hok
  have hpk := pkN_lt at_ 40 (by omega)
  have hk8 : X.getD (pkN at_ 40) 0 < 256 := get256 hx8 _ (by omega)
  have htl : T.length = 40 := by rw [← hT, List.length_set]; exact hxl
  have ht8 : ∀ z ∈ T, z < 256 := fun z hz => by
    rw [← hT] at hz
    rcases List.mem_or_eq_of_mem_set hz with h | rfl
    · exact hx8 z h
    · exact Nat.xor_lt_two_pow (n := 8) hk8 hm
  have HBY := hid (fun W => (hF.bytes f W hf).mono (R' := fun e w' => ∃ b o c, e = .returned (.tuple #[.slice (some ⟨b, o, none⟩) 40 c, .int .i64 0]) ∧ 40 ≤ c ∧ BL w' (some ⟨b, o, none⟩) X ∧ Below W.heap.size W w') (fun e w' h => by
    rcases h with ⟨_, po, c, h1, h2, h4, h3⟩ | ⟨h, _⟩
    · rw [hX] at h2
      rcases h2.bl with hb | ⟨b, o, e2, hb⟩
      · rw [hb] at hxl; cases hxl
      · subst e2; exact ⟨b, o, c, h1, by have := h2.cap; omega, .inr ⟨b, o, rfl, hb⟩, h3⟩
    · rw [hok] at h; cases h))
  have HRX := hid (fun W b o c (h : BL W (some ⟨b, o, none⟩) X) (hc : 40 ≤ c) => (hF.read (some ⟨b, o, none⟩) c X W h (by omega) (by omega) (fun e => by cases e) hx8).mono (R' := fun e w' => e = .returned (.tuple #[.agg f.cs, .int .i64 0]) ∧ Below W.heap.size W w') (fun e w' h => by
    obtain ⟨h1, h2⟩ := h
    rw [← hX, (rd_fmB hok).1, (rd_fmB hok).2] at h1
    exact ⟨h1, h2⟩))
  have HRT := hid (fun W b o c (h : BL W (some ⟨b, o, none⟩) T) (hc : 40 ≤ c) => (hF.read (some ⟨b, o, none⟩) c T W h (by omega) (by omega) (fun e => by cases e) ht8).mono (R' := fun e w' => e = .returned (.tuple #[.agg (rdFv T).cs, .int .i64 (rdFe T : Int)]) ∧ Below W.heap.size W w') (fun e w' h => h))
  have HRP := hid (fun W b o c (h : BL W (some ⟨b, o, none⟩) X) (hc : 40 ≤ c) => (hF.read (some ⟨b, o, none⟩) c (X.take (pkN at_ 40)) W (h.take _) (by rw [List.length_take]; omega) (by rw [List.length_take]; omega) (fun e => by cases e) (fun z hz => hx8 z (List.mem_of_mem_take hz))).mono (R' := fun e w' => e = .returned (.tuple #[.agg zF.cs, .int .i64 4]) ∧ Below W.heap.size W w') (fun e w' h => by
    obtain ⟨h1, h2⟩ := h
    have e4 : rdFe (X.take (pkN at_ 40)) = 4 := rd_len (by rw [List.length_take]; omega)
    unfold rdFv at h1
    rw [e4, if_neg (by decide)] at h1
    exact ⟨h1, h2⟩))
  rw [show (X.take (pkN at_ 40)).length = pkN at_ 40 by rw [List.length_take]; omega] at HRP
  rw [hxl] at HRX
  rw [htl] at HRT
  have HCP := hid (fun W b o c (h : BL W (some ⟨b, o, none⟩) X) (hc : 40 ≤ c) => copyB_any (w := W) (v := .slice (some ⟨b, o, none⟩) 40 c) (x := X) ⟨_, _, by rw [hxl], h, by omega⟩ (by omega) (fun n c e => by cases e))
  have HPK : Hid (∀ W, Calls Try.prog 25 #[.int .i64 at_, .int .i64 40] W fun e w' => e = .returned (.int .i64 (pkN at_ 40 : Int)) ∧ w' = W) := hid (fun W => pick_any at_ 40 W (by omega) (by omega))
  have hxor : bits .xor .u8 ((X.getD (pkN at_ 40) 0 : Nat) : Int) (mask : Int) = ((X.getD (pkN at_ 40) 0 ^^^ mask : Nat) : Int) := u8_xor_nat _ _ hk8 hm
  have HNE := hid (fun W => neqF f f W)
  rw [show decide (f = f) = true by simp] at HNE
  have HBG := hid (fun W => (hF.bytes g W hg).mono (R' := fun e w' => ∃ b o c, e = .returned (.tuple #[.slice (some ⟨b, o, none⟩) 40 c, .int .i64 0]) ∧ 40 ≤ c ∧ BL w' (some ⟨b, o, none⟩) (fmB g) ∧ Below W.heap.size W w') (fun e w' h => by
    rcases h with ⟨_, po, c, h1, h2, h4, h3⟩ | ⟨h, _⟩
    · rcases h2.bl with hb | ⟨b, o, e2, hb⟩
      · have := congrArg List.length hb; rw [fmB_len] at this; cases this
      · subst e2; exact ⟨b, o, c, h1, by have := h2.cap; rw [fmB_len] at this; omega, .inr ⟨b, o, rfl, hb⟩, h3⟩
    · rw [hgk] at h; cases h))
  have HEQ := hid (fun W => eqlF f g W)
  have HSB := hid (fun W b o c b2 o2 c2 (h1 : BL W (some ⟨b, o, none⟩) X) (hc : 40 ≤ c) (h2 : BL W (some ⟨b2, o2, none⟩) (fmB g)) (hc2 : 40 ≤ c2) => (sameB_any (w := W) (u := .slice (some ⟨b, o, none⟩) 40 c) (v := .slice (some ⟨b2, o2, none⟩) 40 c2) (x := X) (y := fmB g) ⟨_, _, by rw [hxl], h1, by omega⟩ ⟨_, _, by rw [fmB_len], h2, by rw [fmB_len]; omega⟩ hx8 (fmB_lt hgk)).mono (R' := fun e w' => e = .returned (.bool (decide (f = g))) ∧ w' = W) (fun e w' h => ⟨by rw [h.1]; congr 2; rw [← hX]; exact decide_eq_decide.2 (fmB_inj hok hgk), h.2⟩))
  obtain ⟨p, hp⟩ : ∃ p : Bool, decide (f = g) = p := ⟨_, rfl⟩
  rw [hp] at HEQ HSB
  have hpp : (p == p) = true := by simp
  have hm0 : ((mask : Int) == 0) = true := by rw [m0]; rfl
  generalize rdFe T = er at *
  obtain ⟨i, hi⟩ : ∃ i, pkN at_ 40 = i := ⟨_, rfl⟩
  obtain ⟨xi, hxi⟩ : ∃ xi, X.getD i 0 = xi := ⟨_, rfl⟩
  obtain ⟨kk, hkk⟩ : ∃ kk, xi ^^^ mask = kk := ⟨_, rfl⟩
  rw [hi] at HPK HRP hpk hT hxor
  rw [hxi, hkk] at hT hxor
  have HTT := hid hT
  have HXI := hid hxi
  have HXL := hid hxl
  have hi40 : (i : Int) < 40 := by omega
  generalize rdFv T = yT at *
  have TA : Hid True := hid trivial
  have TB : Hid True := hid trivial
  have TC : Hid True := hid trivial
  have TD : Hid True := hid trivial
  have TE : Hid True := hid trivial
  have TF : Hid True := hid trivial
  have TG : Hid True := hid trivial
  have TH : Hid True := hid trivial
  have TI : Hid True := hid trivial
  clear hF hf hg hok hgk hX hT hxl hx8 hk8 htl ht8 hm hxi hkk hi hpk m0
  go_enter Try.func5, Try.ntmps5
  go_upto_region 14 with (first
    | (clear TA; (with_reducible refine wpList_boxT 23 rfl _ rfl f.cs ?_ ?_); exact rfl; intro w1 g4 hc1 hb1 hg1; have HX4 := hid (show FmAt w1 g4 0 f from fun j u hu => by rw [Nat.zero_add, hc1.cell]; exact hu); have HB := hid hb1; clear hc1 hb1 hg1)
    | (clear TB; (with_reducible refine wpList_boxT 23 rfl _ rfl g.cs ?_ ?_); exact rfl; intro w2 g5 hc1 hb1 hg1; have HX5 := hid (show FmAt w2 g5 0 g from fun j u hu => by rw [Nat.zero_add, hc1.cell]; exact hu); replace HX4 := hid (HX4.out.below hb1); replace HB := hid (below_on HB.out hb1); clear hc1 hb1 hg1)
    | (go_at_call 18; refine (HAW.out _).mono ?_; rintro e w3 ⟨rfl, hb3⟩; replace HX4 := hid (HX4.out.below hb3); replace HX5 := hid (HX5.out.below hb3); replace HB := hid (below_on HB.out hb3); clear hb3)
    | ((with_reducible refine wpList_loadW 23 _ rfl ?_ (.pointer (some ⟨g4, 0, none⟩)) (.agg f.cs) ?_ HX4.out.load ?_); kernel_rfl; exact rfl)
    | ((with_reducible refine wpList_loadW 23 _ rfl ?_ (.pointer (some ⟨g5, 0, none⟩)) (.agg g.cs) ?_ HX5.out.load ?_); kernel_rfl; exact rfl)
    | (clear TC; go_at_call 10; refine (HBY.out _).mono ?_; rintro e w4 ⟨b, o, c, rfl, hc40, hx4, hb4⟩; have HXB := hid hx4; have hci : (i : Int) ≤ (c : Int) := (by omega); replace HX4 := hid (HX4.out.below hb4); replace HX5 := hid (HX5.out.below hb4); replace HB := hid (below_on HB.out hb4); have hsp := run_head8n (some ⟨b, o, none⟩) 40 c i (by omega); clear hx4 hb4)
    | (clear TD; go_at_call 11; refine (HRX.out _ b o c HXB.out hc40).mono ?_; rintro e w5 ⟨rfl, hb5⟩; replace HX4 := hid (HX4.out.below hb5); replace HX5 := hid (HX5.out.below hb5); replace HXB := hid (HXB.out.below hb5); replace HB := hid (below_on HB.out hb5); clear hb5)
    | ((with_reducible refine wpList_allocF rfl rfl ?_); intro wA gA hzA hbA hgA; have HZA := hid hzA; have HBA := hid hbA; have HGA := hid hgA; clear hzA hbA hgA)
    | (clear TI; (with_reducible refine wpList_storeF rfl rfl _ _ rfl gA ?_ (f := f) ?_ HZA.out ?_); exact rfl; exact rfl; intro wS hS oS; have hbS := below_tr HBA.out (oS.below HBA.out.size (fun i e => by have := HGA.out; omega)); replace HX4 := hid (HX4.out.below hbS); replace HX5 := hid (HX5.out.below hbS); replace HXB := hid (HXB.out.below hbS); replace HB := hid (below_on HB.out hbS); have HY := hid (show FmAt wS gA 0 f from fun j u hu => by rw [Nat.zero_add, hS.cell]; exact hu); obtain ⟨gj, hgj⟩ : ∃ g, g = gA := ⟨gA, rfl⟩; subst hgj; clear hS oS hbS HZA HBA HGA)
    | ((with_reducible refine wpList_loadW 23 _ rfl ?_ (.pointer (some ⟨gj, 0, none⟩)) (.agg f.cs) ?_ HY.out.load ?_); kernel_rfl; exact rfl)
    | ((with_reducible refine wpList_binW .neq 23 _ _ _ (.agg f.cs) (.agg f.cs) (.bool false) rfl ?_ ?_ ?_ ?_ (HNE.out _) ?_); kernel_rfl; exact rfl; exact rfl; simp [eqGuard])
    | (go_at_call 24; (with_reducible refine (HCP.out _ b o c HXB.out hc40).mono ?_); rintro e w9 ⟨v9, rfl, hb9, hw9⟩; obtain ⟨pt, ct, hvt⟩ := hb9.form; subst hvt; have hct := hb9.cap.2; rw [HXL.out] at hct hb9; obtain ⟨gt, hgt0, hgB, cb9, fb9, hset⟩ := hb9.set (i := i) (by have := HXL.out; omega) kk; subst hgt0; rw [HXI.out] at cb9; replace cb9 : w9.cell? ⟨gt, i, none⟩ = some (.int .u8 (xi : Int)) := cb9; rw [HTT.out] at hset; have HTB := hid hset.bl; rw [HXL.out]; have hsz := hw9.size; have hbS := below_tr hw9 ((Only.set (S := fun b => b = gt) w9 ⟨gt, i, none⟩ (u8 kk) rfl).below hsz (fun j e => by omega)); have hti : (i : Int) < (ct : Int) := (by omega); replace HX4 := hid (HX4.out.below hbS); replace HX5 := hid (HX5.out.below hbS); replace HXB := hid (HXB.out.below hbS); replace HB := hid (below_on HB.out hbS); have HCT := hid hct; generalize hW9 : w9.setCell ⟨gt, i, none⟩ (u8 kk) = w10 at *; have HW9 : Hid (w9.setCell ⟨gt, i, none⟩ (.int .u8 (kk : Int)) = w10) := hid hW9; clear hset hb9 hw9 hgB hsz hbS hW9)
    | (go_at_call 25; (with_reducible refine (HPK.out _).mono ?_); rintro e w11 ⟨rfl, rfl⟩)
    | (clear TE; go_at_call 11; rw [HW9.out]; refine (HRT.out _ gt 0 ct HTB.out HCT.out).mono ?_; rintro e w12 ⟨rfl, hb5⟩; replace HX4 := hid (HX4.out.below hb5); replace HX5 := hid (HX5.out.below hb5); replace HXB := hid (HXB.out.below hb5); replace HTB := hid (HTB.out.below hb5); replace HB := hid (below_on HB.out hb5); clear hb5)
    | (clear TF; (with_reducible refine wpList_storeF rfl rfl _ _ rfl gA ?_ (f := yT) ?_ HZA.out ?_); exact rfl; exact rfl; intro wS hS oS; have hbS := below_tr HBA.out (oS.below HBA.out.size (fun i e => by have := HGA.out; omega)); replace HX4 := hid (HX4.out.below hbS); replace HX5 := hid (HX5.out.below hbS); replace HXB := hid (HXB.out.below hbS); replace HTB := hid (HTB.out.below hbS); replace HB := hid (below_on HB.out hbS); clear hS oS hbS HZA HBA HGA)
    | (clear TG; go_at_call 11; refine (HRP.out _ b o c HXB.out hc40).mono ?_; rintro e w13 ⟨rfl, hb5⟩; replace HX4 := hid (HX4.out.below hb5); replace HX5 := hid (HX5.out.below hb5); replace HXB := hid (HXB.out.below hb5); replace HTB := hid (HTB.out.below hb5); replace HB := hid (below_on HB.out hb5); clear hb5)
    | (clear TH; (with_reducible refine wpList_storeF rfl rfl _ _ rfl gA ?_ (f := zF) ?_ HZA.out ?_); exact rfl; exact rfl; intro wS hS oS; have hbS := below_tr HBA.out (oS.below HBA.out.size (fun i e => by have := HGA.out; omega)); replace HX4 := hid (HX4.out.below hbS); replace HX5 := hid (HX5.out.below hbS); replace HXB := hid (HXB.out.below hbS); replace HTB := hid (HTB.out.below hbS); replace HB := hid (below_on HB.out hbS); clear hS oS hbS HZA HBA HGA)
    | (go_at_call 10; refine (HBG.out _).mono ?_; rintro e w14 ⟨b2, o2, c2, rfl, hc2, hx2, hb5⟩; have HXG := hid hx2; replace HX4 := hid (HX4.out.below hb5); replace HX5 := hid (HX5.out.below hb5); replace HXB := hid (HXB.out.below hb5); replace HTB := hid (HTB.out.below hb5); replace HB := hid (below_on HB.out hb5); clear hb5 hx2))
  have HSF : Hid (∀ W, Below w14.heap.size w14 W → (fun W => (Instr.loadAt 23 (ptr g4)).run Try.prog W = .ok (.agg f.cs) W ∧ (Instr.loadAt 23 (ptr g5)).run Try.prog W = .ok (.agg g.cs) W) W) := hid (fun W hW => ⟨(HX4.out.below hW).load, (HX5.out.below hW).load⟩)
  have HDW := hid (below_drew w14)
  refine wp_region_held_drew (S := (fun W => (Instr.loadAt 23 (ptr g4)).run Try.prog W = .ok (.agg f.cs) W ∧ (Instr.loadAt 23 (ptr g5)).run Try.prog W = .ok (.agg g.cs) W)) (by kernel_rfl) (HSF.out _ HDW.out) (fun hHeld => ?_)
  generalize w14.drew = wd at *
  refine wpAnyH_take (i := 0) (oi := ⟨some 82, .move (.tmp 9), _, _, _, none⟩) (v := .bool true) rfl (by kernel_rfl) (by kernel_rfl) (by kernel_rfl) (fun _ _ _ h => h) (Or.inl ⟨by kernel_rfl, by intro W hW; go_simp⟩) hHeld ?_
  refine wpAnyH_take (i := 1) (oi := ⟨some 83, .move (.tmp 82), _, _, _, none⟩) (v := .bool true) rfl (by kernel_rfl) (by kernel_rfl) (by kernel_rfl) (fun _ _ _ h => h) (Or.inl ⟨by kernel_rfl, by intro W hW; go_simp⟩) hHeld ?_
  refine wpAnyH_take (i := 2) (oi := ⟨some 84, .move (.tmp 3), _, _, _, some (1, true)⟩) (v := .int .u8 (mask : Int)) rfl (by kernel_rfl) (by kernel_rfl) (by kernel_rfl) (fun _ _ _ h => h) (Or.inl ⟨by kernel_rfl, by intro W hW; go_simp⟩) hHeld ?_
  refine wpAnyH_take (i := 3) (oi := ⟨some 85, .binOp .eql 5 (.tmp 84) (.const (.int .u8 0)) 5, _, _, _, some (1, true)⟩) (v := .bool true) rfl (by kernel_rfl) (by kernel_rfl) (by kernel_rfl) (fun _ _ _ h => h) (Or.inl ⟨by kernel_rfl, by intro W hW; go_simp⟩) hHeld ?_
  refine wpAnyH_take (i := 4) (oi := ⟨some 86, .move (.tmp 85), _, _, _, some (1, true)⟩) (v := .bool true) rfl (by kernel_rfl) (by kernel_rfl) (by kernel_rfl) (fun _ _ _ h => h) (Or.inl ⟨by kernel_rfl, by intro W hW; go_simp⟩) hHeld ?_
  refine wpAnyH_take (i := 5) (oi := ⟨some 87, .move (.tmp 17), _, _, _, some (4, false)⟩) (v := undef) rfl (by kernel_rfl) (by kernel_rfl) (by kernel_rfl) (fun _ _ _ h => h) (Or.inr ⟨by kernel_rfl, rfl⟩) hHeld ?_
  refine wpAnyH_take (i := 6) (oi := ⟨some 88, .binOp .neq 26 (.tmp 87) (.const (.int .i64 0)) 26, _, _, _, some (4, false)⟩) (v := undef) rfl (by kernel_rfl) (by kernel_rfl) (by kernel_rfl) (fun _ _ _ h => h) (Or.inr ⟨by kernel_rfl, rfl⟩) hHeld ?_
  refine wpAnyH_take (i := 7) (oi := ⟨some 89, .pick (.tmp 86) (.const (.bool true)) (.tmp 88), _, _, _, some (1, true)⟩) (v := .bool true) rfl (by kernel_rfl) (by kernel_rfl) (by kernel_rfl) (fun _ _ _ h => h) (Or.inl ⟨by kernel_rfl, by intro W hW; go_simp⟩) hHeld ?_
  refine wpAnyH_take (i := 8) (oi := ⟨some 90, .move (.tmp 89), _, _, _, some (1, true)⟩) (v := .bool true) rfl (by kernel_rfl) (by kernel_rfl) (by kernel_rfl) (fun _ _ _ h => h) (Or.inl ⟨by kernel_rfl, by intro W hW; go_simp⟩) hHeld ?_
  refine wpAnyH_take (i := 9) (oi := ⟨some 91, .move (.tmp 14), _, _, _, some (8, false)⟩) (v := undef) rfl (by kernel_rfl) (by kernel_rfl) (by kernel_rfl) (fun _ _ _ h => h) (Or.inr ⟨by kernel_rfl, rfl⟩) hHeld ?_
  refine wpAnyH_take (i := 10) (oi := ⟨some 92, .call { callee := .value (.func 26), args := #[.tmp 91], argTypes := #[24] }, _, _, _, some (8, false)⟩) (v := undef) rfl (by kernel_rfl) (by kernel_rfl) (by kernel_rfl) (fun _ _ _ h => h) (Or.inr ⟨by kernel_rfl, rfl⟩) hHeld ?_
  refine wpAnyH_take (i := 11) (oi := ⟨some 93, .pick (.tmp 90) (.const (.bool true)) (.tmp 92), _, _, _, some (1, true)⟩) (v := .bool true) rfl (by kernel_rfl) (by kernel_rfl) (by kernel_rfl) (fun _ _ _ h => h) (Or.inl ⟨by kernel_rfl, by intro W hW; go_simp⟩) hHeld ?_
  refine wpAnyH_take (i := 12) (oi := ⟨some 94, .pick (.tmp 83) (.tmp 93) (.const (.bool false)), _, _, _, none⟩) (v := .bool true) rfl (by kernel_rfl) (by kernel_rfl) (by kernel_rfl) (fun _ _ _ h => h) (Or.inl ⟨by kernel_rfl, by intro W hW; go_simp⟩) hHeld ?_
  refine wpAnyH_take (i := 13) (oi := ⟨some 95, .move (.tmp 94), _, _, _, none⟩) (v := .bool true) rfl (by kernel_rfl) (by kernel_rfl) (by kernel_rfl) (fun _ _ _ h => h) (Or.inl ⟨by kernel_rfl, by intro W hW; go_simp⟩) hHeld ?_
  refine wpAnyH_take (i := 14) (oi := ⟨some 96, .move (.tmp 19), _, _, _, some (13, true)⟩) (v := .int .i64 4) rfl (by kernel_rfl) (by kernel_rfl) (by kernel_rfl) (fun _ _ _ h => h) (Or.inl ⟨by kernel_rfl, by intro W hW; go_simp⟩) hHeld ?_
  refine wpAnyH_take (i := 15) (oi := ⟨some 97, .binOp .eql 26 (.tmp 96) (.const (.int .i64 4)) 26, _, _, _, some (13, true)⟩) (v := .bool true) rfl (by kernel_rfl) (by kernel_rfl) (by kernel_rfl) (fun _ _ _ h => h) (Or.inl ⟨by kernel_rfl, by intro W hW; go_simp⟩) hHeld ?_
  refine wpAnyH_take (i := 16) (oi := ⟨some 98, .pick (.tmp 95) (.tmp 97) (.const (.bool false)), _, _, _, none⟩) (v := .bool true) rfl (by kernel_rfl) (by kernel_rfl) (by kernel_rfl) (fun _ _ _ h => h) (Or.inl ⟨by kernel_rfl, by intro W hW; go_simp⟩) hHeld ?_
  refine wpAnyH_take (i := 17) (oi := ⟨some 99, .move (.tmp 98), _, _, _, none⟩) (v := .bool true) rfl (by kernel_rfl) (by kernel_rfl) (by kernel_rfl) (fun _ _ _ h => h) (Or.inl ⟨by kernel_rfl, by intro W hW; go_simp⟩) hHeld ?_
  refine wpAnyH_take (i := 18) (oi := ⟨some 100, .move (.tmp 21), _, _, _, some (17, true)⟩) (v := .int .i64 0) rfl (by kernel_rfl) (by kernel_rfl) (by kernel_rfl) (fun _ _ _ h => h) (Or.inl ⟨by kernel_rfl, by intro W hW; go_simp⟩) hHeld ?_
  refine wpAnyH_take (i := 19) (oi := ⟨some 101, .binOp .neq 26 (.tmp 100) (.const (.int .i64 0)) 26, _, _, _, some (17, true)⟩) (v := .bool false) rfl (by kernel_rfl) (by kernel_rfl) (by kernel_rfl) (fun _ _ _ h => h) (Or.inl ⟨by kernel_rfl, by intro W hW; go_simp⟩) hHeld ?_
  refine wpAnyH_take (i := 20) (oi := ⟨some 102, .move (.tmp 101), _, _, _, some (17, true)⟩) (v := .bool false) rfl (by kernel_rfl) (by kernel_rfl) (by kernel_rfl) (fun _ _ _ h => h) (Or.inl ⟨by kernel_rfl, by intro W hW; go_simp⟩) hHeld ?_
  refine wpAnyH_take (i := 21) (oi := ⟨some 103, .move (.tmp 10), _, _, _, some (20, false)⟩) (v := .slice (some ⟨b, o, none⟩) 40 c) rfl (by kernel_rfl) (by kernel_rfl) (by kernel_rfl) (fun _ _ _ h => h) (Or.inl ⟨by kernel_rfl, by intro W hW; go_simp⟩) hHeld ?_
  refine wpAnyH_take (i := 22) (oi := ⟨some 104, .move (.tmp 20), _, _, _, some (20, false)⟩) (v := .slice (some ⟨b2, o2, none⟩) 40 c2) rfl (by kernel_rfl) (by kernel_rfl) (by kernel_rfl) (fun _ _ _ h => h) (Or.inl ⟨by kernel_rfl, by intro W hW; go_simp⟩) hHeld ?_
  refine wpAnyH_take (i := 24) (oi := ⟨some 106, .load 23 (.tmp 4), _, _, _, some (20, false)⟩) (v := .agg f.cs) rfl (by kernel_rfl) (by kernel_rfl) (by kernel_rfl) (fun _ _ _ h => h) (Or.inl ⟨by kernel_rfl, fun W hW => exec_load rfl (by kernel_rfl) hW.1⟩) hHeld ?_
  refine wpAnyH_take (i := 25) (oi := ⟨some 107, .load 23 (.tmp 5), _, _, _, some (20, false)⟩) (v := .agg g.cs) rfl (by kernel_rfl) (by kernel_rfl) (by kernel_rfl) (fun _ _ _ h => h) (Or.inl ⟨by kernel_rfl, fun W hW => exec_load rfl (by kernel_rfl) hW.2⟩) hHeld ?_
  refine wpAnyH_take (i := 26) (oi := ⟨some 108, .binOp .eql 23 (.tmp 106) (.tmp 107) 23, _, _, _, some (20, false)⟩) (v := .bool p) rfl (by kernel_rfl) (by kernel_rfl) (by kernel_rfl) (fun _ _ _ h => h) (Or.inl ⟨by kernel_rfl, fun W hW => exec_binF rfl (by kernel_rfl) (by kernel_rfl) (by simp [eqGuard]) (HEQ.out W)⟩) hHeld ?_
  refine wpAnyH_ready (rs := [23]) (by kernel_rfl) (by simp) ?_
  refine AllReadyH.cons (o := ⟨some 105, .call { callee := .value (.func 14), args := #[.tmp 103, .tmp 104], argTypes := #[24, 24] }, _, _, _, some (20, false)⟩) rfl ?_ AllReadyH.nil
  intro K hK
  with_reducible refine step_callGF ?_ 14 #[.slice (some ⟨b, o, none⟩) 40 c, .slice (some ⟨b2, o2, none⟩) 40 c2] ?_ ?_
  · kernel_rfl
  · kernel_rfl
  refine (HSB.out _ b o c b2 o2 c2 (HXB.out.below HDW.out) hc40 (HXG.out.below HDW.out) hc2).mono ?_
  rintro e wf ⟨rfl, hw⟩
  have hw2 := hw.symm
  subst hw2
  refine ⟨_, rfl, hK.out _ _ (HSF.out _ HDW.out) (fun hHeld => ?_)⟩
  clear hK K
  refine wpAnyH_take (i := 27) (oi := ⟨some 109, .binOp .eql 4 (.tmp 105) (.tmp 108) 4, _, _, _, some (20, false)⟩) (v := .bool true) rfl (by kernel_rfl) (by kernel_rfl) (by kernel_rfl) (fun _ _ _ h => h) (Or.inl ⟨by kernel_rfl, by intro W hW; go_simp⟩) hHeld ?_
  refine wpAnyH_take (i := 28) (oi := ⟨some 110, .pick (.tmp 102) (.const (.bool true)) (.tmp 109), _, _, _, some (17, true)⟩) (v := .bool true) rfl (by kernel_rfl) (by kernel_rfl) (by kernel_rfl) (fun _ _ _ h => h) (Or.inl ⟨by kernel_rfl, by intro W hW; go_simp⟩) hHeld ?_
  refine wpAnyH_take (i := 29) (oi := ⟨some 111, .pick (.tmp 99) (.tmp 110) (.const (.bool false)), _, _, _, none⟩) (v := .bool true) rfl (by kernel_rfl) (by kernel_rfl) (by kernel_rfl) (fun _ _ _ h => h) (Or.inl ⟨by kernel_rfl, by intro W hW; go_simp⟩) hHeld ?_
  refine wpAnyH_take (i := 30) (oi := ⟨some 8, .assign (.tmp 111), _, _, _, none⟩) (v := .bool true) rfl (by kernel_rfl) (by kernel_rfl) (by kernel_rfl) (fun _ _ _ h => h) (Or.inl ⟨by kernel_rfl, by intro W hW; go_simp⟩) hHeld ?_
  refine wpAnyH_done (by kernel_rfl) ?_ _
  simp only [Act.put, List.setIfInBounds_toArray, List.set_cons_zero, List.set_cons_succ]
  go_wp2
  go_ret
  exact ⟨rfl, below_on HB.out HDW.out⟩
set_option linter.unusedVariables false in
set_option maxRecDepth 100000 in
set_option maxHeartbeats 8000000 in
theorem formatBack_mn (hF : FmC) (f g : FmV) (hf : f.wf) (hg : g.wf) (hok : okFm f = true) (hgk : okFm g = false) (at_ : Int) (mask : Nat) (hm : mask < 256) (X T : List Nat) (hX : fmB f = X) (hT : X.set (pkN at_ 40) (X.getD (pkN at_ 40) 0 ^^^ mask) = T) (m0 : mask = 0) (w : World) : Calls Try.prog 5 #[.agg f.cs, .agg g.cs, .int .i64 at_, .int .u8 (mask : Int)] w fun e w' => e = .returned (.bool true) ∧ Below w.heap.size w w' := by
  have HAW := hid (fun W => awake14_any hF W)
  have hxl : X.length = 40 := by rw [← hX]; exact fmB_len f
  have hx8 : ∀ z ∈ X, z < 256 := by rw [← hX]; exact fmB_lt hok
  have hpk := pkN_lt at_ 40 (by omega)
  have hk8 : X.getD (pkN at_ 40) 0 < 256 := get256 hx8 _ (by omega)
  have htl : T.length = 40 := by rw [← hT, List.length_set]; exact hxl
  have ht8 : ∀ z ∈ T, z < 256 := fun z hz => by
    rw [← hT] at hz
    rcases List.mem_or_eq_of_mem_set hz with h | rfl
    · exact hx8 z h
    · exact Nat.xor_lt_two_pow (n := 8) hk8 hm
  have HBY := hid (fun W => (hF.bytes f W hf).mono (R' := fun e w' => ∃ b o c, e = .returned (.tuple #[.slice (some ⟨b, o, none⟩) 40 c, .int .i64 0]) ∧ 40 ≤ c ∧ BL w' (some ⟨b, o, none⟩) X ∧ Below W.heap.size W w') (fun e w' h => by
    rcases h with ⟨_, po, c, h1, h2, h4, h3⟩ | ⟨h, _⟩
    · rw [hX] at h2
      rcases h2.bl with hb | ⟨b, o, e2, hb⟩
      · rw [hb] at hxl; cases hxl
      · subst e2; exact ⟨b, o, c, h1, by have := h2.cap; omega, .inr ⟨b, o, rfl, hb⟩, h3⟩
    · rw [hok] at h; cases h))
  have HRX := hid (fun W b o c (h : BL W (some ⟨b, o, none⟩) X) (hc : 40 ≤ c) => (hF.read (some ⟨b, o, none⟩) c X W h (by omega) (by omega) (fun e => by cases e) hx8).mono (R' := fun e w' => e = .returned (.tuple #[.agg f.cs, .int .i64 0]) ∧ Below W.heap.size W w') (fun e w' h => by
    obtain ⟨h1, h2⟩ := h
    rw [← hX, (rd_fmB hok).1, (rd_fmB hok).2] at h1
    exact ⟨h1, h2⟩))
  have HRT := hid (fun W b o c (h : BL W (some ⟨b, o, none⟩) T) (hc : 40 ≤ c) => (hF.read (some ⟨b, o, none⟩) c T W h (by omega) (by omega) (fun e => by cases e) ht8).mono (R' := fun e w' => e = .returned (.tuple #[.agg (rdFv T).cs, .int .i64 (rdFe T : Int)]) ∧ Below W.heap.size W w') (fun e w' h => h))
  have HRP := hid (fun W b o c (h : BL W (some ⟨b, o, none⟩) X) (hc : 40 ≤ c) => (hF.read (some ⟨b, o, none⟩) c (X.take (pkN at_ 40)) W (h.take _) (by rw [List.length_take]; omega) (by rw [List.length_take]; omega) (fun e => by cases e) (fun z hz => hx8 z (List.mem_of_mem_take hz))).mono (R' := fun e w' => e = .returned (.tuple #[.agg zF.cs, .int .i64 4]) ∧ Below W.heap.size W w') (fun e w' h => by
    obtain ⟨h1, h2⟩ := h
    have e4 : rdFe (X.take (pkN at_ 40)) = 4 := rd_len (by rw [List.length_take]; omega)
    unfold rdFv at h1
    rw [e4, if_neg (by decide)] at h1
    exact ⟨h1, h2⟩))
  rw [show (X.take (pkN at_ 40)).length = pkN at_ 40 by rw [List.length_take]; omega] at HRP
  rw [hxl] at HRX
  rw [htl] at HRT
  have HCP := hid (fun W b o c (h : BL W (some ⟨b, o, none⟩) X) (hc : 40 ≤ c) => copyB_any (w := W) (v := .slice (some ⟨b, o, none⟩) 40 c) (x := X) ⟨_, _, by rw [hxl], h, by omega⟩ (by omega) (fun n c e => by cases e))
  have HPK : Hid (∀ W, Calls Try.prog 25 #[.int .i64 at_, .int .i64 40] W fun e w' => e = .returned (.int .i64 (pkN at_ 40 : Int)) ∧ w' = W) := hid (fun W => pick_any at_ 40 W (by omega) (by omega))
  have hxor : bits .xor .u8 ((X.getD (pkN at_ 40) 0 : Nat) : Int) (mask : Int) = ((X.getD (pkN at_ 40) 0 ^^^ mask : Nat) : Int) := u8_xor_nat _ _ hk8 hm
  have HNE := hid (fun W => neqF f f W)
  rw [show decide (f = f) = true by simp] at HNE
  have HBG := hid (fun W => (hF.bytes g W hg).mono (R' := fun e w' => e = .returned (.tuple #[.slice none 0 0, .int .i64 2]) ∧ Below W.heap.size W w') (fun e w' h => by
    rcases h with ⟨h, _⟩ | ⟨_, h⟩
    · rw [hgk] at h; cases h
    · exact h))
  have hm0 : ((mask : Int) == 0) = true := by rw [m0]; rfl
  generalize rdFe T = er at *
  obtain ⟨i, hi⟩ : ∃ i, pkN at_ 40 = i := ⟨_, rfl⟩
  obtain ⟨xi, hxi⟩ : ∃ xi, X.getD i 0 = xi := ⟨_, rfl⟩
  obtain ⟨kk, hkk⟩ : ∃ kk, xi ^^^ mask = kk := ⟨_, rfl⟩
  rw [hi] at HPK HRP hpk hT hxor
  rw [hxi, hkk] at hT hxor
  have HTT := hid hT
  have HXI := hid hxi
  have HXL := hid hxl
  have hi40 : (i : Int) < 40 := by omega
  generalize rdFv T = yT at *
  have TA : Hid True := hid trivial
  have TB : Hid True := hid trivial
  have TC : Hid True := hid trivial
  have TD : Hid True := hid trivial
  have TE : Hid True := hid trivial
  have TF : Hid True := hid trivial
  have TG : Hid True := hid trivial
  have TH : Hid True := hid trivial
  have TI : Hid True := hid trivial
  clear hF hf hg hok hgk hX hT hxl hx8 hk8 htl ht8 hm hxi hkk hi hpk m0
  go_enter Try.func5, Try.ntmps5
  go_upto_region 14 with (first
    | (clear TA; (with_reducible refine wpList_boxT 23 rfl _ rfl f.cs ?_ ?_); exact rfl; intro w1 g4 hc1 hb1 hg1; have HX4 := hid (show FmAt w1 g4 0 f from fun j u hu => by rw [Nat.zero_add, hc1.cell]; exact hu); have HB := hid hb1; clear hc1 hb1 hg1)
    | (clear TB; (with_reducible refine wpList_boxT 23 rfl _ rfl g.cs ?_ ?_); exact rfl; intro w2 g5 hc1 hb1 hg1; have HX5 := hid (show FmAt w2 g5 0 g from fun j u hu => by rw [Nat.zero_add, hc1.cell]; exact hu); replace HX4 := hid (HX4.out.below hb1); replace HB := hid (below_on HB.out hb1); clear hc1 hb1 hg1)
    | (go_at_call 18; refine (HAW.out _).mono ?_; rintro e w3 ⟨rfl, hb3⟩; replace HX4 := hid (HX4.out.below hb3); replace HX5 := hid (HX5.out.below hb3); replace HB := hid (below_on HB.out hb3); clear hb3)
    | ((with_reducible refine wpList_loadW 23 _ rfl ?_ (.pointer (some ⟨g4, 0, none⟩)) (.agg f.cs) ?_ HX4.out.load ?_); kernel_rfl; exact rfl)
    | ((with_reducible refine wpList_loadW 23 _ rfl ?_ (.pointer (some ⟨g5, 0, none⟩)) (.agg g.cs) ?_ HX5.out.load ?_); kernel_rfl; exact rfl)
    | (clear TC; go_at_call 10; refine (HBY.out _).mono ?_; rintro e w4 ⟨b, o, c, rfl, hc40, hx4, hb4⟩; have HXB := hid hx4; have hci : (i : Int) ≤ (c : Int) := (by omega); replace HX4 := hid (HX4.out.below hb4); replace HX5 := hid (HX5.out.below hb4); replace HB := hid (below_on HB.out hb4); have hsp := run_head8n (some ⟨b, o, none⟩) 40 c i (by omega); clear hx4 hb4)
    | (clear TD; go_at_call 11; refine (HRX.out _ b o c HXB.out hc40).mono ?_; rintro e w5 ⟨rfl, hb5⟩; replace HX4 := hid (HX4.out.below hb5); replace HX5 := hid (HX5.out.below hb5); replace HXB := hid (HXB.out.below hb5); replace HB := hid (below_on HB.out hb5); clear hb5)
    | ((with_reducible refine wpList_allocF rfl rfl ?_); intro wA gA hzA hbA hgA; have HZA := hid hzA; have HBA := hid hbA; have HGA := hid hgA; clear hzA hbA hgA)
    | (clear TI; (with_reducible refine wpList_storeF rfl rfl _ _ rfl gA ?_ (f := f) ?_ HZA.out ?_); exact rfl; exact rfl; intro wS hS oS; have hbS := below_tr HBA.out (oS.below HBA.out.size (fun i e => by have := HGA.out; omega)); replace HX4 := hid (HX4.out.below hbS); replace HX5 := hid (HX5.out.below hbS); replace HXB := hid (HXB.out.below hbS); replace HB := hid (below_on HB.out hbS); have HY := hid (show FmAt wS gA 0 f from fun j u hu => by rw [Nat.zero_add, hS.cell]; exact hu); obtain ⟨gj, hgj⟩ : ∃ g, g = gA := ⟨gA, rfl⟩; subst hgj; clear hS oS hbS HZA HBA HGA)
    | ((with_reducible refine wpList_loadW 23 _ rfl ?_ (.pointer (some ⟨gj, 0, none⟩)) (.agg f.cs) ?_ HY.out.load ?_); kernel_rfl; exact rfl)
    | ((with_reducible refine wpList_binW .neq 23 _ _ _ (.agg f.cs) (.agg f.cs) (.bool false) rfl ?_ ?_ ?_ ?_ (HNE.out _) ?_); kernel_rfl; exact rfl; exact rfl; simp [eqGuard])
    | (go_at_call 24; (with_reducible refine (HCP.out _ b o c HXB.out hc40).mono ?_); rintro e w9 ⟨v9, rfl, hb9, hw9⟩; obtain ⟨pt, ct, hvt⟩ := hb9.form; subst hvt; have hct := hb9.cap.2; rw [HXL.out] at hct hb9; obtain ⟨gt, hgt0, hgB, cb9, fb9, hset⟩ := hb9.set (i := i) (by have := HXL.out; omega) kk; subst hgt0; rw [HXI.out] at cb9; replace cb9 : w9.cell? ⟨gt, i, none⟩ = some (.int .u8 (xi : Int)) := cb9; rw [HTT.out] at hset; have HTB := hid hset.bl; rw [HXL.out]; have hsz := hw9.size; have hbS := below_tr hw9 ((Only.set (S := fun b => b = gt) w9 ⟨gt, i, none⟩ (u8 kk) rfl).below hsz (fun j e => by omega)); have hti : (i : Int) < (ct : Int) := (by omega); replace HX4 := hid (HX4.out.below hbS); replace HX5 := hid (HX5.out.below hbS); replace HXB := hid (HXB.out.below hbS); replace HB := hid (below_on HB.out hbS); have HCT := hid hct; generalize hW9 : w9.setCell ⟨gt, i, none⟩ (u8 kk) = w10 at *; have HW9 : Hid (w9.setCell ⟨gt, i, none⟩ (.int .u8 (kk : Int)) = w10) := hid hW9; clear hset hb9 hw9 hgB hsz hbS hW9)
    | (go_at_call 25; (with_reducible refine (HPK.out _).mono ?_); rintro e w11 ⟨rfl, rfl⟩)
    | (clear TE; go_at_call 11; rw [HW9.out]; refine (HRT.out _ gt 0 ct HTB.out HCT.out).mono ?_; rintro e w12 ⟨rfl, hb5⟩; replace HX4 := hid (HX4.out.below hb5); replace HX5 := hid (HX5.out.below hb5); replace HXB := hid (HXB.out.below hb5); replace HTB := hid (HTB.out.below hb5); replace HB := hid (below_on HB.out hb5); clear hb5)
    | (clear TF; (with_reducible refine wpList_storeF rfl rfl _ _ rfl gA ?_ (f := yT) ?_ HZA.out ?_); exact rfl; exact rfl; intro wS hS oS; have hbS := below_tr HBA.out (oS.below HBA.out.size (fun i e => by have := HGA.out; omega)); replace HX4 := hid (HX4.out.below hbS); replace HX5 := hid (HX5.out.below hbS); replace HXB := hid (HXB.out.below hbS); replace HTB := hid (HTB.out.below hbS); replace HB := hid (below_on HB.out hbS); clear hS oS hbS HZA HBA HGA)
    | (clear TG; go_at_call 11; refine (HRP.out _ b o c HXB.out hc40).mono ?_; rintro e w13 ⟨rfl, hb5⟩; replace HX4 := hid (HX4.out.below hb5); replace HX5 := hid (HX5.out.below hb5); replace HXB := hid (HXB.out.below hb5); replace HTB := hid (HTB.out.below hb5); replace HB := hid (below_on HB.out hb5); clear hb5)
    | (clear TH; (with_reducible refine wpList_storeF rfl rfl _ _ rfl gA ?_ (f := zF) ?_ HZA.out ?_); exact rfl; exact rfl; intro wS hS oS; have hbS := below_tr HBA.out (oS.below HBA.out.size (fun i e => by have := HGA.out; omega)); replace HX4 := hid (HX4.out.below hbS); replace HX5 := hid (HX5.out.below hbS); replace HXB := hid (HXB.out.below hbS); replace HTB := hid (HTB.out.below hbS); replace HB := hid (below_on HB.out hbS); clear hS oS hbS HZA HBA HGA)
    | (go_at_call 10; refine (HBG.out _).mono ?_; rintro e w14 ⟨rfl, hb5⟩; replace HX4 := hid (HX4.out.below hb5); replace HX5 := hid (HX5.out.below hb5); replace HXB := hid (HXB.out.below hb5); replace HTB := hid (HTB.out.below hb5); replace HB := hid (below_on HB.out hb5); clear hb5))
  have HSF : Hid (∀ W, Below w14.heap.size w14 W → (fun W => (Instr.loadAt 23 (ptr g4)).run Try.prog W = .ok (.agg f.cs) W ∧ (Instr.loadAt 23 (ptr g5)).run Try.prog W = .ok (.agg g.cs) W) W) := hid (fun W hW => ⟨(HX4.out.below hW).load, (HX5.out.below hW).load⟩)
  have HDW := hid (below_drew w14)
  refine wp_region_held_drew (S := (fun W => (Instr.loadAt 23 (ptr g4)).run Try.prog W = .ok (.agg f.cs) W ∧ (Instr.loadAt 23 (ptr g5)).run Try.prog W = .ok (.agg g.cs) W)) (by kernel_rfl) (HSF.out _ HDW.out) (fun hHeld => ?_)
  generalize w14.drew = wd at *
  refine wpAnyH_take (i := 0) (oi := ⟨some 82, .move (.tmp 9), _, _, _, none⟩) (v := .bool true) rfl (by kernel_rfl) (by kernel_rfl) (by kernel_rfl) (fun _ _ _ h => h) (Or.inl ⟨by kernel_rfl, by intro W hW; go_simp⟩) hHeld ?_
  refine wpAnyH_take (i := 1) (oi := ⟨some 83, .move (.tmp 82), _, _, _, none⟩) (v := .bool true) rfl (by kernel_rfl) (by kernel_rfl) (by kernel_rfl) (fun _ _ _ h => h) (Or.inl ⟨by kernel_rfl, by intro W hW; go_simp⟩) hHeld ?_
  refine wpAnyH_take (i := 2) (oi := ⟨some 84, .move (.tmp 3), _, _, _, some (1, true)⟩) (v := .int .u8 (mask : Int)) rfl (by kernel_rfl) (by kernel_rfl) (by kernel_rfl) (fun _ _ _ h => h) (Or.inl ⟨by kernel_rfl, by intro W hW; go_simp⟩) hHeld ?_
  refine wpAnyH_take (i := 3) (oi := ⟨some 85, .binOp .eql 5 (.tmp 84) (.const (.int .u8 0)) 5, _, _, _, some (1, true)⟩) (v := .bool true) rfl (by kernel_rfl) (by kernel_rfl) (by kernel_rfl) (fun _ _ _ h => h) (Or.inl ⟨by kernel_rfl, by intro W hW; go_simp⟩) hHeld ?_
  refine wpAnyH_take (i := 4) (oi := ⟨some 86, .move (.tmp 85), _, _, _, some (1, true)⟩) (v := .bool true) rfl (by kernel_rfl) (by kernel_rfl) (by kernel_rfl) (fun _ _ _ h => h) (Or.inl ⟨by kernel_rfl, by intro W hW; go_simp⟩) hHeld ?_
  refine wpAnyH_take (i := 5) (oi := ⟨some 87, .move (.tmp 17), _, _, _, some (4, false)⟩) (v := undef) rfl (by kernel_rfl) (by kernel_rfl) (by kernel_rfl) (fun _ _ _ h => h) (Or.inr ⟨by kernel_rfl, rfl⟩) hHeld ?_
  refine wpAnyH_take (i := 6) (oi := ⟨some 88, .binOp .neq 26 (.tmp 87) (.const (.int .i64 0)) 26, _, _, _, some (4, false)⟩) (v := undef) rfl (by kernel_rfl) (by kernel_rfl) (by kernel_rfl) (fun _ _ _ h => h) (Or.inr ⟨by kernel_rfl, rfl⟩) hHeld ?_
  refine wpAnyH_take (i := 7) (oi := ⟨some 89, .pick (.tmp 86) (.const (.bool true)) (.tmp 88), _, _, _, some (1, true)⟩) (v := .bool true) rfl (by kernel_rfl) (by kernel_rfl) (by kernel_rfl) (fun _ _ _ h => h) (Or.inl ⟨by kernel_rfl, by intro W hW; go_simp⟩) hHeld ?_
  refine wpAnyH_take (i := 8) (oi := ⟨some 90, .move (.tmp 89), _, _, _, some (1, true)⟩) (v := .bool true) rfl (by kernel_rfl) (by kernel_rfl) (by kernel_rfl) (fun _ _ _ h => h) (Or.inl ⟨by kernel_rfl, by intro W hW; go_simp⟩) hHeld ?_
  refine wpAnyH_take (i := 9) (oi := ⟨some 91, .move (.tmp 14), _, _, _, some (8, false)⟩) (v := undef) rfl (by kernel_rfl) (by kernel_rfl) (by kernel_rfl) (fun _ _ _ h => h) (Or.inr ⟨by kernel_rfl, rfl⟩) hHeld ?_
  refine wpAnyH_take (i := 10) (oi := ⟨some 92, .call { callee := .value (.func 26), args := #[.tmp 91], argTypes := #[24] }, _, _, _, some (8, false)⟩) (v := undef) rfl (by kernel_rfl) (by kernel_rfl) (by kernel_rfl) (fun _ _ _ h => h) (Or.inr ⟨by kernel_rfl, rfl⟩) hHeld ?_
  refine wpAnyH_take (i := 11) (oi := ⟨some 93, .pick (.tmp 90) (.const (.bool true)) (.tmp 92), _, _, _, some (1, true)⟩) (v := .bool true) rfl (by kernel_rfl) (by kernel_rfl) (by kernel_rfl) (fun _ _ _ h => h) (Or.inl ⟨by kernel_rfl, by intro W hW; go_simp⟩) hHeld ?_
  refine wpAnyH_take (i := 12) (oi := ⟨some 94, .pick (.tmp 83) (.tmp 93) (.const (.bool false)), _, _, _, none⟩) (v := .bool true) rfl (by kernel_rfl) (by kernel_rfl) (by kernel_rfl) (fun _ _ _ h => h) (Or.inl ⟨by kernel_rfl, by intro W hW; go_simp⟩) hHeld ?_
  refine wpAnyH_take (i := 13) (oi := ⟨some 95, .move (.tmp 94), _, _, _, none⟩) (v := .bool true) rfl (by kernel_rfl) (by kernel_rfl) (by kernel_rfl) (fun _ _ _ h => h) (Or.inl ⟨by kernel_rfl, by intro W hW; go_simp⟩) hHeld ?_
  refine wpAnyH_take (i := 14) (oi := ⟨some 96, .move (.tmp 19), _, _, _, some (13, true)⟩) (v := .int .i64 4) rfl (by kernel_rfl) (by kernel_rfl) (by kernel_rfl) (fun _ _ _ h => h) (Or.inl ⟨by kernel_rfl, by intro W hW; go_simp⟩) hHeld ?_
  refine wpAnyH_take (i := 15) (oi := ⟨some 97, .binOp .eql 26 (.tmp 96) (.const (.int .i64 4)) 26, _, _, _, some (13, true)⟩) (v := .bool true) rfl (by kernel_rfl) (by kernel_rfl) (by kernel_rfl) (fun _ _ _ h => h) (Or.inl ⟨by kernel_rfl, by intro W hW; go_simp⟩) hHeld ?_
  refine wpAnyH_take (i := 16) (oi := ⟨some 98, .pick (.tmp 95) (.tmp 97) (.const (.bool false)), _, _, _, none⟩) (v := .bool true) rfl (by kernel_rfl) (by kernel_rfl) (by kernel_rfl) (fun _ _ _ h => h) (Or.inl ⟨by kernel_rfl, by intro W hW; go_simp⟩) hHeld ?_
  refine wpAnyH_take (i := 17) (oi := ⟨some 99, .move (.tmp 98), _, _, _, none⟩) (v := .bool true) rfl (by kernel_rfl) (by kernel_rfl) (by kernel_rfl) (fun _ _ _ h => h) (Or.inl ⟨by kernel_rfl, by intro W hW; go_simp⟩) hHeld ?_
  refine wpAnyH_take (i := 18) (oi := ⟨some 100, .move (.tmp 21), _, _, _, some (17, true)⟩) (v := .int .i64 2) rfl (by kernel_rfl) (by kernel_rfl) (by kernel_rfl) (fun _ _ _ h => h) (Or.inl ⟨by kernel_rfl, by intro W hW; go_simp⟩) hHeld ?_
  refine wpAnyH_take (i := 19) (oi := ⟨some 101, .binOp .neq 26 (.tmp 100) (.const (.int .i64 0)) 26, _, _, _, some (17, true)⟩) (v := .bool true) rfl (by kernel_rfl) (by kernel_rfl) (by kernel_rfl) (fun _ _ _ h => h) (Or.inl ⟨by kernel_rfl, by intro W hW; go_simp⟩) hHeld ?_
  refine wpAnyH_take (i := 20) (oi := ⟨some 102, .move (.tmp 101), _, _, _, some (17, true)⟩) (v := .bool true) rfl (by kernel_rfl) (by kernel_rfl) (by kernel_rfl) (fun _ _ _ h => h) (Or.inl ⟨by kernel_rfl, by intro W hW; go_simp⟩) hHeld ?_
  refine wpAnyH_take (i := 21) (oi := ⟨some 103, .move (.tmp 10), _, _, _, some (20, false)⟩) (v := undef) rfl (by kernel_rfl) (by kernel_rfl) (by kernel_rfl) (fun _ _ _ h => h) (Or.inr ⟨by kernel_rfl, rfl⟩) hHeld ?_
  refine wpAnyH_take (i := 22) (oi := ⟨some 104, .move (.tmp 20), _, _, _, some (20, false)⟩) (v := undef) rfl (by kernel_rfl) (by kernel_rfl) (by kernel_rfl) (fun _ _ _ h => h) (Or.inr ⟨by kernel_rfl, rfl⟩) hHeld ?_
  refine wpAnyH_take (i := 23) (oi := ⟨some 105, .call { callee := .value (.func 14), args := #[.tmp 103, .tmp 104], argTypes := #[24, 24] }, _, _, _, some (20, false)⟩) (v := undef) rfl (by kernel_rfl) (by kernel_rfl) (by kernel_rfl) (fun _ _ _ h => h) (Or.inr ⟨by kernel_rfl, rfl⟩) hHeld ?_
  refine wpAnyH_take (i := 24) (oi := ⟨some 106, .load 23 (.tmp 4), _, _, _, some (20, false)⟩) (v := undef) rfl (by kernel_rfl) (by kernel_rfl) (by kernel_rfl) (fun _ _ _ h => h) (Or.inr ⟨by kernel_rfl, rfl⟩) hHeld ?_
  refine wpAnyH_take (i := 25) (oi := ⟨some 107, .load 23 (.tmp 5), _, _, _, some (20, false)⟩) (v := undef) rfl (by kernel_rfl) (by kernel_rfl) (by kernel_rfl) (fun _ _ _ h => h) (Or.inr ⟨by kernel_rfl, rfl⟩) hHeld ?_
  refine wpAnyH_take (i := 26) (oi := ⟨some 108, .binOp .eql 23 (.tmp 106) (.tmp 107) 23, _, _, _, some (20, false)⟩) (v := undef) rfl (by kernel_rfl) (by kernel_rfl) (by kernel_rfl) (fun _ _ _ h => h) (Or.inr ⟨by kernel_rfl, rfl⟩) hHeld ?_
  refine wpAnyH_take (i := 27) (oi := ⟨some 109, .binOp .eql 4 (.tmp 105) (.tmp 108) 4, _, _, _, some (20, false)⟩) (v := undef) rfl (by kernel_rfl) (by kernel_rfl) (by kernel_rfl) (fun _ _ _ h => h) (Or.inr ⟨by kernel_rfl, rfl⟩) hHeld ?_
  refine wpAnyH_take (i := 28) (oi := ⟨some 110, .pick (.tmp 102) (.const (.bool true)) (.tmp 109), _, _, _, some (17, true)⟩) (v := .bool true) rfl (by kernel_rfl) (by kernel_rfl) (by kernel_rfl) (fun _ _ _ h => h) (Or.inl ⟨by kernel_rfl, by intro W hW; go_simp⟩) hHeld ?_
  refine wpAnyH_take (i := 29) (oi := ⟨some 111, .pick (.tmp 99) (.tmp 110) (.const (.bool false)), _, _, _, none⟩) (v := .bool true) rfl (by kernel_rfl) (by kernel_rfl) (by kernel_rfl) (fun _ _ _ h => h) (Or.inl ⟨by kernel_rfl, by intro W hW; go_simp⟩) hHeld ?_
  refine wpAnyH_take (i := 30) (oi := ⟨some 8, .assign (.tmp 111), _, _, _, none⟩) (v := .bool true) rfl (by kernel_rfl) (by kernel_rfl) (by kernel_rfl) (fun _ _ _ h => h) (Or.inl ⟨by kernel_rfl, by intro W hW; go_simp⟩) hHeld ?_
  refine wpAnyH_done (by kernel_rfl) ?_ _
  simp only [Act.put, List.setIfInBounds_toArray, List.set_cons_zero, List.set_cons_succ]
  go_wp2
  go_ret
  exact ⟨rfl, below_on HB.out HDW.out⟩
end Go.Proofs.Ytfniojnklhjgbaa

/- FormatBack over package format's contracts: a byte turned, not read. (Written by tools/gen_Fm14.py.) -/
namespace Go.Proofs.Ytfniojnklhjgbaa
open Go Go.RowKit

set_option linter.unusedVariables false in
set_option maxRecDepth 100000 in
set_option maxHeartbeats 8000000 in
theorem formatBack_nk (hF : FmC) (f g : FmV) (hf : f.wf) (hg : g.wf) (hok : okFm f = true) (hgk : okFm g = true) (at_ : Int) (mask : Nat) (hm : mask < 256) (X T : List Nat) (hX : fmB f = X) (hT : X.set (pkN at_ 40) (X.getD (pkN at_ 40) 0 ^^^ mask) = T) (m0 : mask ≠ 0) (hr : rdFe T ≠ 0) (w : World) : Calls Try.prog 5 #[.agg f.cs, .agg g.cs, .int .i64 at_, .int .u8 (mask : Int)] w fun e w' => e = .returned (.bool true) ∧ Below w.heap.size w w' := by
  have HAW := hid (fun W => awake14_any hF W)
  have hxl : X.length = 40 := by rw [← hX]; exact fmB_len f
  have hx8 : ∀ z ∈ X, z < 256 := by rw [← hX]; exact fmB_lt hok
  have hpk := pkN_lt at_ 40 (by omega)
  have hk8 : X.getD (pkN at_ 40) 0 < 256 := get256 hx8 _ (by omega)
  have htl : T.length = 40 := by rw [← hT, List.length_set]; exact hxl
  have ht8 : ∀ z ∈ T, z < 256 := fun z hz => by
    rw [← hT] at hz
    rcases List.mem_or_eq_of_mem_set hz with h | rfl
    · exact hx8 z h
    · exact Nat.xor_lt_two_pow (n := 8) hk8 hm
  have HBY := hid (fun W => (hF.bytes f W hf).mono (R' := fun e w' => ∃ b o c, e = .returned (.tuple #[.slice (some ⟨b, o, none⟩) 40 c, .int .i64 0]) ∧ 40 ≤ c ∧ BL w' (some ⟨b, o, none⟩) X ∧ Below W.heap.size W w') (fun e w' h => by
    rcases h with ⟨_, po, c, h1, h2, h4, h3⟩ | ⟨h, _⟩
    · rw [hX] at h2
      rcases h2.bl with hb | ⟨b, o, e2, hb⟩
      · rw [hb] at hxl; cases hxl
      · subst e2; exact ⟨b, o, c, h1, by have := h2.cap; omega, .inr ⟨b, o, rfl, hb⟩, h3⟩
    · rw [hok] at h; cases h))
  have HRX := hid (fun W b o c (h : BL W (some ⟨b, o, none⟩) X) (hc : 40 ≤ c) => (hF.read (some ⟨b, o, none⟩) c X W h (by omega) (by omega) (fun e => by cases e) hx8).mono (R' := fun e w' => e = .returned (.tuple #[.agg f.cs, .int .i64 0]) ∧ Below W.heap.size W w') (fun e w' h => by
    obtain ⟨h1, h2⟩ := h
    rw [← hX, (rd_fmB hok).1, (rd_fmB hok).2] at h1
    exact ⟨h1, h2⟩))
  have HRT := hid (fun W b o c (h : BL W (some ⟨b, o, none⟩) T) (hc : 40 ≤ c) => (hF.read (some ⟨b, o, none⟩) c T W h (by omega) (by omega) (fun e => by cases e) ht8).mono (R' := fun e w' => e = .returned (.tuple #[.agg (rdFv T).cs, .int .i64 (rdFe T : Int)]) ∧ Below W.heap.size W w') (fun e w' h => h))
  have HRP := hid (fun W b o c (h : BL W (some ⟨b, o, none⟩) X) (hc : 40 ≤ c) => (hF.read (some ⟨b, o, none⟩) c (X.take (pkN at_ 40)) W (h.take _) (by rw [List.length_take]; omega) (by rw [List.length_take]; omega) (fun e => by cases e) (fun z hz => hx8 z (List.mem_of_mem_take hz))).mono (R' := fun e w' => e = .returned (.tuple #[.agg zF.cs, .int .i64 4]) ∧ Below W.heap.size W w') (fun e w' h => by
    obtain ⟨h1, h2⟩ := h
    have e4 : rdFe (X.take (pkN at_ 40)) = 4 := rd_len (by rw [List.length_take]; omega)
    unfold rdFv at h1
    rw [e4, if_neg (by decide)] at h1
    exact ⟨h1, h2⟩))
  rw [show (X.take (pkN at_ 40)).length = pkN at_ 40 by rw [List.length_take]; omega] at HRP
  rw [hxl] at HRX
  rw [htl] at HRT
  have HCP := hid (fun W b o c (h : BL W (some ⟨b, o, none⟩) X) (hc : 40 ≤ c) => copyB_any (w := W) (v := .slice (some ⟨b, o, none⟩) 40 c) (x := X) ⟨_, _, by rw [hxl], h, by omega⟩ (by omega) (fun n c e => by cases e))
  have HPK : Hid (∀ W, Calls Try.prog 25 #[.int .i64 at_, .int .i64 40] W fun e w' => e = .returned (.int .i64 (pkN at_ 40 : Int)) ∧ w' = W) := hid (fun W => pick_any at_ 40 W (by omega) (by omega))
  have hxor : bits .xor .u8 ((X.getD (pkN at_ 40) 0 : Nat) : Int) (mask : Int) = ((X.getD (pkN at_ 40) 0 ^^^ mask : Nat) : Int) := u8_xor_nat _ _ hk8 hm
  have HNE := hid (fun W => neqF f f W)
  rw [show decide (f = f) = true by simp] at HNE
  have HBG := hid (fun W => (hF.bytes g W hg).mono (R' := fun e w' => ∃ b o c, e = .returned (.tuple #[.slice (some ⟨b, o, none⟩) 40 c, .int .i64 0]) ∧ 40 ≤ c ∧ BL w' (some ⟨b, o, none⟩) (fmB g) ∧ Below W.heap.size W w') (fun e w' h => by
    rcases h with ⟨_, po, c, h1, h2, h4, h3⟩ | ⟨h, _⟩
    · rcases h2.bl with hb | ⟨b, o, e2, hb⟩
      · have := congrArg List.length hb; rw [fmB_len] at this; cases this
      · subst e2; exact ⟨b, o, c, h1, by have := h2.cap; rw [fmB_len] at this; omega, .inr ⟨b, o, rfl, hb⟩, h3⟩
    · rw [hgk] at h; cases h))
  have HEQ := hid (fun W => eqlF f g W)
  have HSB := hid (fun W b o c b2 o2 c2 (h1 : BL W (some ⟨b, o, none⟩) X) (hc : 40 ≤ c) (h2 : BL W (some ⟨b2, o2, none⟩) (fmB g)) (hc2 : 40 ≤ c2) => (sameB_any (w := W) (u := .slice (some ⟨b, o, none⟩) 40 c) (v := .slice (some ⟨b2, o2, none⟩) 40 c2) (x := X) (y := fmB g) ⟨_, _, by rw [hxl], h1, by omega⟩ ⟨_, _, by rw [fmB_len], h2, by rw [fmB_len]; omega⟩ hx8 (fmB_lt hgk)).mono (R' := fun e w' => e = .returned (.bool (decide (f = g))) ∧ w' = W) (fun e w' h => ⟨by rw [h.1]; congr 2; rw [← hX]; exact decide_eq_decide.2 (fmB_inj hok hgk), h.2⟩))
  obtain ⟨p, hp⟩ : ∃ p : Bool, decide (f = g) = p := ⟨_, rfl⟩
  rw [hp] at HEQ HSB
  have hpp : (p == p) = true := by simp
  have hm0 : ((mask : Int) == 0) = false := beq_eq_false_iff_ne.2 (by omega)
  have her : ((rdFe T : Int) == 0) = false := beq_eq_false_iff_ne.2 (by omega)
  have hern : ¬ rdFe T = 0 := hr
  generalize rdFe T = er at *
  obtain ⟨i, hi⟩ : ∃ i, pkN at_ 40 = i := ⟨_, rfl⟩
  obtain ⟨xi, hxi⟩ : ∃ xi, X.getD i 0 = xi := ⟨_, rfl⟩
  obtain ⟨kk, hkk⟩ : ∃ kk, xi ^^^ mask = kk := ⟨_, rfl⟩
  rw [hi] at HPK HRP hpk hT hxor
  rw [hxi, hkk] at hT hxor
  have HTT := hid hT
  have HXI := hid hxi
  have HXL := hid hxl
  have hi40 : (i : Int) < 40 := by omega
  generalize rdFv T = yT at *
  have TA : Hid True := hid trivial
  have TB : Hid True := hid trivial
  have TC : Hid True := hid trivial
  have TD : Hid True := hid trivial
  have TE : Hid True := hid trivial
  have TF : Hid True := hid trivial
  have TG : Hid True := hid trivial
  have TH : Hid True := hid trivial
  have TI : Hid True := hid trivial
  clear hF hf hg hok hgk hX hT hxl hx8 hk8 htl ht8 hm hxi hkk hi hpk m0 hr
  go_enter Try.func5, Try.ntmps5
  go_upto_region 14 with (first
    | (clear TA; (with_reducible refine wpList_boxT 23 rfl _ rfl f.cs ?_ ?_); exact rfl; intro w1 g4 hc1 hb1 hg1; have HX4 := hid (show FmAt w1 g4 0 f from fun j u hu => by rw [Nat.zero_add, hc1.cell]; exact hu); have HB := hid hb1; clear hc1 hb1 hg1)
    | (clear TB; (with_reducible refine wpList_boxT 23 rfl _ rfl g.cs ?_ ?_); exact rfl; intro w2 g5 hc1 hb1 hg1; have HX5 := hid (show FmAt w2 g5 0 g from fun j u hu => by rw [Nat.zero_add, hc1.cell]; exact hu); replace HX4 := hid (HX4.out.below hb1); replace HB := hid (below_on HB.out hb1); clear hc1 hb1 hg1)
    | (go_at_call 18; refine (HAW.out _).mono ?_; rintro e w3 ⟨rfl, hb3⟩; replace HX4 := hid (HX4.out.below hb3); replace HX5 := hid (HX5.out.below hb3); replace HB := hid (below_on HB.out hb3); clear hb3)
    | ((with_reducible refine wpList_loadW 23 _ rfl ?_ (.pointer (some ⟨g4, 0, none⟩)) (.agg f.cs) ?_ HX4.out.load ?_); kernel_rfl; exact rfl)
    | ((with_reducible refine wpList_loadW 23 _ rfl ?_ (.pointer (some ⟨g5, 0, none⟩)) (.agg g.cs) ?_ HX5.out.load ?_); kernel_rfl; exact rfl)
    | (clear TC; go_at_call 10; refine (HBY.out _).mono ?_; rintro e w4 ⟨b, o, c, rfl, hc40, hx4, hb4⟩; have HXB := hid hx4; have hci : (i : Int) ≤ (c : Int) := (by omega); replace HX4 := hid (HX4.out.below hb4); replace HX5 := hid (HX5.out.below hb4); replace HB := hid (below_on HB.out hb4); have hsp := run_head8n (some ⟨b, o, none⟩) 40 c i (by omega); clear hx4 hb4)
    | (clear TD; go_at_call 11; refine (HRX.out _ b o c HXB.out hc40).mono ?_; rintro e w5 ⟨rfl, hb5⟩; replace HX4 := hid (HX4.out.below hb5); replace HX5 := hid (HX5.out.below hb5); replace HXB := hid (HXB.out.below hb5); replace HB := hid (below_on HB.out hb5); clear hb5)
    | ((with_reducible refine wpList_allocF rfl rfl ?_); intro wA gA hzA hbA hgA; have HZA := hid hzA; have HBA := hid hbA; have HGA := hid hgA; clear hzA hbA hgA)
    | (clear TI; (with_reducible refine wpList_storeF rfl rfl _ _ rfl gA ?_ (f := f) ?_ HZA.out ?_); exact rfl; exact rfl; intro wS hS oS; have hbS := below_tr HBA.out (oS.below HBA.out.size (fun i e => by have := HGA.out; omega)); replace HX4 := hid (HX4.out.below hbS); replace HX5 := hid (HX5.out.below hbS); replace HXB := hid (HXB.out.below hbS); replace HB := hid (below_on HB.out hbS); have HY := hid (show FmAt wS gA 0 f from fun j u hu => by rw [Nat.zero_add, hS.cell]; exact hu); obtain ⟨gj, hgj⟩ : ∃ g, g = gA := ⟨gA, rfl⟩; subst hgj; clear hS oS hbS HZA HBA HGA)
    | ((with_reducible refine wpList_loadW 23 _ rfl ?_ (.pointer (some ⟨gj, 0, none⟩)) (.agg f.cs) ?_ HY.out.load ?_); kernel_rfl; exact rfl)
    | ((with_reducible refine wpList_binW .neq 23 _ _ _ (.agg f.cs) (.agg f.cs) (.bool false) rfl ?_ ?_ ?_ ?_ (HNE.out _) ?_); kernel_rfl; exact rfl; exact rfl; simp [eqGuard])
    | (go_at_call 24; (with_reducible refine (HCP.out _ b o c HXB.out hc40).mono ?_); rintro e w9 ⟨v9, rfl, hb9, hw9⟩; obtain ⟨pt, ct, hvt⟩ := hb9.form; subst hvt; have hct := hb9.cap.2; rw [HXL.out] at hct hb9; obtain ⟨gt, hgt0, hgB, cb9, fb9, hset⟩ := hb9.set (i := i) (by have := HXL.out; omega) kk; subst hgt0; rw [HXI.out] at cb9; replace cb9 : w9.cell? ⟨gt, i, none⟩ = some (.int .u8 (xi : Int)) := cb9; rw [HTT.out] at hset; have HTB := hid hset.bl; rw [HXL.out]; have hsz := hw9.size; have hbS := below_tr hw9 ((Only.set (S := fun b => b = gt) w9 ⟨gt, i, none⟩ (u8 kk) rfl).below hsz (fun j e => by omega)); have hti : (i : Int) < (ct : Int) := (by omega); replace HX4 := hid (HX4.out.below hbS); replace HX5 := hid (HX5.out.below hbS); replace HXB := hid (HXB.out.below hbS); replace HB := hid (below_on HB.out hbS); have HCT := hid hct; generalize hW9 : w9.setCell ⟨gt, i, none⟩ (u8 kk) = w10 at *; have HW9 : Hid (w9.setCell ⟨gt, i, none⟩ (.int .u8 (kk : Int)) = w10) := hid hW9; clear hset hb9 hw9 hgB hsz hbS hW9)
    | (go_at_call 25; (with_reducible refine (HPK.out _).mono ?_); rintro e w11 ⟨rfl, rfl⟩)
    | (clear TE; go_at_call 11; rw [HW9.out]; refine (HRT.out _ gt 0 ct HTB.out HCT.out).mono ?_; rintro e w12 ⟨rfl, hb5⟩; replace HX4 := hid (HX4.out.below hb5); replace HX5 := hid (HX5.out.below hb5); replace HXB := hid (HXB.out.below hb5); replace HTB := hid (HTB.out.below hb5); replace HB := hid (below_on HB.out hb5); clear hb5)
    | (clear TF; (with_reducible refine wpList_storeF rfl rfl _ _ rfl gA ?_ (f := yT) ?_ HZA.out ?_); exact rfl; exact rfl; intro wS hS oS; have hbS := below_tr HBA.out (oS.below HBA.out.size (fun i e => by have := HGA.out; omega)); replace HX4 := hid (HX4.out.below hbS); replace HX5 := hid (HX5.out.below hbS); replace HXB := hid (HXB.out.below hbS); replace HTB := hid (HTB.out.below hbS); replace HB := hid (below_on HB.out hbS); clear hS oS hbS HZA HBA HGA)
    | (clear TG; go_at_call 11; refine (HRP.out _ b o c HXB.out hc40).mono ?_; rintro e w13 ⟨rfl, hb5⟩; replace HX4 := hid (HX4.out.below hb5); replace HX5 := hid (HX5.out.below hb5); replace HXB := hid (HXB.out.below hb5); replace HTB := hid (HTB.out.below hb5); replace HB := hid (below_on HB.out hb5); clear hb5)
    | (clear TH; (with_reducible refine wpList_storeF rfl rfl _ _ rfl gA ?_ (f := zF) ?_ HZA.out ?_); exact rfl; exact rfl; intro wS hS oS; have hbS := below_tr HBA.out (oS.below HBA.out.size (fun i e => by have := HGA.out; omega)); replace HX4 := hid (HX4.out.below hbS); replace HX5 := hid (HX5.out.below hbS); replace HXB := hid (HXB.out.below hbS); replace HTB := hid (HTB.out.below hbS); replace HB := hid (below_on HB.out hbS); clear hS oS hbS HZA HBA HGA)
    | (go_at_call 10; refine (HBG.out _).mono ?_; rintro e w14 ⟨b2, o2, c2, rfl, hc2, hx2, hb5⟩; have HXG := hid hx2; replace HX4 := hid (HX4.out.below hb5); replace HX5 := hid (HX5.out.below hb5); replace HXB := hid (HXB.out.below hb5); replace HTB := hid (HTB.out.below hb5); replace HB := hid (below_on HB.out hb5); clear hb5 hx2))
  have HSF : Hid (∀ W, Below w14.heap.size w14 W → (fun W => (Instr.loadAt 23 (ptr g4)).run Try.prog W = .ok (.agg f.cs) W ∧ (Instr.loadAt 23 (ptr g5)).run Try.prog W = .ok (.agg g.cs) W) W) := hid (fun W hW => ⟨(HX4.out.below hW).load, (HX5.out.below hW).load⟩)
  have HDW := hid (below_drew w14)
  refine wp_region_held_drew (S := (fun W => (Instr.loadAt 23 (ptr g4)).run Try.prog W = .ok (.agg f.cs) W ∧ (Instr.loadAt 23 (ptr g5)).run Try.prog W = .ok (.agg g.cs) W)) (by kernel_rfl) (HSF.out _ HDW.out) (fun hHeld => ?_)
  generalize w14.drew = wd at *
  refine wpAnyH_take (i := 0) (oi := ⟨some 82, .move (.tmp 9), _, _, _, none⟩) (v := .bool true) rfl (by kernel_rfl) (by kernel_rfl) (by kernel_rfl) (fun _ _ _ h => h) (Or.inl ⟨by kernel_rfl, by intro W hW; go_simp⟩) hHeld ?_
  refine wpAnyH_take (i := 1) (oi := ⟨some 83, .move (.tmp 82), _, _, _, none⟩) (v := .bool true) rfl (by kernel_rfl) (by kernel_rfl) (by kernel_rfl) (fun _ _ _ h => h) (Or.inl ⟨by kernel_rfl, by intro W hW; go_simp⟩) hHeld ?_
  refine wpAnyH_take (i := 2) (oi := ⟨some 84, .move (.tmp 3), _, _, _, some (1, true)⟩) (v := .int .u8 (mask : Int)) rfl (by kernel_rfl) (by kernel_rfl) (by kernel_rfl) (fun _ _ _ h => h) (Or.inl ⟨by kernel_rfl, by intro W hW; go_simp⟩) hHeld ?_
  refine wpAnyH_take (i := 3) (oi := ⟨some 85, .binOp .eql 5 (.tmp 84) (.const (.int .u8 0)) 5, _, _, _, some (1, true)⟩) (v := .bool false) rfl (by kernel_rfl) (by kernel_rfl) (by kernel_rfl) (fun _ _ _ h => h) (Or.inl ⟨by kernel_rfl, by intro W hW; go_simp⟩) hHeld ?_
  refine wpAnyH_take (i := 4) (oi := ⟨some 86, .move (.tmp 85), _, _, _, some (1, true)⟩) (v := .bool false) rfl (by kernel_rfl) (by kernel_rfl) (by kernel_rfl) (fun _ _ _ h => h) (Or.inl ⟨by kernel_rfl, by intro W hW; go_simp⟩) hHeld ?_
  refine wpAnyH_take (i := 5) (oi := ⟨some 87, .move (.tmp 17), _, _, _, some (4, false)⟩) (v := .int .i64 (er : Int)) rfl (by kernel_rfl) (by kernel_rfl) (by kernel_rfl) (fun _ _ _ h => h) (Or.inl ⟨by kernel_rfl, by intro W hW; go_simp⟩) hHeld ?_
  refine wpAnyH_take (i := 6) (oi := ⟨some 88, .binOp .neq 26 (.tmp 87) (.const (.int .i64 0)) 26, _, _, _, some (4, false)⟩) (v := .bool true) rfl (by kernel_rfl) (by kernel_rfl) (by kernel_rfl) (fun _ _ _ h => h) (Or.inl ⟨by kernel_rfl, by intro W hW; go_simp⟩) hHeld ?_
  refine wpAnyH_take (i := 7) (oi := ⟨some 89, .pick (.tmp 86) (.const (.bool true)) (.tmp 88), _, _, _, some (1, true)⟩) (v := .bool true) rfl (by kernel_rfl) (by kernel_rfl) (by kernel_rfl) (fun _ _ _ h => h) (Or.inl ⟨by kernel_rfl, by intro W hW; go_simp⟩) hHeld ?_
  refine wpAnyH_take (i := 8) (oi := ⟨some 90, .move (.tmp 89), _, _, _, some (1, true)⟩) (v := .bool true) rfl (by kernel_rfl) (by kernel_rfl) (by kernel_rfl) (fun _ _ _ h => h) (Or.inl ⟨by kernel_rfl, by intro W hW; go_simp⟩) hHeld ?_
  refine wpAnyH_take (i := 9) (oi := ⟨some 91, .move (.tmp 14), _, _, _, some (8, false)⟩) (v := undef) rfl (by kernel_rfl) (by kernel_rfl) (by kernel_rfl) (fun _ _ _ h => h) (Or.inr ⟨by kernel_rfl, rfl⟩) hHeld ?_
  refine wpAnyH_take (i := 10) (oi := ⟨some 92, .call { callee := .value (.func 26), args := #[.tmp 91], argTypes := #[24] }, _, _, _, some (8, false)⟩) (v := undef) rfl (by kernel_rfl) (by kernel_rfl) (by kernel_rfl) (fun _ _ _ h => h) (Or.inr ⟨by kernel_rfl, rfl⟩) hHeld ?_
  refine wpAnyH_take (i := 11) (oi := ⟨some 93, .pick (.tmp 90) (.const (.bool true)) (.tmp 92), _, _, _, some (1, true)⟩) (v := .bool true) rfl (by kernel_rfl) (by kernel_rfl) (by kernel_rfl) (fun _ _ _ h => h) (Or.inl ⟨by kernel_rfl, by intro W hW; go_simp⟩) hHeld ?_
  refine wpAnyH_take (i := 12) (oi := ⟨some 94, .pick (.tmp 83) (.tmp 93) (.const (.bool false)), _, _, _, none⟩) (v := .bool true) rfl (by kernel_rfl) (by kernel_rfl) (by kernel_rfl) (fun _ _ _ h => h) (Or.inl ⟨by kernel_rfl, by intro W hW; go_simp⟩) hHeld ?_
  refine wpAnyH_take (i := 13) (oi := ⟨some 95, .move (.tmp 94), _, _, _, none⟩) (v := .bool true) rfl (by kernel_rfl) (by kernel_rfl) (by kernel_rfl) (fun _ _ _ h => h) (Or.inl ⟨by kernel_rfl, by intro W hW; go_simp⟩) hHeld ?_
  refine wpAnyH_take (i := 14) (oi := ⟨some 96, .move (.tmp 19), _, _, _, some (13, true)⟩) (v := .int .i64 4) rfl (by kernel_rfl) (by kernel_rfl) (by kernel_rfl) (fun _ _ _ h => h) (Or.inl ⟨by kernel_rfl, by intro W hW; go_simp⟩) hHeld ?_
  refine wpAnyH_take (i := 15) (oi := ⟨some 97, .binOp .eql 26 (.tmp 96) (.const (.int .i64 4)) 26, _, _, _, some (13, true)⟩) (v := .bool true) rfl (by kernel_rfl) (by kernel_rfl) (by kernel_rfl) (fun _ _ _ h => h) (Or.inl ⟨by kernel_rfl, by intro W hW; go_simp⟩) hHeld ?_
  refine wpAnyH_take (i := 16) (oi := ⟨some 98, .pick (.tmp 95) (.tmp 97) (.const (.bool false)), _, _, _, none⟩) (v := .bool true) rfl (by kernel_rfl) (by kernel_rfl) (by kernel_rfl) (fun _ _ _ h => h) (Or.inl ⟨by kernel_rfl, by intro W hW; go_simp⟩) hHeld ?_
  refine wpAnyH_take (i := 17) (oi := ⟨some 99, .move (.tmp 98), _, _, _, none⟩) (v := .bool true) rfl (by kernel_rfl) (by kernel_rfl) (by kernel_rfl) (fun _ _ _ h => h) (Or.inl ⟨by kernel_rfl, by intro W hW; go_simp⟩) hHeld ?_
  refine wpAnyH_take (i := 18) (oi := ⟨some 100, .move (.tmp 21), _, _, _, some (17, true)⟩) (v := .int .i64 0) rfl (by kernel_rfl) (by kernel_rfl) (by kernel_rfl) (fun _ _ _ h => h) (Or.inl ⟨by kernel_rfl, by intro W hW; go_simp⟩) hHeld ?_
  refine wpAnyH_take (i := 19) (oi := ⟨some 101, .binOp .neq 26 (.tmp 100) (.const (.int .i64 0)) 26, _, _, _, some (17, true)⟩) (v := .bool false) rfl (by kernel_rfl) (by kernel_rfl) (by kernel_rfl) (fun _ _ _ h => h) (Or.inl ⟨by kernel_rfl, by intro W hW; go_simp⟩) hHeld ?_
  refine wpAnyH_take (i := 20) (oi := ⟨some 102, .move (.tmp 101), _, _, _, some (17, true)⟩) (v := .bool false) rfl (by kernel_rfl) (by kernel_rfl) (by kernel_rfl) (fun _ _ _ h => h) (Or.inl ⟨by kernel_rfl, by intro W hW; go_simp⟩) hHeld ?_
  refine wpAnyH_take (i := 21) (oi := ⟨some 103, .move (.tmp 10), _, _, _, some (20, false)⟩) (v := .slice (some ⟨b, o, none⟩) 40 c) rfl (by kernel_rfl) (by kernel_rfl) (by kernel_rfl) (fun _ _ _ h => h) (Or.inl ⟨by kernel_rfl, by intro W hW; go_simp⟩) hHeld ?_
  refine wpAnyH_take (i := 22) (oi := ⟨some 104, .move (.tmp 20), _, _, _, some (20, false)⟩) (v := .slice (some ⟨b2, o2, none⟩) 40 c2) rfl (by kernel_rfl) (by kernel_rfl) (by kernel_rfl) (fun _ _ _ h => h) (Or.inl ⟨by kernel_rfl, by intro W hW; go_simp⟩) hHeld ?_
  refine wpAnyH_take (i := 24) (oi := ⟨some 106, .load 23 (.tmp 4), _, _, _, some (20, false)⟩) (v := .agg f.cs) rfl (by kernel_rfl) (by kernel_rfl) (by kernel_rfl) (fun _ _ _ h => h) (Or.inl ⟨by kernel_rfl, fun W hW => exec_load rfl (by kernel_rfl) hW.1⟩) hHeld ?_
  refine wpAnyH_take (i := 25) (oi := ⟨some 107, .load 23 (.tmp 5), _, _, _, some (20, false)⟩) (v := .agg g.cs) rfl (by kernel_rfl) (by kernel_rfl) (by kernel_rfl) (fun _ _ _ h => h) (Or.inl ⟨by kernel_rfl, fun W hW => exec_load rfl (by kernel_rfl) hW.2⟩) hHeld ?_
  refine wpAnyH_take (i := 26) (oi := ⟨some 108, .binOp .eql 23 (.tmp 106) (.tmp 107) 23, _, _, _, some (20, false)⟩) (v := .bool p) rfl (by kernel_rfl) (by kernel_rfl) (by kernel_rfl) (fun _ _ _ h => h) (Or.inl ⟨by kernel_rfl, fun W hW => exec_binF rfl (by kernel_rfl) (by kernel_rfl) (by simp [eqGuard]) (HEQ.out W)⟩) hHeld ?_
  refine wpAnyH_ready (rs := [23]) (by kernel_rfl) (by simp) ?_
  refine AllReadyH.cons (o := ⟨some 105, .call { callee := .value (.func 14), args := #[.tmp 103, .tmp 104], argTypes := #[24, 24] }, _, _, _, some (20, false)⟩) rfl ?_ AllReadyH.nil
  intro K hK
  with_reducible refine step_callGF ?_ 14 #[.slice (some ⟨b, o, none⟩) 40 c, .slice (some ⟨b2, o2, none⟩) 40 c2] ?_ ?_
  · kernel_rfl
  · kernel_rfl
  refine (HSB.out _ b o c b2 o2 c2 (HXB.out.below HDW.out) hc40 (HXG.out.below HDW.out) hc2).mono ?_
  rintro e wf ⟨rfl, hw⟩
  have hw2 := hw.symm
  subst hw2
  refine ⟨_, rfl, hK.out _ _ (HSF.out _ HDW.out) (fun hHeld => ?_)⟩
  clear hK K
  refine wpAnyH_take (i := 27) (oi := ⟨some 109, .binOp .eql 4 (.tmp 105) (.tmp 108) 4, _, _, _, some (20, false)⟩) (v := .bool true) rfl (by kernel_rfl) (by kernel_rfl) (by kernel_rfl) (fun _ _ _ h => h) (Or.inl ⟨by kernel_rfl, by intro W hW; go_simp⟩) hHeld ?_
  refine wpAnyH_take (i := 28) (oi := ⟨some 110, .pick (.tmp 102) (.const (.bool true)) (.tmp 109), _, _, _, some (17, true)⟩) (v := .bool true) rfl (by kernel_rfl) (by kernel_rfl) (by kernel_rfl) (fun _ _ _ h => h) (Or.inl ⟨by kernel_rfl, by intro W hW; go_simp⟩) hHeld ?_
  refine wpAnyH_take (i := 29) (oi := ⟨some 111, .pick (.tmp 99) (.tmp 110) (.const (.bool false)), _, _, _, none⟩) (v := .bool true) rfl (by kernel_rfl) (by kernel_rfl) (by kernel_rfl) (fun _ _ _ h => h) (Or.inl ⟨by kernel_rfl, by intro W hW; go_simp⟩) hHeld ?_
  refine wpAnyH_take (i := 30) (oi := ⟨some 8, .assign (.tmp 111), _, _, _, none⟩) (v := .bool true) rfl (by kernel_rfl) (by kernel_rfl) (by kernel_rfl) (fun _ _ _ h => h) (Or.inl ⟨by kernel_rfl, by intro W hW; go_simp⟩) hHeld ?_
  refine wpAnyH_done (by kernel_rfl) ?_ _
  simp only [Act.put, List.setIfInBounds_toArray, List.set_cons_zero, List.set_cons_succ]
  go_wp2
  go_ret
  exact ⟨rfl, below_on HB.out HDW.out⟩
set_option linter.unusedVariables false in
set_option maxRecDepth 100000 in
set_option maxHeartbeats 8000000 in
theorem formatBack_nn (hF : FmC) (f g : FmV) (hf : f.wf) (hg : g.wf) (hok : okFm f = true) (hgk : okFm g = false) (at_ : Int) (mask : Nat) (hm : mask < 256) (X T : List Nat) (hX : fmB f = X) (hT : X.set (pkN at_ 40) (X.getD (pkN at_ 40) 0 ^^^ mask) = T) (m0 : mask ≠ 0) (hr : rdFe T ≠ 0) (w : World) : Calls Try.prog 5 #[.agg f.cs, .agg g.cs, .int .i64 at_, .int .u8 (mask : Int)] w fun e w' => e = .returned (.bool true) ∧ Below w.heap.size w w' := by
  have HAW := hid (fun W => awake14_any hF W)
  have hxl : X.length = 40 := by rw [← hX]; exact fmB_len f
  have hx8 : ∀ z ∈ X, z < 256 := by rw [← hX]; exact fmB_lt hok
  have hpk := pkN_lt at_ 40 (by omega)
  have hk8 : X.getD (pkN at_ 40) 0 < 256 := get256 hx8 _ (by omega)
  have htl : T.length = 40 := by rw [← hT, List.length_set]; exact hxl
  have ht8 : ∀ z ∈ T, z < 256 := fun z hz => by
    rw [← hT] at hz
    rcases List.mem_or_eq_of_mem_set hz with h | rfl
    · exact hx8 z h
    · exact Nat.xor_lt_two_pow (n := 8) hk8 hm
  have HBY := hid (fun W => (hF.bytes f W hf).mono (R' := fun e w' => ∃ b o c, e = .returned (.tuple #[.slice (some ⟨b, o, none⟩) 40 c, .int .i64 0]) ∧ 40 ≤ c ∧ BL w' (some ⟨b, o, none⟩) X ∧ Below W.heap.size W w') (fun e w' h => by
    rcases h with ⟨_, po, c, h1, h2, h4, h3⟩ | ⟨h, _⟩
    · rw [hX] at h2
      rcases h2.bl with hb | ⟨b, o, e2, hb⟩
      · rw [hb] at hxl; cases hxl
      · subst e2; exact ⟨b, o, c, h1, by have := h2.cap; omega, .inr ⟨b, o, rfl, hb⟩, h3⟩
    · rw [hok] at h; cases h))
  have HRX := hid (fun W b o c (h : BL W (some ⟨b, o, none⟩) X) (hc : 40 ≤ c) => (hF.read (some ⟨b, o, none⟩) c X W h (by omega) (by omega) (fun e => by cases e) hx8).mono (R' := fun e w' => e = .returned (.tuple #[.agg f.cs, .int .i64 0]) ∧ Below W.heap.size W w') (fun e w' h => by
    obtain ⟨h1, h2⟩ := h
    rw [← hX, (rd_fmB hok).1, (rd_fmB hok).2] at h1
    exact ⟨h1, h2⟩))
  have HRT := hid (fun W b o c (h : BL W (some ⟨b, o, none⟩) T) (hc : 40 ≤ c) => (hF.read (some ⟨b, o, none⟩) c T W h (by omega) (by omega) (fun e => by cases e) ht8).mono (R' := fun e w' => e = .returned (.tuple #[.agg (rdFv T).cs, .int .i64 (rdFe T : Int)]) ∧ Below W.heap.size W w') (fun e w' h => h))
  have HRP := hid (fun W b o c (h : BL W (some ⟨b, o, none⟩) X) (hc : 40 ≤ c) => (hF.read (some ⟨b, o, none⟩) c (X.take (pkN at_ 40)) W (h.take _) (by rw [List.length_take]; omega) (by rw [List.length_take]; omega) (fun e => by cases e) (fun z hz => hx8 z (List.mem_of_mem_take hz))).mono (R' := fun e w' => e = .returned (.tuple #[.agg zF.cs, .int .i64 4]) ∧ Below W.heap.size W w') (fun e w' h => by
    obtain ⟨h1, h2⟩ := h
    have e4 : rdFe (X.take (pkN at_ 40)) = 4 := rd_len (by rw [List.length_take]; omega)
    unfold rdFv at h1
    rw [e4, if_neg (by decide)] at h1
    exact ⟨h1, h2⟩))
  rw [show (X.take (pkN at_ 40)).length = pkN at_ 40 by rw [List.length_take]; omega] at HRP
  rw [hxl] at HRX
  rw [htl] at HRT
  have HCP := hid (fun W b o c (h : BL W (some ⟨b, o, none⟩) X) (hc : 40 ≤ c) => copyB_any (w := W) (v := .slice (some ⟨b, o, none⟩) 40 c) (x := X) ⟨_, _, by rw [hxl], h, by omega⟩ (by omega) (fun n c e => by cases e))
  have HPK : Hid (∀ W, Calls Try.prog 25 #[.int .i64 at_, .int .i64 40] W fun e w' => e = .returned (.int .i64 (pkN at_ 40 : Int)) ∧ w' = W) := hid (fun W => pick_any at_ 40 W (by omega) (by omega))
  have hxor : bits .xor .u8 ((X.getD (pkN at_ 40) 0 : Nat) : Int) (mask : Int) = ((X.getD (pkN at_ 40) 0 ^^^ mask : Nat) : Int) := u8_xor_nat _ _ hk8 hm
  have HNE := hid (fun W => neqF f f W)
  rw [show decide (f = f) = true by simp] at HNE
  have HBG := hid (fun W => (hF.bytes g W hg).mono (R' := fun e w' => e = .returned (.tuple #[.slice none 0 0, .int .i64 2]) ∧ Below W.heap.size W w') (fun e w' h => by
    rcases h with ⟨h, _⟩ | ⟨_, h⟩
    · rw [hgk] at h; cases h
    · exact h))
  have hm0 : ((mask : Int) == 0) = false := beq_eq_false_iff_ne.2 (by omega)
  have her : ((rdFe T : Int) == 0) = false := beq_eq_false_iff_ne.2 (by omega)
  have hern : ¬ rdFe T = 0 := hr
  generalize rdFe T = er at *
  obtain ⟨i, hi⟩ : ∃ i, pkN at_ 40 = i := ⟨_, rfl⟩
  obtain ⟨xi, hxi⟩ : ∃ xi, X.getD i 0 = xi := ⟨_, rfl⟩
  obtain ⟨kk, hkk⟩ : ∃ kk, xi ^^^ mask = kk := ⟨_, rfl⟩
  rw [hi] at HPK HRP hpk hT hxor
  rw [hxi, hkk] at hT hxor
  have HTT := hid hT
  have HXI := hid hxi
  have HXL := hid hxl
  have hi40 : (i : Int) < 40 := by omega
  generalize rdFv T = yT at *
  have TA : Hid True := hid trivial
  have TB : Hid True := hid trivial
  have TC : Hid True := hid trivial
  have TD : Hid True := hid trivial
  have TE : Hid True := hid trivial
  have TF : Hid True := hid trivial
  have TG : Hid True := hid trivial
  have TH : Hid True := hid trivial
  have TI : Hid True := hid trivial
  clear hF hf hg hok hgk hX hT hxl hx8 hk8 htl ht8 hm hxi hkk hi hpk m0 hr
  go_enter Try.func5, Try.ntmps5
  go_upto_region 14 with (first
    | (clear TA; (with_reducible refine wpList_boxT 23 rfl _ rfl f.cs ?_ ?_); exact rfl; intro w1 g4 hc1 hb1 hg1; have HX4 := hid (show FmAt w1 g4 0 f from fun j u hu => by rw [Nat.zero_add, hc1.cell]; exact hu); have HB := hid hb1; clear hc1 hb1 hg1)
    | (clear TB; (with_reducible refine wpList_boxT 23 rfl _ rfl g.cs ?_ ?_); exact rfl; intro w2 g5 hc1 hb1 hg1; have HX5 := hid (show FmAt w2 g5 0 g from fun j u hu => by rw [Nat.zero_add, hc1.cell]; exact hu); replace HX4 := hid (HX4.out.below hb1); replace HB := hid (below_on HB.out hb1); clear hc1 hb1 hg1)
    | (go_at_call 18; refine (HAW.out _).mono ?_; rintro e w3 ⟨rfl, hb3⟩; replace HX4 := hid (HX4.out.below hb3); replace HX5 := hid (HX5.out.below hb3); replace HB := hid (below_on HB.out hb3); clear hb3)
    | ((with_reducible refine wpList_loadW 23 _ rfl ?_ (.pointer (some ⟨g4, 0, none⟩)) (.agg f.cs) ?_ HX4.out.load ?_); kernel_rfl; exact rfl)
    | ((with_reducible refine wpList_loadW 23 _ rfl ?_ (.pointer (some ⟨g5, 0, none⟩)) (.agg g.cs) ?_ HX5.out.load ?_); kernel_rfl; exact rfl)
    | (clear TC; go_at_call 10; refine (HBY.out _).mono ?_; rintro e w4 ⟨b, o, c, rfl, hc40, hx4, hb4⟩; have HXB := hid hx4; have hci : (i : Int) ≤ (c : Int) := (by omega); replace HX4 := hid (HX4.out.below hb4); replace HX5 := hid (HX5.out.below hb4); replace HB := hid (below_on HB.out hb4); have hsp := run_head8n (some ⟨b, o, none⟩) 40 c i (by omega); clear hx4 hb4)
    | (clear TD; go_at_call 11; refine (HRX.out _ b o c HXB.out hc40).mono ?_; rintro e w5 ⟨rfl, hb5⟩; replace HX4 := hid (HX4.out.below hb5); replace HX5 := hid (HX5.out.below hb5); replace HXB := hid (HXB.out.below hb5); replace HB := hid (below_on HB.out hb5); clear hb5)
    | ((with_reducible refine wpList_allocF rfl rfl ?_); intro wA gA hzA hbA hgA; have HZA := hid hzA; have HBA := hid hbA; have HGA := hid hgA; clear hzA hbA hgA)
    | (clear TI; (with_reducible refine wpList_storeF rfl rfl _ _ rfl gA ?_ (f := f) ?_ HZA.out ?_); exact rfl; exact rfl; intro wS hS oS; have hbS := below_tr HBA.out (oS.below HBA.out.size (fun i e => by have := HGA.out; omega)); replace HX4 := hid (HX4.out.below hbS); replace HX5 := hid (HX5.out.below hbS); replace HXB := hid (HXB.out.below hbS); replace HB := hid (below_on HB.out hbS); have HY := hid (show FmAt wS gA 0 f from fun j u hu => by rw [Nat.zero_add, hS.cell]; exact hu); obtain ⟨gj, hgj⟩ : ∃ g, g = gA := ⟨gA, rfl⟩; subst hgj; clear hS oS hbS HZA HBA HGA)
    | ((with_reducible refine wpList_loadW 23 _ rfl ?_ (.pointer (some ⟨gj, 0, none⟩)) (.agg f.cs) ?_ HY.out.load ?_); kernel_rfl; exact rfl)
    | ((with_reducible refine wpList_binW .neq 23 _ _ _ (.agg f.cs) (.agg f.cs) (.bool false) rfl ?_ ?_ ?_ ?_ (HNE.out _) ?_); kernel_rfl; exact rfl; exact rfl; simp [eqGuard])
    | (go_at_call 24; (with_reducible refine (HCP.out _ b o c HXB.out hc40).mono ?_); rintro e w9 ⟨v9, rfl, hb9, hw9⟩; obtain ⟨pt, ct, hvt⟩ := hb9.form; subst hvt; have hct := hb9.cap.2; rw [HXL.out] at hct hb9; obtain ⟨gt, hgt0, hgB, cb9, fb9, hset⟩ := hb9.set (i := i) (by have := HXL.out; omega) kk; subst hgt0; rw [HXI.out] at cb9; replace cb9 : w9.cell? ⟨gt, i, none⟩ = some (.int .u8 (xi : Int)) := cb9; rw [HTT.out] at hset; have HTB := hid hset.bl; rw [HXL.out]; have hsz := hw9.size; have hbS := below_tr hw9 ((Only.set (S := fun b => b = gt) w9 ⟨gt, i, none⟩ (u8 kk) rfl).below hsz (fun j e => by omega)); have hti : (i : Int) < (ct : Int) := (by omega); replace HX4 := hid (HX4.out.below hbS); replace HX5 := hid (HX5.out.below hbS); replace HXB := hid (HXB.out.below hbS); replace HB := hid (below_on HB.out hbS); have HCT := hid hct; generalize hW9 : w9.setCell ⟨gt, i, none⟩ (u8 kk) = w10 at *; have HW9 : Hid (w9.setCell ⟨gt, i, none⟩ (.int .u8 (kk : Int)) = w10) := hid hW9; clear hset hb9 hw9 hgB hsz hbS hW9)
    | (go_at_call 25; (with_reducible refine (HPK.out _).mono ?_); rintro e w11 ⟨rfl, rfl⟩)
    | (clear TE; go_at_call 11; rw [HW9.out]; refine (HRT.out _ gt 0 ct HTB.out HCT.out).mono ?_; rintro e w12 ⟨rfl, hb5⟩; replace HX4 := hid (HX4.out.below hb5); replace HX5 := hid (HX5.out.below hb5); replace HXB := hid (HXB.out.below hb5); replace HTB := hid (HTB.out.below hb5); replace HB := hid (below_on HB.out hb5); clear hb5)
    | (clear TF; (with_reducible refine wpList_storeF rfl rfl _ _ rfl gA ?_ (f := yT) ?_ HZA.out ?_); exact rfl; exact rfl; intro wS hS oS; have hbS := below_tr HBA.out (oS.below HBA.out.size (fun i e => by have := HGA.out; omega)); replace HX4 := hid (HX4.out.below hbS); replace HX5 := hid (HX5.out.below hbS); replace HXB := hid (HXB.out.below hbS); replace HTB := hid (HTB.out.below hbS); replace HB := hid (below_on HB.out hbS); clear hS oS hbS HZA HBA HGA)
    | (clear TG; go_at_call 11; refine (HRP.out _ b o c HXB.out hc40).mono ?_; rintro e w13 ⟨rfl, hb5⟩; replace HX4 := hid (HX4.out.below hb5); replace HX5 := hid (HX5.out.below hb5); replace HXB := hid (HXB.out.below hb5); replace HTB := hid (HTB.out.below hb5); replace HB := hid (below_on HB.out hb5); clear hb5)
    | (clear TH; (with_reducible refine wpList_storeF rfl rfl _ _ rfl gA ?_ (f := zF) ?_ HZA.out ?_); exact rfl; exact rfl; intro wS hS oS; have hbS := below_tr HBA.out (oS.below HBA.out.size (fun i e => by have := HGA.out; omega)); replace HX4 := hid (HX4.out.below hbS); replace HX5 := hid (HX5.out.below hbS); replace HXB := hid (HXB.out.below hbS); replace HTB := hid (HTB.out.below hbS); replace HB := hid (below_on HB.out hbS); clear hS oS hbS HZA HBA HGA)
    | (go_at_call 10; refine (HBG.out _).mono ?_; rintro e w14 ⟨rfl, hb5⟩; replace HX4 := hid (HX4.out.below hb5); replace HX5 := hid (HX5.out.below hb5); replace HXB := hid (HXB.out.below hb5); replace HTB := hid (HTB.out.below hb5); replace HB := hid (below_on HB.out hb5); clear hb5))
  have HSF : Hid (∀ W, Below w14.heap.size w14 W → (fun W => (Instr.loadAt 23 (ptr g4)).run Try.prog W = .ok (.agg f.cs) W ∧ (Instr.loadAt 23 (ptr g5)).run Try.prog W = .ok (.agg g.cs) W) W) := hid (fun W hW => ⟨(HX4.out.below hW).load, (HX5.out.below hW).load⟩)
  have HDW := hid (below_drew w14)
  refine wp_region_held_drew (S := (fun W => (Instr.loadAt 23 (ptr g4)).run Try.prog W = .ok (.agg f.cs) W ∧ (Instr.loadAt 23 (ptr g5)).run Try.prog W = .ok (.agg g.cs) W)) (by kernel_rfl) (HSF.out _ HDW.out) (fun hHeld => ?_)
  generalize w14.drew = wd at *
  refine wpAnyH_take (i := 0) (oi := ⟨some 82, .move (.tmp 9), _, _, _, none⟩) (v := .bool true) rfl (by kernel_rfl) (by kernel_rfl) (by kernel_rfl) (fun _ _ _ h => h) (Or.inl ⟨by kernel_rfl, by intro W hW; go_simp⟩) hHeld ?_
  refine wpAnyH_take (i := 1) (oi := ⟨some 83, .move (.tmp 82), _, _, _, none⟩) (v := .bool true) rfl (by kernel_rfl) (by kernel_rfl) (by kernel_rfl) (fun _ _ _ h => h) (Or.inl ⟨by kernel_rfl, by intro W hW; go_simp⟩) hHeld ?_
  refine wpAnyH_take (i := 2) (oi := ⟨some 84, .move (.tmp 3), _, _, _, some (1, true)⟩) (v := .int .u8 (mask : Int)) rfl (by kernel_rfl) (by kernel_rfl) (by kernel_rfl) (fun _ _ _ h => h) (Or.inl ⟨by kernel_rfl, by intro W hW; go_simp⟩) hHeld ?_
  refine wpAnyH_take (i := 3) (oi := ⟨some 85, .binOp .eql 5 (.tmp 84) (.const (.int .u8 0)) 5, _, _, _, some (1, true)⟩) (v := .bool false) rfl (by kernel_rfl) (by kernel_rfl) (by kernel_rfl) (fun _ _ _ h => h) (Or.inl ⟨by kernel_rfl, by intro W hW; go_simp⟩) hHeld ?_
  refine wpAnyH_take (i := 4) (oi := ⟨some 86, .move (.tmp 85), _, _, _, some (1, true)⟩) (v := .bool false) rfl (by kernel_rfl) (by kernel_rfl) (by kernel_rfl) (fun _ _ _ h => h) (Or.inl ⟨by kernel_rfl, by intro W hW; go_simp⟩) hHeld ?_
  refine wpAnyH_take (i := 5) (oi := ⟨some 87, .move (.tmp 17), _, _, _, some (4, false)⟩) (v := .int .i64 (er : Int)) rfl (by kernel_rfl) (by kernel_rfl) (by kernel_rfl) (fun _ _ _ h => h) (Or.inl ⟨by kernel_rfl, by intro W hW; go_simp⟩) hHeld ?_
  refine wpAnyH_take (i := 6) (oi := ⟨some 88, .binOp .neq 26 (.tmp 87) (.const (.int .i64 0)) 26, _, _, _, some (4, false)⟩) (v := .bool true) rfl (by kernel_rfl) (by kernel_rfl) (by kernel_rfl) (fun _ _ _ h => h) (Or.inl ⟨by kernel_rfl, by intro W hW; go_simp⟩) hHeld ?_
  refine wpAnyH_take (i := 7) (oi := ⟨some 89, .pick (.tmp 86) (.const (.bool true)) (.tmp 88), _, _, _, some (1, true)⟩) (v := .bool true) rfl (by kernel_rfl) (by kernel_rfl) (by kernel_rfl) (fun _ _ _ h => h) (Or.inl ⟨by kernel_rfl, by intro W hW; go_simp⟩) hHeld ?_
  refine wpAnyH_take (i := 8) (oi := ⟨some 90, .move (.tmp 89), _, _, _, some (1, true)⟩) (v := .bool true) rfl (by kernel_rfl) (by kernel_rfl) (by kernel_rfl) (fun _ _ _ h => h) (Or.inl ⟨by kernel_rfl, by intro W hW; go_simp⟩) hHeld ?_
  refine wpAnyH_take (i := 9) (oi := ⟨some 91, .move (.tmp 14), _, _, _, some (8, false)⟩) (v := undef) rfl (by kernel_rfl) (by kernel_rfl) (by kernel_rfl) (fun _ _ _ h => h) (Or.inr ⟨by kernel_rfl, rfl⟩) hHeld ?_
  refine wpAnyH_take (i := 10) (oi := ⟨some 92, .call { callee := .value (.func 26), args := #[.tmp 91], argTypes := #[24] }, _, _, _, some (8, false)⟩) (v := undef) rfl (by kernel_rfl) (by kernel_rfl) (by kernel_rfl) (fun _ _ _ h => h) (Or.inr ⟨by kernel_rfl, rfl⟩) hHeld ?_
  refine wpAnyH_take (i := 11) (oi := ⟨some 93, .pick (.tmp 90) (.const (.bool true)) (.tmp 92), _, _, _, some (1, true)⟩) (v := .bool true) rfl (by kernel_rfl) (by kernel_rfl) (by kernel_rfl) (fun _ _ _ h => h) (Or.inl ⟨by kernel_rfl, by intro W hW; go_simp⟩) hHeld ?_
  refine wpAnyH_take (i := 12) (oi := ⟨some 94, .pick (.tmp 83) (.tmp 93) (.const (.bool false)), _, _, _, none⟩) (v := .bool true) rfl (by kernel_rfl) (by kernel_rfl) (by kernel_rfl) (fun _ _ _ h => h) (Or.inl ⟨by kernel_rfl, by intro W hW; go_simp⟩) hHeld ?_
  refine wpAnyH_take (i := 13) (oi := ⟨some 95, .move (.tmp 94), _, _, _, none⟩) (v := .bool true) rfl (by kernel_rfl) (by kernel_rfl) (by kernel_rfl) (fun _ _ _ h => h) (Or.inl ⟨by kernel_rfl, by intro W hW; go_simp⟩) hHeld ?_
  refine wpAnyH_take (i := 14) (oi := ⟨some 96, .move (.tmp 19), _, _, _, some (13, true)⟩) (v := .int .i64 4) rfl (by kernel_rfl) (by kernel_rfl) (by kernel_rfl) (fun _ _ _ h => h) (Or.inl ⟨by kernel_rfl, by intro W hW; go_simp⟩) hHeld ?_
  refine wpAnyH_take (i := 15) (oi := ⟨some 97, .binOp .eql 26 (.tmp 96) (.const (.int .i64 4)) 26, _, _, _, some (13, true)⟩) (v := .bool true) rfl (by kernel_rfl) (by kernel_rfl) (by kernel_rfl) (fun _ _ _ h => h) (Or.inl ⟨by kernel_rfl, by intro W hW; go_simp⟩) hHeld ?_
  refine wpAnyH_take (i := 16) (oi := ⟨some 98, .pick (.tmp 95) (.tmp 97) (.const (.bool false)), _, _, _, none⟩) (v := .bool true) rfl (by kernel_rfl) (by kernel_rfl) (by kernel_rfl) (fun _ _ _ h => h) (Or.inl ⟨by kernel_rfl, by intro W hW; go_simp⟩) hHeld ?_
  refine wpAnyH_take (i := 17) (oi := ⟨some 99, .move (.tmp 98), _, _, _, none⟩) (v := .bool true) rfl (by kernel_rfl) (by kernel_rfl) (by kernel_rfl) (fun _ _ _ h => h) (Or.inl ⟨by kernel_rfl, by intro W hW; go_simp⟩) hHeld ?_
  refine wpAnyH_take (i := 18) (oi := ⟨some 100, .move (.tmp 21), _, _, _, some (17, true)⟩) (v := .int .i64 2) rfl (by kernel_rfl) (by kernel_rfl) (by kernel_rfl) (fun _ _ _ h => h) (Or.inl ⟨by kernel_rfl, by intro W hW; go_simp⟩) hHeld ?_
  refine wpAnyH_take (i := 19) (oi := ⟨some 101, .binOp .neq 26 (.tmp 100) (.const (.int .i64 0)) 26, _, _, _, some (17, true)⟩) (v := .bool true) rfl (by kernel_rfl) (by kernel_rfl) (by kernel_rfl) (fun _ _ _ h => h) (Or.inl ⟨by kernel_rfl, by intro W hW; go_simp⟩) hHeld ?_
  refine wpAnyH_take (i := 20) (oi := ⟨some 102, .move (.tmp 101), _, _, _, some (17, true)⟩) (v := .bool true) rfl (by kernel_rfl) (by kernel_rfl) (by kernel_rfl) (fun _ _ _ h => h) (Or.inl ⟨by kernel_rfl, by intro W hW; go_simp⟩) hHeld ?_
  refine wpAnyH_take (i := 21) (oi := ⟨some 103, .move (.tmp 10), _, _, _, some (20, false)⟩) (v := undef) rfl (by kernel_rfl) (by kernel_rfl) (by kernel_rfl) (fun _ _ _ h => h) (Or.inr ⟨by kernel_rfl, rfl⟩) hHeld ?_
  refine wpAnyH_take (i := 22) (oi := ⟨some 104, .move (.tmp 20), _, _, _, some (20, false)⟩) (v := undef) rfl (by kernel_rfl) (by kernel_rfl) (by kernel_rfl) (fun _ _ _ h => h) (Or.inr ⟨by kernel_rfl, rfl⟩) hHeld ?_
  refine wpAnyH_take (i := 23) (oi := ⟨some 105, .call { callee := .value (.func 14), args := #[.tmp 103, .tmp 104], argTypes := #[24, 24] }, _, _, _, some (20, false)⟩) (v := undef) rfl (by kernel_rfl) (by kernel_rfl) (by kernel_rfl) (fun _ _ _ h => h) (Or.inr ⟨by kernel_rfl, rfl⟩) hHeld ?_
  refine wpAnyH_take (i := 24) (oi := ⟨some 106, .load 23 (.tmp 4), _, _, _, some (20, false)⟩) (v := undef) rfl (by kernel_rfl) (by kernel_rfl) (by kernel_rfl) (fun _ _ _ h => h) (Or.inr ⟨by kernel_rfl, rfl⟩) hHeld ?_
  refine wpAnyH_take (i := 25) (oi := ⟨some 107, .load 23 (.tmp 5), _, _, _, some (20, false)⟩) (v := undef) rfl (by kernel_rfl) (by kernel_rfl) (by kernel_rfl) (fun _ _ _ h => h) (Or.inr ⟨by kernel_rfl, rfl⟩) hHeld ?_
  refine wpAnyH_take (i := 26) (oi := ⟨some 108, .binOp .eql 23 (.tmp 106) (.tmp 107) 23, _, _, _, some (20, false)⟩) (v := undef) rfl (by kernel_rfl) (by kernel_rfl) (by kernel_rfl) (fun _ _ _ h => h) (Or.inr ⟨by kernel_rfl, rfl⟩) hHeld ?_
  refine wpAnyH_take (i := 27) (oi := ⟨some 109, .binOp .eql 4 (.tmp 105) (.tmp 108) 4, _, _, _, some (20, false)⟩) (v := undef) rfl (by kernel_rfl) (by kernel_rfl) (by kernel_rfl) (fun _ _ _ h => h) (Or.inr ⟨by kernel_rfl, rfl⟩) hHeld ?_
  refine wpAnyH_take (i := 28) (oi := ⟨some 110, .pick (.tmp 102) (.const (.bool true)) (.tmp 109), _, _, _, some (17, true)⟩) (v := .bool true) rfl (by kernel_rfl) (by kernel_rfl) (by kernel_rfl) (fun _ _ _ h => h) (Or.inl ⟨by kernel_rfl, by intro W hW; go_simp⟩) hHeld ?_
  refine wpAnyH_take (i := 29) (oi := ⟨some 111, .pick (.tmp 99) (.tmp 110) (.const (.bool false)), _, _, _, none⟩) (v := .bool true) rfl (by kernel_rfl) (by kernel_rfl) (by kernel_rfl) (fun _ _ _ h => h) (Or.inl ⟨by kernel_rfl, by intro W hW; go_simp⟩) hHeld ?_
  refine wpAnyH_take (i := 30) (oi := ⟨some 8, .assign (.tmp 111), _, _, _, none⟩) (v := .bool true) rfl (by kernel_rfl) (by kernel_rfl) (by kernel_rfl) (fun _ _ _ h => h) (Or.inl ⟨by kernel_rfl, by intro W hW; go_simp⟩) hHeld ?_
  refine wpAnyH_done (by kernel_rfl) ?_ _
  simp only [Act.put, List.setIfInBounds_toArray, List.set_cons_zero, List.set_cons_succ]
  go_wp2
  go_ret
  exact ⟨rfl, below_on HB.out HDW.out⟩
end Go.Proofs.Ytfniojnklhjgbaa

/- FormatBack over package format's contracts: a byte turned, read all the same. (Written by tools/gen_Fm14.py.) -/
namespace Go.Proofs.Ytfniojnklhjgbaa
open Go Go.RowKit

set_option linter.unusedVariables false in
set_option maxRecDepth 100000 in
set_option maxHeartbeats 8000000 in
theorem formatBack_sk (hF : FmC) (f g : FmV) (hf : f.wf) (hg : g.wf) (hok : okFm f = true) (hgk : okFm g = true) (at_ : Int) (mask : Nat) (hm : mask < 256) (X T : List Nat) (hX : fmB f = X) (hT : X.set (pkN at_ 40) (X.getD (pkN at_ 40) 0 ^^^ mask) = T) (m0 : mask ≠ 0) (hr : rdFe T = 0) (w : World) : Calls Try.prog 5 #[.agg f.cs, .agg g.cs, .int .i64 at_, .int .u8 (mask : Int)] w fun e w' => e = .returned (.bool true) ∧ Below w.heap.size w w' := by
  have HAW := hid (fun W => awake14_any hF W)
  have hxl : X.length = 40 := by rw [← hX]; exact fmB_len f
  have hx8 : ∀ z ∈ X, z < 256 := by rw [← hX]; exact fmB_lt hok
  have hpk := pkN_lt at_ 40 (by omega)
  have hk8 : X.getD (pkN at_ 40) 0 < 256 := get256 hx8 _ (by omega)
  have htl : T.length = 40 := by rw [← hT, List.length_set]; exact hxl
  have ht8 : ∀ z ∈ T, z < 256 := fun z hz => by
    rw [← hT] at hz
    rcases List.mem_or_eq_of_mem_set hz with h | rfl
    · exact hx8 z h
    · exact Nat.xor_lt_two_pow (n := 8) hk8 hm
  have HBY := hid (fun W => (hF.bytes f W hf).mono (R' := fun e w' => ∃ b o c, e = .returned (.tuple #[.slice (some ⟨b, o, none⟩) 40 c, .int .i64 0]) ∧ 40 ≤ c ∧ BL w' (some ⟨b, o, none⟩) X ∧ Below W.heap.size W w') (fun e w' h => by
    rcases h with ⟨_, po, c, h1, h2, h4, h3⟩ | ⟨h, _⟩
    · rw [hX] at h2
      rcases h2.bl with hb | ⟨b, o, e2, hb⟩
      · rw [hb] at hxl; cases hxl
      · subst e2; exact ⟨b, o, c, h1, by have := h2.cap; omega, .inr ⟨b, o, rfl, hb⟩, h3⟩
    · rw [hok] at h; cases h))
  have HRX := hid (fun W b o c (h : BL W (some ⟨b, o, none⟩) X) (hc : 40 ≤ c) => (hF.read (some ⟨b, o, none⟩) c X W h (by omega) (by omega) (fun e => by cases e) hx8).mono (R' := fun e w' => e = .returned (.tuple #[.agg f.cs, .int .i64 0]) ∧ Below W.heap.size W w') (fun e w' h => by
    obtain ⟨h1, h2⟩ := h
    rw [← hX, (rd_fmB hok).1, (rd_fmB hok).2] at h1
    exact ⟨h1, h2⟩))
  have HRT := hid (fun W b o c (h : BL W (some ⟨b, o, none⟩) T) (hc : 40 ≤ c) => (hF.read (some ⟨b, o, none⟩) c T W h (by omega) (by omega) (fun e => by cases e) ht8).mono (R' := fun e w' => e = .returned (.tuple #[.agg (rdFv T).cs, .int .i64 (rdFe T : Int)]) ∧ Below W.heap.size W w') (fun e w' h => h))
  have HRP := hid (fun W b o c (h : BL W (some ⟨b, o, none⟩) X) (hc : 40 ≤ c) => (hF.read (some ⟨b, o, none⟩) c (X.take (pkN at_ 40)) W (h.take _) (by rw [List.length_take]; omega) (by rw [List.length_take]; omega) (fun e => by cases e) (fun z hz => hx8 z (List.mem_of_mem_take hz))).mono (R' := fun e w' => e = .returned (.tuple #[.agg zF.cs, .int .i64 4]) ∧ Below W.heap.size W w') (fun e w' h => by
    obtain ⟨h1, h2⟩ := h
    have e4 : rdFe (X.take (pkN at_ 40)) = 4 := rd_len (by rw [List.length_take]; omega)
    unfold rdFv at h1
    rw [e4, if_neg (by decide)] at h1
    exact ⟨h1, h2⟩))
  rw [show (X.take (pkN at_ 40)).length = pkN at_ 40 by rw [List.length_take]; omega] at HRP
  rw [hxl] at HRX
  rw [htl] at HRT
  have HCP := hid (fun W b o c (h : BL W (some ⟨b, o, none⟩) X) (hc : 40 ≤ c) => copyB_any (w := W) (v := .slice (some ⟨b, o, none⟩) 40 c) (x := X) ⟨_, _, by rw [hxl], h, by omega⟩ (by omega) (fun n c e => by cases e))
  have HPK : Hid (∀ W, Calls Try.prog 25 #[.int .i64 at_, .int .i64 40] W fun e w' => e = .returned (.int .i64 (pkN at_ 40 : Int)) ∧ w' = W) := hid (fun W => pick_any at_ 40 W (by omega) (by omega))
  have hxor : bits .xor .u8 ((X.getD (pkN at_ 40) 0 : Nat) : Int) (mask : Int) = ((X.getD (pkN at_ 40) 0 ^^^ mask : Nat) : Int) := u8_xor_nat _ _ hk8 hm
  have HNE := hid (fun W => neqF f f W)
  rw [show decide (f = f) = true by simp] at HNE
  have HBG := hid (fun W => (hF.bytes g W hg).mono (R' := fun e w' => ∃ b o c, e = .returned (.tuple #[.slice (some ⟨b, o, none⟩) 40 c, .int .i64 0]) ∧ 40 ≤ c ∧ BL w' (some ⟨b, o, none⟩) (fmB g) ∧ Below W.heap.size W w') (fun e w' h => by
    rcases h with ⟨_, po, c, h1, h2, h4, h3⟩ | ⟨h, _⟩
    · rcases h2.bl with hb | ⟨b, o, e2, hb⟩
      · have := congrArg List.length hb; rw [fmB_len] at this; cases this
      · subst e2; exact ⟨b, o, c, h1, by have := h2.cap; rw [fmB_len] at this; omega, .inr ⟨b, o, rfl, hb⟩, h3⟩
    · rw [hgk] at h; cases h))
  have HEQ := hid (fun W => eqlF f g W)
  have HSB := hid (fun W b o c b2 o2 c2 (h1 : BL W (some ⟨b, o, none⟩) X) (hc : 40 ≤ c) (h2 : BL W (some ⟨b2, o2, none⟩) (fmB g)) (hc2 : 40 ≤ c2) => (sameB_any (w := W) (u := .slice (some ⟨b, o, none⟩) 40 c) (v := .slice (some ⟨b2, o2, none⟩) 40 c2) (x := X) (y := fmB g) ⟨_, _, by rw [hxl], h1, by omega⟩ ⟨_, _, by rw [fmB_len], h2, by rw [fmB_len]; omega⟩ hx8 (fmB_lt hgk)).mono (R' := fun e w' => e = .returned (.bool (decide (f = g))) ∧ w' = W) (fun e w' h => ⟨by rw [h.1]; congr 2; rw [← hX]; exact decide_eq_decide.2 (fmB_inj hok hgk), h.2⟩))
  obtain ⟨p, hp⟩ : ∃ p : Bool, decide (f = g) = p := ⟨_, rfl⟩
  rw [hp] at HEQ HSB
  have hpp : (p == p) = true := by simp
  have HSE := hid (fun W b o c (h : BL W (some ⟨b, o, none⟩) T) (hc : 40 ≤ c) => (sealed14_any (some ⟨b, o, none⟩) c T W h (by omega) (by omega) ht8).mono (R' := fun e w' => e = .returned (.bool true) ∧ Below W.heap.size W w') (fun e w' h => ⟨by rw [h.1, seal14 hr], h.2⟩))
  rw [htl] at HSE
  rw [hr] at HRT
  have hm0 : ((mask : Int) == 0) = false := beq_eq_false_iff_ne.2 (by omega)
  obtain ⟨i, hi⟩ : ∃ i, pkN at_ 40 = i := ⟨_, rfl⟩
  obtain ⟨xi, hxi⟩ : ∃ xi, X.getD i 0 = xi := ⟨_, rfl⟩
  obtain ⟨kk, hkk⟩ : ∃ kk, xi ^^^ mask = kk := ⟨_, rfl⟩
  rw [hi] at HPK HRP hpk hT hxor
  rw [hxi, hkk] at hT hxor
  have HTT := hid hT
  have HXI := hid hxi
  have HXL := hid hxl
  have hi40 : (i : Int) < 40 := by omega
  generalize rdFv T = yT at *
  have TA : Hid True := hid trivial
  have TB : Hid True := hid trivial
  have TC : Hid True := hid trivial
  have TD : Hid True := hid trivial
  have TE : Hid True := hid trivial
  have TF : Hid True := hid trivial
  have TG : Hid True := hid trivial
  have TH : Hid True := hid trivial
  have TI : Hid True := hid trivial
  clear hF hf hg hok hgk hX hT hxl hx8 hk8 htl ht8 hm hxi hkk hi hpk m0 hr
  go_enter Try.func5, Try.ntmps5
  go_upto_region 14 with (first
    | (clear TA; (with_reducible refine wpList_boxT 23 rfl _ rfl f.cs ?_ ?_); exact rfl; intro w1 g4 hc1 hb1 hg1; have HX4 := hid (show FmAt w1 g4 0 f from fun j u hu => by rw [Nat.zero_add, hc1.cell]; exact hu); have HB := hid hb1; clear hc1 hb1 hg1)
    | (clear TB; (with_reducible refine wpList_boxT 23 rfl _ rfl g.cs ?_ ?_); exact rfl; intro w2 g5 hc1 hb1 hg1; have HX5 := hid (show FmAt w2 g5 0 g from fun j u hu => by rw [Nat.zero_add, hc1.cell]; exact hu); replace HX4 := hid (HX4.out.below hb1); replace HB := hid (below_on HB.out hb1); clear hc1 hb1 hg1)
    | (go_at_call 18; refine (HAW.out _).mono ?_; rintro e w3 ⟨rfl, hb3⟩; replace HX4 := hid (HX4.out.below hb3); replace HX5 := hid (HX5.out.below hb3); replace HB := hid (below_on HB.out hb3); clear hb3)
    | ((with_reducible refine wpList_loadW 23 _ rfl ?_ (.pointer (some ⟨g4, 0, none⟩)) (.agg f.cs) ?_ HX4.out.load ?_); kernel_rfl; exact rfl)
    | ((with_reducible refine wpList_loadW 23 _ rfl ?_ (.pointer (some ⟨g5, 0, none⟩)) (.agg g.cs) ?_ HX5.out.load ?_); kernel_rfl; exact rfl)
    | (clear TC; go_at_call 10; refine (HBY.out _).mono ?_; rintro e w4 ⟨b, o, c, rfl, hc40, hx4, hb4⟩; have HXB := hid hx4; have hci : (i : Int) ≤ (c : Int) := (by omega); replace HX4 := hid (HX4.out.below hb4); replace HX5 := hid (HX5.out.below hb4); replace HB := hid (below_on HB.out hb4); have hsp := run_head8n (some ⟨b, o, none⟩) 40 c i (by omega); clear hx4 hb4)
    | (clear TD; go_at_call 11; refine (HRX.out _ b o c HXB.out hc40).mono ?_; rintro e w5 ⟨rfl, hb5⟩; replace HX4 := hid (HX4.out.below hb5); replace HX5 := hid (HX5.out.below hb5); replace HXB := hid (HXB.out.below hb5); replace HB := hid (below_on HB.out hb5); clear hb5)
    | ((with_reducible refine wpList_allocF rfl rfl ?_); intro wA gA hzA hbA hgA; have HZA := hid hzA; have HBA := hid hbA; have HGA := hid hgA; clear hzA hbA hgA)
    | (clear TI; (with_reducible refine wpList_storeF rfl rfl _ _ rfl gA ?_ (f := f) ?_ HZA.out ?_); exact rfl; exact rfl; intro wS hS oS; have hbS := below_tr HBA.out (oS.below HBA.out.size (fun i e => by have := HGA.out; omega)); replace HX4 := hid (HX4.out.below hbS); replace HX5 := hid (HX5.out.below hbS); replace HXB := hid (HXB.out.below hbS); replace HB := hid (below_on HB.out hbS); have HY := hid (show FmAt wS gA 0 f from fun j u hu => by rw [Nat.zero_add, hS.cell]; exact hu); obtain ⟨gj, hgj⟩ : ∃ g, g = gA := ⟨gA, rfl⟩; subst hgj; clear hS oS hbS HZA HBA HGA)
    | ((with_reducible refine wpList_loadW 23 _ rfl ?_ (.pointer (some ⟨gj, 0, none⟩)) (.agg f.cs) ?_ HY.out.load ?_); kernel_rfl; exact rfl)
    | ((with_reducible refine wpList_binW .neq 23 _ _ _ (.agg f.cs) (.agg f.cs) (.bool false) rfl ?_ ?_ ?_ ?_ (HNE.out _) ?_); kernel_rfl; exact rfl; exact rfl; simp [eqGuard])
    | (go_at_call 24; (with_reducible refine (HCP.out _ b o c HXB.out hc40).mono ?_); rintro e w9 ⟨v9, rfl, hb9, hw9⟩; obtain ⟨pt, ct, hvt⟩ := hb9.form; subst hvt; have hct := hb9.cap.2; rw [HXL.out] at hct hb9; obtain ⟨gt, hgt0, hgB, cb9, fb9, hset⟩ := hb9.set (i := i) (by have := HXL.out; omega) kk; subst hgt0; rw [HXI.out] at cb9; replace cb9 : w9.cell? ⟨gt, i, none⟩ = some (.int .u8 (xi : Int)) := cb9; rw [HTT.out] at hset; have HTB := hid hset.bl; rw [HXL.out]; have hsz := hw9.size; have hbS := below_tr hw9 ((Only.set (S := fun b => b = gt) w9 ⟨gt, i, none⟩ (u8 kk) rfl).below hsz (fun j e => by omega)); have hti : (i : Int) < (ct : Int) := (by omega); replace HX4 := hid (HX4.out.below hbS); replace HX5 := hid (HX5.out.below hbS); replace HXB := hid (HXB.out.below hbS); replace HB := hid (below_on HB.out hbS); have HCT := hid hct; generalize hW9 : w9.setCell ⟨gt, i, none⟩ (u8 kk) = w10 at *; have HW9 : Hid (w9.setCell ⟨gt, i, none⟩ (.int .u8 (kk : Int)) = w10) := hid hW9; clear hset hb9 hw9 hgB hsz hbS hW9)
    | (go_at_call 25; (with_reducible refine (HPK.out _).mono ?_); rintro e w11 ⟨rfl, rfl⟩)
    | (clear TE; go_at_call 11; rw [HW9.out]; refine (HRT.out _ gt 0 ct HTB.out HCT.out).mono ?_; rintro e w12 ⟨rfl, hb5⟩; replace HX4 := hid (HX4.out.below hb5); replace HX5 := hid (HX5.out.below hb5); replace HXB := hid (HXB.out.below hb5); replace HTB := hid (HTB.out.below hb5); replace HB := hid (below_on HB.out hb5); clear hb5)
    | (clear TF; (with_reducible refine wpList_storeF rfl rfl _ _ rfl gA ?_ (f := yT) ?_ HZA.out ?_); exact rfl; exact rfl; intro wS hS oS; have hbS := below_tr HBA.out (oS.below HBA.out.size (fun i e => by have := HGA.out; omega)); replace HX4 := hid (HX4.out.below hbS); replace HX5 := hid (HX5.out.below hbS); replace HXB := hid (HXB.out.below hbS); replace HTB := hid (HTB.out.below hbS); replace HB := hid (below_on HB.out hbS); clear hS oS hbS HZA HBA HGA)
    | (clear TG; go_at_call 11; refine (HRP.out _ b o c HXB.out hc40).mono ?_; rintro e w13 ⟨rfl, hb5⟩; replace HX4 := hid (HX4.out.below hb5); replace HX5 := hid (HX5.out.below hb5); replace HXB := hid (HXB.out.below hb5); replace HTB := hid (HTB.out.below hb5); replace HB := hid (below_on HB.out hb5); clear hb5)
    | (clear TH; (with_reducible refine wpList_storeF rfl rfl _ _ rfl gA ?_ (f := zF) ?_ HZA.out ?_); exact rfl; exact rfl; intro wS hS oS; have hbS := below_tr HBA.out (oS.below HBA.out.size (fun i e => by have := HGA.out; omega)); replace HX4 := hid (HX4.out.below hbS); replace HX5 := hid (HX5.out.below hbS); replace HXB := hid (HXB.out.below hbS); replace HTB := hid (HTB.out.below hbS); replace HB := hid (below_on HB.out hbS); clear hS oS hbS HZA HBA HGA)
    | (go_at_call 10; refine (HBG.out _).mono ?_; rintro e w14 ⟨b2, o2, c2, rfl, hc2, hx2, hb5⟩; have HXG := hid hx2; replace HX4 := hid (HX4.out.below hb5); replace HX5 := hid (HX5.out.below hb5); replace HXB := hid (HXB.out.below hb5); replace HTB := hid (HTB.out.below hb5); replace HB := hid (below_on HB.out hb5); clear hb5 hx2))
  have HSF : Hid (∀ W, Below w14.heap.size w14 W → (fun W => (Instr.loadAt 23 (ptr g4)).run Try.prog W = .ok (.agg f.cs) W ∧ (Instr.loadAt 23 (ptr g5)).run Try.prog W = .ok (.agg g.cs) W) W) := hid (fun W hW => ⟨(HX4.out.below hW).load, (HX5.out.below hW).load⟩)
  have HDW := hid (below_drew w14)
  refine wp_region_held_drew (S := (fun W => (Instr.loadAt 23 (ptr g4)).run Try.prog W = .ok (.agg f.cs) W ∧ (Instr.loadAt 23 (ptr g5)).run Try.prog W = .ok (.agg g.cs) W)) (by kernel_rfl) (HSF.out _ HDW.out) (fun hHeld => ?_)
  generalize w14.drew = wd at *
  refine wpAnyH_take (i := 0) (oi := ⟨some 82, .move (.tmp 9), _, _, _, none⟩) (v := .bool true) rfl (by kernel_rfl) (by kernel_rfl) (by kernel_rfl) (fun _ _ _ h => h) (Or.inl ⟨by kernel_rfl, by intro W hW; go_simp⟩) hHeld ?_
  refine wpAnyH_take (i := 1) (oi := ⟨some 83, .move (.tmp 82), _, _, _, none⟩) (v := .bool true) rfl (by kernel_rfl) (by kernel_rfl) (by kernel_rfl) (fun _ _ _ h => h) (Or.inl ⟨by kernel_rfl, by intro W hW; go_simp⟩) hHeld ?_
  refine wpAnyH_take (i := 2) (oi := ⟨some 84, .move (.tmp 3), _, _, _, some (1, true)⟩) (v := .int .u8 (mask : Int)) rfl (by kernel_rfl) (by kernel_rfl) (by kernel_rfl) (fun _ _ _ h => h) (Or.inl ⟨by kernel_rfl, by intro W hW; go_simp⟩) hHeld ?_
  refine wpAnyH_take (i := 3) (oi := ⟨some 85, .binOp .eql 5 (.tmp 84) (.const (.int .u8 0)) 5, _, _, _, some (1, true)⟩) (v := .bool false) rfl (by kernel_rfl) (by kernel_rfl) (by kernel_rfl) (fun _ _ _ h => h) (Or.inl ⟨by kernel_rfl, by intro W hW; go_simp⟩) hHeld ?_
  refine wpAnyH_take (i := 4) (oi := ⟨some 86, .move (.tmp 85), _, _, _, some (1, true)⟩) (v := .bool false) rfl (by kernel_rfl) (by kernel_rfl) (by kernel_rfl) (fun _ _ _ h => h) (Or.inl ⟨by kernel_rfl, by intro W hW; go_simp⟩) hHeld ?_
  refine wpAnyH_take (i := 5) (oi := ⟨some 87, .move (.tmp 17), _, _, _, some (4, false)⟩) (v := .int .i64 0) rfl (by kernel_rfl) (by kernel_rfl) (by kernel_rfl) (fun _ _ _ h => h) (Or.inl ⟨by kernel_rfl, by intro W hW; go_simp⟩) hHeld ?_
  refine wpAnyH_take (i := 6) (oi := ⟨some 88, .binOp .neq 26 (.tmp 87) (.const (.int .i64 0)) 26, _, _, _, some (4, false)⟩) (v := .bool false) rfl (by kernel_rfl) (by kernel_rfl) (by kernel_rfl) (fun _ _ _ h => h) (Or.inl ⟨by kernel_rfl, by intro W hW; go_simp⟩) hHeld ?_
  refine wpAnyH_take (i := 7) (oi := ⟨some 89, .pick (.tmp 86) (.const (.bool true)) (.tmp 88), _, _, _, some (1, true)⟩) (v := .bool false) rfl (by kernel_rfl) (by kernel_rfl) (by kernel_rfl) (fun _ _ _ h => h) (Or.inl ⟨by kernel_rfl, by intro W hW; go_simp⟩) hHeld ?_
  refine wpAnyH_take (i := 8) (oi := ⟨some 90, .move (.tmp 89), _, _, _, some (1, true)⟩) (v := .bool false) rfl (by kernel_rfl) (by kernel_rfl) (by kernel_rfl) (fun _ _ _ h => h) (Or.inl ⟨by kernel_rfl, by intro W hW; go_simp⟩) hHeld ?_
  refine wpAnyH_take (i := 9) (oi := ⟨some 91, .move (.tmp 14), _, _, _, some (8, false)⟩) (v := .slice (some ⟨gt, 0, none⟩) 40 ct) rfl (by kernel_rfl) (by kernel_rfl) (by kernel_rfl) (fun _ _ _ h => h) (Or.inl ⟨by kernel_rfl, by intro W hW; go_simp⟩) hHeld ?_
  refine wpAnyH_ready (rs := [10]) (by kernel_rfl) (by simp) ?_
  refine AllReadyH.cons (o := ⟨some 92, .call { callee := .value (.func 26), args := #[.tmp 91], argTypes := #[24] }, _, _, _, some (8, false)⟩) rfl ?_ AllReadyH.nil
  intro K hK
  with_reducible refine step_callGF ?_ 26 #[.slice (some ⟨gt, 0, none⟩) 40 ct] ?_ ?_
  · kernel_rfl
  · kernel_rfl
  refine (HSE.out _ gt 0 ct (HTB.out.below HDW.out) HCT.out).mono ?_
  rintro e we ⟨rfl, hbe⟩
  replace HDW := hid (below_on HDW.out hbe)
  refine ⟨_, rfl, hK.out _ _ (HSF.out _ HDW.out) (fun hHeld => ?_)⟩
  clear hK K hbe
  refine wpAnyH_take (i := 11) (oi := ⟨some 93, .pick (.tmp 90) (.const (.bool true)) (.tmp 92), _, _, _, some (1, true)⟩) (v := .bool true) rfl (by kernel_rfl) (by kernel_rfl) (by kernel_rfl) (fun _ _ _ h => h) (Or.inl ⟨by kernel_rfl, by intro W hW; go_simp⟩) hHeld ?_
  refine wpAnyH_take (i := 12) (oi := ⟨some 94, .pick (.tmp 83) (.tmp 93) (.const (.bool false)), _, _, _, none⟩) (v := .bool true) rfl (by kernel_rfl) (by kernel_rfl) (by kernel_rfl) (fun _ _ _ h => h) (Or.inl ⟨by kernel_rfl, by intro W hW; go_simp⟩) hHeld ?_
  refine wpAnyH_take (i := 13) (oi := ⟨some 95, .move (.tmp 94), _, _, _, none⟩) (v := .bool true) rfl (by kernel_rfl) (by kernel_rfl) (by kernel_rfl) (fun _ _ _ h => h) (Or.inl ⟨by kernel_rfl, by intro W hW; go_simp⟩) hHeld ?_
  refine wpAnyH_take (i := 14) (oi := ⟨some 96, .move (.tmp 19), _, _, _, some (13, true)⟩) (v := .int .i64 4) rfl (by kernel_rfl) (by kernel_rfl) (by kernel_rfl) (fun _ _ _ h => h) (Or.inl ⟨by kernel_rfl, by intro W hW; go_simp⟩) hHeld ?_
  refine wpAnyH_take (i := 15) (oi := ⟨some 97, .binOp .eql 26 (.tmp 96) (.const (.int .i64 4)) 26, _, _, _, some (13, true)⟩) (v := .bool true) rfl (by kernel_rfl) (by kernel_rfl) (by kernel_rfl) (fun _ _ _ h => h) (Or.inl ⟨by kernel_rfl, by intro W hW; go_simp⟩) hHeld ?_
  refine wpAnyH_take (i := 16) (oi := ⟨some 98, .pick (.tmp 95) (.tmp 97) (.const (.bool false)), _, _, _, none⟩) (v := .bool true) rfl (by kernel_rfl) (by kernel_rfl) (by kernel_rfl) (fun _ _ _ h => h) (Or.inl ⟨by kernel_rfl, by intro W hW; go_simp⟩) hHeld ?_
  refine wpAnyH_take (i := 17) (oi := ⟨some 99, .move (.tmp 98), _, _, _, none⟩) (v := .bool true) rfl (by kernel_rfl) (by kernel_rfl) (by kernel_rfl) (fun _ _ _ h => h) (Or.inl ⟨by kernel_rfl, by intro W hW; go_simp⟩) hHeld ?_
  refine wpAnyH_take (i := 18) (oi := ⟨some 100, .move (.tmp 21), _, _, _, some (17, true)⟩) (v := .int .i64 0) rfl (by kernel_rfl) (by kernel_rfl) (by kernel_rfl) (fun _ _ _ h => h) (Or.inl ⟨by kernel_rfl, by intro W hW; go_simp⟩) hHeld ?_
  refine wpAnyH_take (i := 19) (oi := ⟨some 101, .binOp .neq 26 (.tmp 100) (.const (.int .i64 0)) 26, _, _, _, some (17, true)⟩) (v := .bool false) rfl (by kernel_rfl) (by kernel_rfl) (by kernel_rfl) (fun _ _ _ h => h) (Or.inl ⟨by kernel_rfl, by intro W hW; go_simp⟩) hHeld ?_
  refine wpAnyH_take (i := 20) (oi := ⟨some 102, .move (.tmp 101), _, _, _, some (17, true)⟩) (v := .bool false) rfl (by kernel_rfl) (by kernel_rfl) (by kernel_rfl) (fun _ _ _ h => h) (Or.inl ⟨by kernel_rfl, by intro W hW; go_simp⟩) hHeld ?_
  refine wpAnyH_take (i := 21) (oi := ⟨some 103, .move (.tmp 10), _, _, _, some (20, false)⟩) (v := .slice (some ⟨b, o, none⟩) 40 c) rfl (by kernel_rfl) (by kernel_rfl) (by kernel_rfl) (fun _ _ _ h => h) (Or.inl ⟨by kernel_rfl, by intro W hW; go_simp⟩) hHeld ?_
  refine wpAnyH_take (i := 22) (oi := ⟨some 104, .move (.tmp 20), _, _, _, some (20, false)⟩) (v := .slice (some ⟨b2, o2, none⟩) 40 c2) rfl (by kernel_rfl) (by kernel_rfl) (by kernel_rfl) (fun _ _ _ h => h) (Or.inl ⟨by kernel_rfl, by intro W hW; go_simp⟩) hHeld ?_
  refine wpAnyH_take (i := 24) (oi := ⟨some 106, .load 23 (.tmp 4), _, _, _, some (20, false)⟩) (v := .agg f.cs) rfl (by kernel_rfl) (by kernel_rfl) (by kernel_rfl) (fun _ _ _ h => h) (Or.inl ⟨by kernel_rfl, fun W hW => exec_load rfl (by kernel_rfl) hW.1⟩) hHeld ?_
  refine wpAnyH_take (i := 25) (oi := ⟨some 107, .load 23 (.tmp 5), _, _, _, some (20, false)⟩) (v := .agg g.cs) rfl (by kernel_rfl) (by kernel_rfl) (by kernel_rfl) (fun _ _ _ h => h) (Or.inl ⟨by kernel_rfl, fun W hW => exec_load rfl (by kernel_rfl) hW.2⟩) hHeld ?_
  refine wpAnyH_take (i := 26) (oi := ⟨some 108, .binOp .eql 23 (.tmp 106) (.tmp 107) 23, _, _, _, some (20, false)⟩) (v := .bool p) rfl (by kernel_rfl) (by kernel_rfl) (by kernel_rfl) (fun _ _ _ h => h) (Or.inl ⟨by kernel_rfl, fun W hW => exec_binF rfl (by kernel_rfl) (by kernel_rfl) (by simp [eqGuard]) (HEQ.out W)⟩) hHeld ?_
  refine wpAnyH_ready (rs := [23]) (by kernel_rfl) (by simp) ?_
  refine AllReadyH.cons (o := ⟨some 105, .call { callee := .value (.func 14), args := #[.tmp 103, .tmp 104], argTypes := #[24, 24] }, _, _, _, some (20, false)⟩) rfl ?_ AllReadyH.nil
  intro K hK
  with_reducible refine step_callGF ?_ 14 #[.slice (some ⟨b, o, none⟩) 40 c, .slice (some ⟨b2, o2, none⟩) 40 c2] ?_ ?_
  · kernel_rfl
  · kernel_rfl
  refine (HSB.out _ b o c b2 o2 c2 (HXB.out.below HDW.out) hc40 (HXG.out.below HDW.out) hc2).mono ?_
  rintro e wf ⟨rfl, hw⟩
  have hw2 := hw.symm
  subst hw2
  refine ⟨_, rfl, hK.out _ _ (HSF.out _ HDW.out) (fun hHeld => ?_)⟩
  clear hK K
  refine wpAnyH_take (i := 27) (oi := ⟨some 109, .binOp .eql 4 (.tmp 105) (.tmp 108) 4, _, _, _, some (20, false)⟩) (v := .bool true) rfl (by kernel_rfl) (by kernel_rfl) (by kernel_rfl) (fun _ _ _ h => h) (Or.inl ⟨by kernel_rfl, by intro W hW; go_simp⟩) hHeld ?_
  refine wpAnyH_take (i := 28) (oi := ⟨some 110, .pick (.tmp 102) (.const (.bool true)) (.tmp 109), _, _, _, some (17, true)⟩) (v := .bool true) rfl (by kernel_rfl) (by kernel_rfl) (by kernel_rfl) (fun _ _ _ h => h) (Or.inl ⟨by kernel_rfl, by intro W hW; go_simp⟩) hHeld ?_
  refine wpAnyH_take (i := 29) (oi := ⟨some 111, .pick (.tmp 99) (.tmp 110) (.const (.bool false)), _, _, _, none⟩) (v := .bool true) rfl (by kernel_rfl) (by kernel_rfl) (by kernel_rfl) (fun _ _ _ h => h) (Or.inl ⟨by kernel_rfl, by intro W hW; go_simp⟩) hHeld ?_
  refine wpAnyH_take (i := 30) (oi := ⟨some 8, .assign (.tmp 111), _, _, _, none⟩) (v := .bool true) rfl (by kernel_rfl) (by kernel_rfl) (by kernel_rfl) (fun _ _ _ h => h) (Or.inl ⟨by kernel_rfl, by intro W hW; go_simp⟩) hHeld ?_
  refine wpAnyH_done (by kernel_rfl) ?_ _
  simp only [Act.put, List.setIfInBounds_toArray, List.set_cons_zero, List.set_cons_succ]
  go_wp2
  go_ret
  exact ⟨rfl, below_on HB.out HDW.out⟩
set_option linter.unusedVariables false in
set_option maxRecDepth 100000 in
set_option maxHeartbeats 8000000 in
theorem formatBack_sn (hF : FmC) (f g : FmV) (hf : f.wf) (hg : g.wf) (hok : okFm f = true) (hgk : okFm g = false) (at_ : Int) (mask : Nat) (hm : mask < 256) (X T : List Nat) (hX : fmB f = X) (hT : X.set (pkN at_ 40) (X.getD (pkN at_ 40) 0 ^^^ mask) = T) (m0 : mask ≠ 0) (hr : rdFe T = 0) (w : World) : Calls Try.prog 5 #[.agg f.cs, .agg g.cs, .int .i64 at_, .int .u8 (mask : Int)] w fun e w' => e = .returned (.bool true) ∧ Below w.heap.size w w' := by
  have HAW := hid (fun W => awake14_any hF W)
  have hxl : X.length = 40 := by rw [← hX]; exact fmB_len f
  have hx8 : ∀ z ∈ X, z < 256 := by rw [← hX]; exact fmB_lt hok
  have hpk := pkN_lt at_ 40 (by omega)
  have hk8 : X.getD (pkN at_ 40) 0 < 256 := get256 hx8 _ (by omega)
  have htl : T.length = 40 := by rw [← hT, List.length_set]; exact hxl
  have ht8 : ∀ z ∈ T, z < 256 := fun z hz => by
    rw [← hT] at hz
    rcases List.mem_or_eq_of_mem_set hz with h | rfl
    · exact hx8 z h
    · exact Nat.xor_lt_two_pow (n := 8) hk8 hm
  have HBY := hid (fun W => (hF.bytes f W hf).mono (R' := fun e w' => ∃ b o c, e = .returned (.tuple #[.slice (some ⟨b, o, none⟩) 40 c, .int .i64 0]) ∧ 40 ≤ c ∧ BL w' (some ⟨b, o, none⟩) X ∧ Below W.heap.size W w') (fun e w' h => by
    rcases h with ⟨_, po, c, h1, h2, h4, h3⟩ | ⟨h, _⟩
    · rw [hX] at h2
      rcases h2.bl with hb | ⟨b, o, e2, hb⟩
      · rw [hb] at hxl; cases hxl
      · subst e2; exact ⟨b, o, c, h1, by have := h2.cap; omega, .inr ⟨b, o, rfl, hb⟩, h3⟩
    · rw [hok] at h; cases h))
  have HRX := hid (fun W b o c (h : BL W (some ⟨b, o, none⟩) X) (hc : 40 ≤ c) => (hF.read (some ⟨b, o, none⟩) c X W h (by omega) (by omega) (fun e => by cases e) hx8).mono (R' := fun e w' => e = .returned (.tuple #[.agg f.cs, .int .i64 0]) ∧ Below W.heap.size W w') (fun e w' h => by
    obtain ⟨h1, h2⟩ := h
    rw [← hX, (rd_fmB hok).1, (rd_fmB hok).2] at h1
    exact ⟨h1, h2⟩))
  have HRT := hid (fun W b o c (h : BL W (some ⟨b, o, none⟩) T) (hc : 40 ≤ c) => (hF.read (some ⟨b, o, none⟩) c T W h (by omega) (by omega) (fun e => by cases e) ht8).mono (R' := fun e w' => e = .returned (.tuple #[.agg (rdFv T).cs, .int .i64 (rdFe T : Int)]) ∧ Below W.heap.size W w') (fun e w' h => h))
  have HRP := hid (fun W b o c (h : BL W (some ⟨b, o, none⟩) X) (hc : 40 ≤ c) => (hF.read (some ⟨b, o, none⟩) c (X.take (pkN at_ 40)) W (h.take _) (by rw [List.length_take]; omega) (by rw [List.length_take]; omega) (fun e => by cases e) (fun z hz => hx8 z (List.mem_of_mem_take hz))).mono (R' := fun e w' => e = .returned (.tuple #[.agg zF.cs, .int .i64 4]) ∧ Below W.heap.size W w') (fun e w' h => by
    obtain ⟨h1, h2⟩ := h
    have e4 : rdFe (X.take (pkN at_ 40)) = 4 := rd_len (by rw [List.length_take]; omega)
    unfold rdFv at h1
    rw [e4, if_neg (by decide)] at h1
    exact ⟨h1, h2⟩))
  rw [show (X.take (pkN at_ 40)).length = pkN at_ 40 by rw [List.length_take]; omega] at HRP
  rw [hxl] at HRX
  rw [htl] at HRT
  have HCP := hid (fun W b o c (h : BL W (some ⟨b, o, none⟩) X) (hc : 40 ≤ c) => copyB_any (w := W) (v := .slice (some ⟨b, o, none⟩) 40 c) (x := X) ⟨_, _, by rw [hxl], h, by omega⟩ (by omega) (fun n c e => by cases e))
  have HPK : Hid (∀ W, Calls Try.prog 25 #[.int .i64 at_, .int .i64 40] W fun e w' => e = .returned (.int .i64 (pkN at_ 40 : Int)) ∧ w' = W) := hid (fun W => pick_any at_ 40 W (by omega) (by omega))
  have hxor : bits .xor .u8 ((X.getD (pkN at_ 40) 0 : Nat) : Int) (mask : Int) = ((X.getD (pkN at_ 40) 0 ^^^ mask : Nat) : Int) := u8_xor_nat _ _ hk8 hm
  have HNE := hid (fun W => neqF f f W)
  rw [show decide (f = f) = true by simp] at HNE
  have HBG := hid (fun W => (hF.bytes g W hg).mono (R' := fun e w' => e = .returned (.tuple #[.slice none 0 0, .int .i64 2]) ∧ Below W.heap.size W w') (fun e w' h => by
    rcases h with ⟨h, _⟩ | ⟨_, h⟩
    · rw [hgk] at h; cases h
    · exact h))
  have HSE := hid (fun W b o c (h : BL W (some ⟨b, o, none⟩) T) (hc : 40 ≤ c) => (sealed14_any (some ⟨b, o, none⟩) c T W h (by omega) (by omega) ht8).mono (R' := fun e w' => e = .returned (.bool true) ∧ Below W.heap.size W w') (fun e w' h => ⟨by rw [h.1, seal14 hr], h.2⟩))
  rw [htl] at HSE
  rw [hr] at HRT
  have hm0 : ((mask : Int) == 0) = false := beq_eq_false_iff_ne.2 (by omega)
  obtain ⟨i, hi⟩ : ∃ i, pkN at_ 40 = i := ⟨_, rfl⟩
  obtain ⟨xi, hxi⟩ : ∃ xi, X.getD i 0 = xi := ⟨_, rfl⟩
  obtain ⟨kk, hkk⟩ : ∃ kk, xi ^^^ mask = kk := ⟨_, rfl⟩
  rw [hi] at HPK HRP hpk hT hxor
  rw [hxi, hkk] at hT hxor
  have HTT := hid hT
  have HXI := hid hxi
  have HXL := hid hxl
  have hi40 : (i : Int) < 40 := by omega
  generalize rdFv T = yT at *
  have TA : Hid True := hid trivial
  have TB : Hid True := hid trivial
  have TC : Hid True := hid trivial
  have TD : Hid True := hid trivial
  have TE : Hid True := hid trivial
  have TF : Hid True := hid trivial
  have TG : Hid True := hid trivial
  have TH : Hid True := hid trivial
  have TI : Hid True := hid trivial
  clear hF hf hg hok hgk hX hT hxl hx8 hk8 htl ht8 hm hxi hkk hi hpk m0 hr
  go_enter Try.func5, Try.ntmps5
  go_upto_region 14 with (first
    | (clear TA; (with_reducible refine wpList_boxT 23 rfl _ rfl f.cs ?_ ?_); exact rfl; intro w1 g4 hc1 hb1 hg1; have HX4 := hid (show FmAt w1 g4 0 f from fun j u hu => by rw [Nat.zero_add, hc1.cell]; exact hu); have HB := hid hb1; clear hc1 hb1 hg1)
    | (clear TB; (with_reducible refine wpList_boxT 23 rfl _ rfl g.cs ?_ ?_); exact rfl; intro w2 g5 hc1 hb1 hg1; have HX5 := hid (show FmAt w2 g5 0 g from fun j u hu => by rw [Nat.zero_add, hc1.cell]; exact hu); replace HX4 := hid (HX4.out.below hb1); replace HB := hid (below_on HB.out hb1); clear hc1 hb1 hg1)
    | (go_at_call 18; refine (HAW.out _).mono ?_; rintro e w3 ⟨rfl, hb3⟩; replace HX4 := hid (HX4.out.below hb3); replace HX5 := hid (HX5.out.below hb3); replace HB := hid (below_on HB.out hb3); clear hb3)
    | ((with_reducible refine wpList_loadW 23 _ rfl ?_ (.pointer (some ⟨g4, 0, none⟩)) (.agg f.cs) ?_ HX4.out.load ?_); kernel_rfl; exact rfl)
    | ((with_reducible refine wpList_loadW 23 _ rfl ?_ (.pointer (some ⟨g5, 0, none⟩)) (.agg g.cs) ?_ HX5.out.load ?_); kernel_rfl; exact rfl)
    | (clear TC; go_at_call 10; refine (HBY.out _).mono ?_; rintro e w4 ⟨b, o, c, rfl, hc40, hx4, hb4⟩; have HXB := hid hx4; have hci : (i : Int) ≤ (c : Int) := (by omega); replace HX4 := hid (HX4.out.below hb4); replace HX5 := hid (HX5.out.below hb4); replace HB := hid (below_on HB.out hb4); have hsp := run_head8n (some ⟨b, o, none⟩) 40 c i (by omega); clear hx4 hb4)
    | (clear TD; go_at_call 11; refine (HRX.out _ b o c HXB.out hc40).mono ?_; rintro e w5 ⟨rfl, hb5⟩; replace HX4 := hid (HX4.out.below hb5); replace HX5 := hid (HX5.out.below hb5); replace HXB := hid (HXB.out.below hb5); replace HB := hid (below_on HB.out hb5); clear hb5)
    | ((with_reducible refine wpList_allocF rfl rfl ?_); intro wA gA hzA hbA hgA; have HZA := hid hzA; have HBA := hid hbA; have HGA := hid hgA; clear hzA hbA hgA)
    | (clear TI; (with_reducible refine wpList_storeF rfl rfl _ _ rfl gA ?_ (f := f) ?_ HZA.out ?_); exact rfl; exact rfl; intro wS hS oS; have hbS := below_tr HBA.out (oS.below HBA.out.size (fun i e => by have := HGA.out; omega)); replace HX4 := hid (HX4.out.below hbS); replace HX5 := hid (HX5.out.below hbS); replace HXB := hid (HXB.out.below hbS); replace HB := hid (below_on HB.out hbS); have HY := hid (show FmAt wS gA 0 f from fun j u hu => by rw [Nat.zero_add, hS.cell]; exact hu); obtain ⟨gj, hgj⟩ : ∃ g, g = gA := ⟨gA, rfl⟩; subst hgj; clear hS oS hbS HZA HBA HGA)
    | ((with_reducible refine wpList_loadW 23 _ rfl ?_ (.pointer (some ⟨gj, 0, none⟩)) (.agg f.cs) ?_ HY.out.load ?_); kernel_rfl; exact rfl)
    | ((with_reducible refine wpList_binW .neq 23 _ _ _ (.agg f.cs) (.agg f.cs) (.bool false) rfl ?_ ?_ ?_ ?_ (HNE.out _) ?_); kernel_rfl; exact rfl; exact rfl; simp [eqGuard])
    | (go_at_call 24; (with_reducible refine (HCP.out _ b o c HXB.out hc40).mono ?_); rintro e w9 ⟨v9, rfl, hb9, hw9⟩; obtain ⟨pt, ct, hvt⟩ := hb9.form; subst hvt; have hct := hb9.cap.2; rw [HXL.out] at hct hb9; obtain ⟨gt, hgt0, hgB, cb9, fb9, hset⟩ := hb9.set (i := i) (by have := HXL.out; omega) kk; subst hgt0; rw [HXI.out] at cb9; replace cb9 : w9.cell? ⟨gt, i, none⟩ = some (.int .u8 (xi : Int)) := cb9; rw [HTT.out] at hset; have HTB := hid hset.bl; rw [HXL.out]; have hsz := hw9.size; have hbS := below_tr hw9 ((Only.set (S := fun b => b = gt) w9 ⟨gt, i, none⟩ (u8 kk) rfl).below hsz (fun j e => by omega)); have hti : (i : Int) < (ct : Int) := (by omega); replace HX4 := hid (HX4.out.below hbS); replace HX5 := hid (HX5.out.below hbS); replace HXB := hid (HXB.out.below hbS); replace HB := hid (below_on HB.out hbS); have HCT := hid hct; generalize hW9 : w9.setCell ⟨gt, i, none⟩ (u8 kk) = w10 at *; have HW9 : Hid (w9.setCell ⟨gt, i, none⟩ (.int .u8 (kk : Int)) = w10) := hid hW9; clear hset hb9 hw9 hgB hsz hbS hW9)
    | (go_at_call 25; (with_reducible refine (HPK.out _).mono ?_); rintro e w11 ⟨rfl, rfl⟩)
    | (clear TE; go_at_call 11; rw [HW9.out]; refine (HRT.out _ gt 0 ct HTB.out HCT.out).mono ?_; rintro e w12 ⟨rfl, hb5⟩; replace HX4 := hid (HX4.out.below hb5); replace HX5 := hid (HX5.out.below hb5); replace HXB := hid (HXB.out.below hb5); replace HTB := hid (HTB.out.below hb5); replace HB := hid (below_on HB.out hb5); clear hb5)
    | (clear TF; (with_reducible refine wpList_storeF rfl rfl _ _ rfl gA ?_ (f := yT) ?_ HZA.out ?_); exact rfl; exact rfl; intro wS hS oS; have hbS := below_tr HBA.out (oS.below HBA.out.size (fun i e => by have := HGA.out; omega)); replace HX4 := hid (HX4.out.below hbS); replace HX5 := hid (HX5.out.below hbS); replace HXB := hid (HXB.out.below hbS); replace HTB := hid (HTB.out.below hbS); replace HB := hid (below_on HB.out hbS); clear hS oS hbS HZA HBA HGA)
    | (clear TG; go_at_call 11; refine (HRP.out _ b o c HXB.out hc40).mono ?_; rintro e w13 ⟨rfl, hb5⟩; replace HX4 := hid (HX4.out.below hb5); replace HX5 := hid (HX5.out.below hb5); replace HXB := hid (HXB.out.below hb5); replace HTB := hid (HTB.out.below hb5); replace HB := hid (below_on HB.out hb5); clear hb5)
    | (clear TH; (with_reducible refine wpList_storeF rfl rfl _ _ rfl gA ?_ (f := zF) ?_ HZA.out ?_); exact rfl; exact rfl; intro wS hS oS; have hbS := below_tr HBA.out (oS.below HBA.out.size (fun i e => by have := HGA.out; omega)); replace HX4 := hid (HX4.out.below hbS); replace HX5 := hid (HX5.out.below hbS); replace HXB := hid (HXB.out.below hbS); replace HTB := hid (HTB.out.below hbS); replace HB := hid (below_on HB.out hbS); clear hS oS hbS HZA HBA HGA)
    | (go_at_call 10; refine (HBG.out _).mono ?_; rintro e w14 ⟨rfl, hb5⟩; replace HX4 := hid (HX4.out.below hb5); replace HX5 := hid (HX5.out.below hb5); replace HXB := hid (HXB.out.below hb5); replace HTB := hid (HTB.out.below hb5); replace HB := hid (below_on HB.out hb5); clear hb5))
  have HSF : Hid (∀ W, Below w14.heap.size w14 W → (fun W => (Instr.loadAt 23 (ptr g4)).run Try.prog W = .ok (.agg f.cs) W ∧ (Instr.loadAt 23 (ptr g5)).run Try.prog W = .ok (.agg g.cs) W) W) := hid (fun W hW => ⟨(HX4.out.below hW).load, (HX5.out.below hW).load⟩)
  have HDW := hid (below_drew w14)
  refine wp_region_held_drew (S := (fun W => (Instr.loadAt 23 (ptr g4)).run Try.prog W = .ok (.agg f.cs) W ∧ (Instr.loadAt 23 (ptr g5)).run Try.prog W = .ok (.agg g.cs) W)) (by kernel_rfl) (HSF.out _ HDW.out) (fun hHeld => ?_)
  generalize w14.drew = wd at *
  refine wpAnyH_take (i := 0) (oi := ⟨some 82, .move (.tmp 9), _, _, _, none⟩) (v := .bool true) rfl (by kernel_rfl) (by kernel_rfl) (by kernel_rfl) (fun _ _ _ h => h) (Or.inl ⟨by kernel_rfl, by intro W hW; go_simp⟩) hHeld ?_
  refine wpAnyH_take (i := 1) (oi := ⟨some 83, .move (.tmp 82), _, _, _, none⟩) (v := .bool true) rfl (by kernel_rfl) (by kernel_rfl) (by kernel_rfl) (fun _ _ _ h => h) (Or.inl ⟨by kernel_rfl, by intro W hW; go_simp⟩) hHeld ?_
  refine wpAnyH_take (i := 2) (oi := ⟨some 84, .move (.tmp 3), _, _, _, some (1, true)⟩) (v := .int .u8 (mask : Int)) rfl (by kernel_rfl) (by kernel_rfl) (by kernel_rfl) (fun _ _ _ h => h) (Or.inl ⟨by kernel_rfl, by intro W hW; go_simp⟩) hHeld ?_
  refine wpAnyH_take (i := 3) (oi := ⟨some 85, .binOp .eql 5 (.tmp 84) (.const (.int .u8 0)) 5, _, _, _, some (1, true)⟩) (v := .bool false) rfl (by kernel_rfl) (by kernel_rfl) (by kernel_rfl) (fun _ _ _ h => h) (Or.inl ⟨by kernel_rfl, by intro W hW; go_simp⟩) hHeld ?_
  refine wpAnyH_take (i := 4) (oi := ⟨some 86, .move (.tmp 85), _, _, _, some (1, true)⟩) (v := .bool false) rfl (by kernel_rfl) (by kernel_rfl) (by kernel_rfl) (fun _ _ _ h => h) (Or.inl ⟨by kernel_rfl, by intro W hW; go_simp⟩) hHeld ?_
  refine wpAnyH_take (i := 5) (oi := ⟨some 87, .move (.tmp 17), _, _, _, some (4, false)⟩) (v := .int .i64 0) rfl (by kernel_rfl) (by kernel_rfl) (by kernel_rfl) (fun _ _ _ h => h) (Or.inl ⟨by kernel_rfl, by intro W hW; go_simp⟩) hHeld ?_
  refine wpAnyH_take (i := 6) (oi := ⟨some 88, .binOp .neq 26 (.tmp 87) (.const (.int .i64 0)) 26, _, _, _, some (4, false)⟩) (v := .bool false) rfl (by kernel_rfl) (by kernel_rfl) (by kernel_rfl) (fun _ _ _ h => h) (Or.inl ⟨by kernel_rfl, by intro W hW; go_simp⟩) hHeld ?_
  refine wpAnyH_take (i := 7) (oi := ⟨some 89, .pick (.tmp 86) (.const (.bool true)) (.tmp 88), _, _, _, some (1, true)⟩) (v := .bool false) rfl (by kernel_rfl) (by kernel_rfl) (by kernel_rfl) (fun _ _ _ h => h) (Or.inl ⟨by kernel_rfl, by intro W hW; go_simp⟩) hHeld ?_
  refine wpAnyH_take (i := 8) (oi := ⟨some 90, .move (.tmp 89), _, _, _, some (1, true)⟩) (v := .bool false) rfl (by kernel_rfl) (by kernel_rfl) (by kernel_rfl) (fun _ _ _ h => h) (Or.inl ⟨by kernel_rfl, by intro W hW; go_simp⟩) hHeld ?_
  refine wpAnyH_take (i := 9) (oi := ⟨some 91, .move (.tmp 14), _, _, _, some (8, false)⟩) (v := .slice (some ⟨gt, 0, none⟩) 40 ct) rfl (by kernel_rfl) (by kernel_rfl) (by kernel_rfl) (fun _ _ _ h => h) (Or.inl ⟨by kernel_rfl, by intro W hW; go_simp⟩) hHeld ?_
  refine wpAnyH_ready (rs := [10]) (by kernel_rfl) (by simp) ?_
  refine AllReadyH.cons (o := ⟨some 92, .call { callee := .value (.func 26), args := #[.tmp 91], argTypes := #[24] }, _, _, _, some (8, false)⟩) rfl ?_ AllReadyH.nil
  intro K hK
  with_reducible refine step_callGF ?_ 26 #[.slice (some ⟨gt, 0, none⟩) 40 ct] ?_ ?_
  · kernel_rfl
  · kernel_rfl
  refine (HSE.out _ gt 0 ct (HTB.out.below HDW.out) HCT.out).mono ?_
  rintro e we ⟨rfl, hbe⟩
  replace HDW := hid (below_on HDW.out hbe)
  refine ⟨_, rfl, hK.out _ _ (HSF.out _ HDW.out) (fun hHeld => ?_)⟩
  clear hK K hbe
  refine wpAnyH_take (i := 11) (oi := ⟨some 93, .pick (.tmp 90) (.const (.bool true)) (.tmp 92), _, _, _, some (1, true)⟩) (v := .bool true) rfl (by kernel_rfl) (by kernel_rfl) (by kernel_rfl) (fun _ _ _ h => h) (Or.inl ⟨by kernel_rfl, by intro W hW; go_simp⟩) hHeld ?_
  refine wpAnyH_take (i := 12) (oi := ⟨some 94, .pick (.tmp 83) (.tmp 93) (.const (.bool false)), _, _, _, none⟩) (v := .bool true) rfl (by kernel_rfl) (by kernel_rfl) (by kernel_rfl) (fun _ _ _ h => h) (Or.inl ⟨by kernel_rfl, by intro W hW; go_simp⟩) hHeld ?_
  refine wpAnyH_take (i := 13) (oi := ⟨some 95, .move (.tmp 94), _, _, _, none⟩) (v := .bool true) rfl (by kernel_rfl) (by kernel_rfl) (by kernel_rfl) (fun _ _ _ h => h) (Or.inl ⟨by kernel_rfl, by intro W hW; go_simp⟩) hHeld ?_
  refine wpAnyH_take (i := 14) (oi := ⟨some 96, .move (.tmp 19), _, _, _, some (13, true)⟩) (v := .int .i64 4) rfl (by kernel_rfl) (by kernel_rfl) (by kernel_rfl) (fun _ _ _ h => h) (Or.inl ⟨by kernel_rfl, by intro W hW; go_simp⟩) hHeld ?_
  refine wpAnyH_take (i := 15) (oi := ⟨some 97, .binOp .eql 26 (.tmp 96) (.const (.int .i64 4)) 26, _, _, _, some (13, true)⟩) (v := .bool true) rfl (by kernel_rfl) (by kernel_rfl) (by kernel_rfl) (fun _ _ _ h => h) (Or.inl ⟨by kernel_rfl, by intro W hW; go_simp⟩) hHeld ?_
  refine wpAnyH_take (i := 16) (oi := ⟨some 98, .pick (.tmp 95) (.tmp 97) (.const (.bool false)), _, _, _, none⟩) (v := .bool true) rfl (by kernel_rfl) (by kernel_rfl) (by kernel_rfl) (fun _ _ _ h => h) (Or.inl ⟨by kernel_rfl, by intro W hW; go_simp⟩) hHeld ?_
  refine wpAnyH_take (i := 17) (oi := ⟨some 99, .move (.tmp 98), _, _, _, none⟩) (v := .bool true) rfl (by kernel_rfl) (by kernel_rfl) (by kernel_rfl) (fun _ _ _ h => h) (Or.inl ⟨by kernel_rfl, by intro W hW; go_simp⟩) hHeld ?_
  refine wpAnyH_take (i := 18) (oi := ⟨some 100, .move (.tmp 21), _, _, _, some (17, true)⟩) (v := .int .i64 2) rfl (by kernel_rfl) (by kernel_rfl) (by kernel_rfl) (fun _ _ _ h => h) (Or.inl ⟨by kernel_rfl, by intro W hW; go_simp⟩) hHeld ?_
  refine wpAnyH_take (i := 19) (oi := ⟨some 101, .binOp .neq 26 (.tmp 100) (.const (.int .i64 0)) 26, _, _, _, some (17, true)⟩) (v := .bool true) rfl (by kernel_rfl) (by kernel_rfl) (by kernel_rfl) (fun _ _ _ h => h) (Or.inl ⟨by kernel_rfl, by intro W hW; go_simp⟩) hHeld ?_
  refine wpAnyH_take (i := 20) (oi := ⟨some 102, .move (.tmp 101), _, _, _, some (17, true)⟩) (v := .bool true) rfl (by kernel_rfl) (by kernel_rfl) (by kernel_rfl) (fun _ _ _ h => h) (Or.inl ⟨by kernel_rfl, by intro W hW; go_simp⟩) hHeld ?_
  refine wpAnyH_take (i := 21) (oi := ⟨some 103, .move (.tmp 10), _, _, _, some (20, false)⟩) (v := undef) rfl (by kernel_rfl) (by kernel_rfl) (by kernel_rfl) (fun _ _ _ h => h) (Or.inr ⟨by kernel_rfl, rfl⟩) hHeld ?_
  refine wpAnyH_take (i := 22) (oi := ⟨some 104, .move (.tmp 20), _, _, _, some (20, false)⟩) (v := undef) rfl (by kernel_rfl) (by kernel_rfl) (by kernel_rfl) (fun _ _ _ h => h) (Or.inr ⟨by kernel_rfl, rfl⟩) hHeld ?_
  refine wpAnyH_take (i := 23) (oi := ⟨some 105, .call { callee := .value (.func 14), args := #[.tmp 103, .tmp 104], argTypes := #[24, 24] }, _, _, _, some (20, false)⟩) (v := undef) rfl (by kernel_rfl) (by kernel_rfl) (by kernel_rfl) (fun _ _ _ h => h) (Or.inr ⟨by kernel_rfl, rfl⟩) hHeld ?_
  refine wpAnyH_take (i := 24) (oi := ⟨some 106, .load 23 (.tmp 4), _, _, _, some (20, false)⟩) (v := undef) rfl (by kernel_rfl) (by kernel_rfl) (by kernel_rfl) (fun _ _ _ h => h) (Or.inr ⟨by kernel_rfl, rfl⟩) hHeld ?_
  refine wpAnyH_take (i := 25) (oi := ⟨some 107, .load 23 (.tmp 5), _, _, _, some (20, false)⟩) (v := undef) rfl (by kernel_rfl) (by kernel_rfl) (by kernel_rfl) (fun _ _ _ h => h) (Or.inr ⟨by kernel_rfl, rfl⟩) hHeld ?_
  refine wpAnyH_take (i := 26) (oi := ⟨some 108, .binOp .eql 23 (.tmp 106) (.tmp 107) 23, _, _, _, some (20, false)⟩) (v := undef) rfl (by kernel_rfl) (by kernel_rfl) (by kernel_rfl) (fun _ _ _ h => h) (Or.inr ⟨by kernel_rfl, rfl⟩) hHeld ?_
  refine wpAnyH_take (i := 27) (oi := ⟨some 109, .binOp .eql 4 (.tmp 105) (.tmp 108) 4, _, _, _, some (20, false)⟩) (v := undef) rfl (by kernel_rfl) (by kernel_rfl) (by kernel_rfl) (fun _ _ _ h => h) (Or.inr ⟨by kernel_rfl, rfl⟩) hHeld ?_
  refine wpAnyH_take (i := 28) (oi := ⟨some 110, .pick (.tmp 102) (.const (.bool true)) (.tmp 109), _, _, _, some (17, true)⟩) (v := .bool true) rfl (by kernel_rfl) (by kernel_rfl) (by kernel_rfl) (fun _ _ _ h => h) (Or.inl ⟨by kernel_rfl, by intro W hW; go_simp⟩) hHeld ?_
  refine wpAnyH_take (i := 29) (oi := ⟨some 111, .pick (.tmp 99) (.tmp 110) (.const (.bool false)), _, _, _, none⟩) (v := .bool true) rfl (by kernel_rfl) (by kernel_rfl) (by kernel_rfl) (fun _ _ _ h => h) (Or.inl ⟨by kernel_rfl, by intro W hW; go_simp⟩) hHeld ?_
  refine wpAnyH_take (i := 30) (oi := ⟨some 8, .assign (.tmp 111), _, _, _, none⟩) (v := .bool true) rfl (by kernel_rfl) (by kernel_rfl) (by kernel_rfl) (fun _ _ _ h => h) (Or.inl ⟨by kernel_rfl, by intro W hW; go_simp⟩) hHeld ?_
  refine wpAnyH_done (by kernel_rfl) ?_ _
  simp only [Act.put, List.setIfInBounds_toArray, List.set_cons_zero, List.set_cons_succ]
  go_wp2
  go_ret
  exact ⟨rfl, below_on HB.out HDW.out⟩
end Go.Proofs.Ytfniojnklhjgbaa

/- FormatBack over package format's contracts: for all inputs. (Written by tools/gen_Fm14.py.) -/
namespace Go.Proofs.Ytfniojnklhjgbaa
open Go Go.RowKit

theorem formatBack_core (hF : FmC) (f g : FmV) (hf : f.wf) (hg : g.wf) (at_ : Int) (mask : Nat) (hm : mask < 256) (w : World) : Calls Try.prog 5 #[.agg f.cs, .agg g.cs, .int .i64 at_, .int .u8 (mask : Int)] w fun e w' => e = .returned (.bool true) ∧ Below w.heap.size w w' := by
  cases hok : okFm f with
  | false => exact formatBack_bad hF f g hf hok at_ mask w
  | true =>
    obtain ⟨X, hX⟩ : ∃ X, fmB f = X := ⟨_, rfl⟩
    obtain ⟨T, hT⟩ : ∃ T, X.set (pkN at_ 40) (X.getD (pkN at_ 40) 0 ^^^ mask) = T := ⟨_, rfl⟩
    by_cases m0 : mask = 0
    · cases hgk : okFm g with
      | true => exact formatBack_mk hF f g hf hg hok hgk at_ mask hm X T hX hT m0 w
      | false => exact formatBack_mn hF f g hf hg hok hgk at_ mask hm X T hX hT m0 w
    · by_cases hr : rdFe T = 0
      · cases hgk : okFm g with
        | true => exact formatBack_sk hF f g hf hg hok hgk at_ mask hm X T hX hT m0 hr w
        | false => exact formatBack_sn hF f g hf hg hok hgk at_ mask hm X T hX hT m0 hr w
      · cases hgk : okFm g with
        | true => exact formatBack_nk hF f g hf hg hok hgk at_ mask hm X T hX hT m0 hr w
        | false => exact formatBack_nn hF f g hf hg hok hgk at_ mask hm X T hX hT m0 hr w
end Go.Proofs.Ytfniojnklhjgbaa

/- FormatBack, as it is called. -/
namespace Go.Proofs.Ytfniojnklhjgbaa
open Go Go.RowKit

theorem formatBack_all (f g : FmV) (at_ : Int) (mask : Nat) (w : World) (hf : f.wf) (hg : g.wf) (hm : mask < 256) : Calls Try.prog 5 #[.agg f.cs, .agg g.cs, .int .i64 at_, .int .u8 (mask : Int)] w fun e w' => e = .returned (.bool true) ∧ Below w.heap.size w w' := formatBack_core fmc f g hf hg at_ mask hm w
end Go.Proofs.Ytfniojnklhjgbaa
