/- DigestTexts holds of every list of lists of bytes, every digest, every text and every list of texts: of lists, digits and tags the program tells what the document says, or its errors, and what is handed in stays (at most 5,000 texts of at most 400 bytes, more than 100 of them empty; at most 100 tags of at most 100 bytes; a text of at most 1,000: of others the statement says nothing). The package-level variables that her row lists are never read on this road. The frame is after the kit's own shell and worked card. -/
import Derived.Test.YtfhjioedelpgiaaDoorRows
import Derived.Test.YtfhjioedelpgiaaDoorTie
import Derived.Test.YtfhjioedelpgiaaDoorCards
import Derived.Test.YtfhjioedelpgiaaDoorRq
import Derived.Deep.Matrix
import Derived.SliceStrings
import Derived.WalkKit
import Derived.ProofKit
import Derived.OpenShut
import Derived.ShutString
import Derived.ChangeOld
import Derived.ChangeVars
import Derived.LaidLaws
import Derived.LaidHandle
import Derived.Lay
import Derived.SevenTiedAt
import Derived.Below
namespace Go.Proofs.YtfhjioedelpgiaaDoor
namespace digestTexts
open Go.ChangeShapes Go.WideShapes Go.ChangeAt Go.RowKit
set_option linter.unusedVariables false

theorem own : ownKnob Tryd.prog.godebug = none := by kernel_rfl
theorem laidOut : laidOutB Tryd.prog = true := by kernel_rfl
theorem okWide_arr {P : Program} {w : World} {r : Reach} {base : Nat} {t e : TypeId} {n : Nat} {v : Value} (ht : P.underlying t = some (.array n e)) (h : Value.okWide P w r base t v) : ∃ cs, v = .agg cs ∧ cs.size = P.cellsOf t := by
  simp only [Value.okWide, ht] at h
  obtain ⟨cs, h1, h2, _⟩ := h
  exact ⟨cs, h1, h2⟩
/-- The number in a cell. -/
def numAt (cs : Array Value) (i : Nat) : Nat := match cs[i]? with | some (.int _ n) => n.toNat | _ => 0
theorem dig_open {H : Type} {enc : TypeId × Value → H} {w : World} {held : Bool} {fuel : Nat} {cs : Array Value} {x : DataW H × List MemPlace} (hsz : cs.size = 32)
    (h : DataW.trod enc Tryd.prog w 0 (fun _ => true) held fuel 24 (Value.agg cs).cells.toList = some x) : cs = aB 32 (numAt cs) ∧ ∀ i, i < 32 → numAt cs i < 256 := by
  obtain ⟨xs, m, _, _, _, hl, hf⟩ := DataW.trod_array Tryd.underlying24 h
  have key : ∀ i, i < 32 → ∃ n : Int, cs[i]? = some (.int .u8 n) ∧ 0 ≤ n ∧ n ≤ 255 := fun i hi => by
    have h1 := hf i hi
    rw [show Tryd.prog.cellsOf 5 = 1 by kernel_rfl, Nat.mul_one, List.getElem?_eq_getElem (by omega)] at h1
    obtain ⟨n, h2, _, h3⟩ := DataW.trod_int Tryd.underlying5 h1
    have hb := bounds_u8 h3
    refine ⟨n, ?_, hb.1, hb.2⟩
    have h4 : ((cs.toList.drop i).take 1)[0]? = some (Value.int .u8 n) := by
      have e : (Value.agg cs).cells.toList = cs.toList := rfl
      rw [e] at h2
      rw [h2]; rfl
    simpa using h4
  have kn : ∀ i, i < 32 → cs[i]? = some (.int .u8 ((numAt cs i : Nat) : Int)) ∧ numAt cs i < 256 := fun i hi => by
    obtain ⟨n, h1, h2, h3⟩ := key i hi
    have e : numAt cs i = n.toNat := by unfold numAt; rw [h1]
    rw [e, h1, Int.toNat_of_nonneg h2]
    exact ⟨rfl, by omega⟩
  refine ⟨?_, fun i hi => (kn i hi).2⟩
  apply Array.ext_getElem?
  intro i
  rcases Nat.lt_or_ge i 32 with hi | hi
  · rw [(kn i hi).1, aB_get 32 _ i hi]
  · rw [Array.getElem?_eq_none (by omega), Array.getElem?_eq_none (by rw [aB_size]; omega)]


theorem plain_addr {w : World} {a : Addr} {v : Value} (h : w.cell? (a.add 0) = some v) : ∃ b o, a = ⟨b, o, none⟩ := by
  obtain ⟨b, off, spot⟩ := a
  have hspot : spot = none := by simpa [Addr.add] using World.cell?_spot h
  exact ⟨b, off, by rw [hspot]⟩
/-- What is told of a list of lists of bytes that came in. -/
def IsLists (w : World) (a : Option Addr) (len : Nat) : Prop := ∃ (A : Nat → Option Addr) (L C : Nat → Nat) (X : Nat → Nat → Nat), LsAt w a len A L C X
theorem lists_open {H : Type} {enc : TypeId × Value → H} {w : World} {held : Bool} {fuel : Nat} {a : Option Addr} {len cap : Nat} {x : DataW H × List MemPlace}
    (h : DataW.trod enc Tryd.prog w 0 (fun _ => true) held fuel 22 (Value.slice a len cap).cells.toList = some x) : IsLists w a len := by
  rcases Go.Deep.open_int_rows Tryd.underlying22 Tryd.underlying26 Tryd.underlying5 (by kernel_rfl) (by kernel_rfl) h with ⟨hcs, _⟩ | ⟨b, l, c, A, L, C, Z, hcs, _, hl, _, _, hx⟩
  · simp [Value.cells] at hcs
    obtain ⟨rfl, rfl, rfl⟩ := hcs
    exact ⟨fun _ => none, fun _ => 0, fun _ => 0, fun _ _ => 0, .inl rfl⟩
  · simp [Value.cells] at hcs
    obtain ⟨rfl, rfl, rfl⟩ := hcs
    have hbd : ∀ i, i < len → ∀ j, j < L i → 0 ≤ (Z i).getD j 0 ∧ (Z i).getD j 0 ≤ 255 := fun i hi j hj => by
      obtain ⟨_, h1, h2, h3, h4, h5, h6⟩ := hx i (by omega)
      have hlt : j < (Z i).length := by omega
      have e : (Z i).getD j 0 = (Z i)[j] := by simp [List.getD, hlt]
      rw [e]; exact bounds_u8 (h4 _ (List.getElem_mem hlt))
    refine ⟨A, L, C, fun i j => ((Z i).getD j 0).toNat, ?_⟩
    by_cases h0 : len = 0
    · exact .inl h0
    · obtain ⟨b, o, rfl⟩ := plain_addr (hx 0 (by omega)).1
      refine .inr ⟨b, o, rfl, fun i hi => ⟨by rw [← add_plain']; exact (hx i (by omega)).1, ?_, (hx i (by omega)).2.1, fun e => ?_, fun j hj => ?_⟩⟩
      · obtain ⟨_, h1, h2, h3, h4, h5, h6⟩ := hx i (by omega)
        by_cases hL0 : L i = 0
        · exact .inl hL0
        · cases hA : A i with
          | none => have := h5 hA; omega
          | some a' =>
            have h7 := (h6 a' hA).2
            obtain ⟨b, o, rfl⟩ := plain_addr (h7 0 (by omega))
            refine .inr ⟨b, o, rfl, fun j hj => ?_⟩
            rw [← add_plain', h7 j (by omega)]
            show some (Value.int .u8 ((Z i).getD j 0)) = some (Value.int .u8 ((((Z i).getD j 0).toNat : Nat) : Int))
            rw [Int.toNat_of_nonneg (hbd i hi j hj).1]
      · obtain ⟨_, h1, h2, h3, h4, h5, h6⟩ := hx i (by omega)
        have := h5 e
        omega
      · have := hbd i hi j hj
        show ((Z i).getD j 0).toNat < 256
        omega
/-- What is told of a list of texts that came in. -/
def IsTexts (w : World) (a : Option Addr) (len : Nat) : Prop := ∃ S : Nat → ByteArray, TxtAt w a len S
theorem texts_open {H : Type} {enc : TypeId × Value → H} {w : World} {held : Bool} {fuel : Nat} {a : Option Addr} {len cap : Nat} {x : DataW H × List MemPlace}
    (h : DataW.trod enc Tryd.prog w 0 (fun _ => true) held fuel 25 (Value.slice a len cap).cells.toList = some x) : IsTexts w a len := by
  rcases open_strings Tryd.underlying25 Tryd.underlying9 (by kernel_rfl) h with ⟨hcs, _⟩ | ⟨b, l, c, ss, hcs, _, hl, hm, hz, _, hcell, hwz⟩
  · simp [Value.cells] at hcs
    obtain ⟨rfl, rfl, rfl⟩ := hcs
    exact ⟨fun _ => ⟨#[]⟩, .inl rfl⟩
  · simp [Value.cells] at hcs
    obtain ⟨rfl, rfl, rfl⟩ := hcs
    have hz' : ss.length = cap := by simpa using hz
    refine ⟨fun i => ss.getD i ByteArray.empty, ?_⟩
    by_cases h0 : len = 0
    · exact .inl h0
    · obtain ⟨b, o, rfl⟩ := plain_addr (hcell 0 (by omega))
      exact .inr ⟨b, o, rfl, fun i hi => by rw [← add_plain']; exact hcell i (by omega)⟩

theorem walk (p q : Option Addr) (n c m d : Nat) (x : Nat → Nat) (s : ByteArray) (w : World) (hx : ∀ i, i < 32 → x i < 256) (hl : IsLists w p n) (ht : IsTexts w q m) :
    Calls Tryd.prog 3 #[.slice p n c, .agg (aB 32 x), .string s, .slice q m d] w fun e w' => e = .returned (.bool true) ∧ Below w.heap.size w w' := by
  obtain ⟨A, L, C, X, hl⟩ := hl
  obtain ⟨S, ht⟩ := ht
  by_cases h : 5000 < n ∨ 100 < m ∨ 1000 < s.size
  · exact texts_far p q n c m d x s w h
  · exact texts_near p q n c m d A L C X S x s w (by omega) (by omega) (by omega) hx hl ht

set_option maxRecDepth 100000 in
theorem lifted (os : Os) (started : os.Started) (H : Type) (enc : TypeId × Value → H) :
    ReturnsInHanded {} Tryd.checked os 3 .any (fun w args => (Rows.digestTextsSpec.pre enc Tryd.prog Tryd.f3 [] false w args ∧ laidMetH Tryd.prog Rows.digestTextsRow.laid w) ∧ sizedMet enc Tryd.prog Tryd.f3 (OpenSpec.ofChange Rows.digestTextsSpec) false w args)
      (Rows.digestTextsSpec.post enc Tryd.prog Tryd.f3 false true false false) := by
  refine returnsInHanded_of_change_and (C := Tryd.checked) (X := fun w _ => laidMetH Tryd.prog Rows.digestTextsRow.laid w) (fun _ _ _ hh h => h.of_heap hh) own started (by kernel_rfl) Tryd.func3
    (ChangeSpec.witness_at (enc := enc) (C := Tryd.checked) (os := os) (X := fun w _ => laidMetH Tryd.prog Rows.digestTextsRow.laid w) false (World.laidAll Tryd.prog os Rows.digestTextsRow.laid) #[.slice none 0 0, .agg (aB 32 zB), .string ⟨#[]⟩, .slice none 0 0] 8 rfl (by kernel_rfl) (by kernel_rfl) (by kernel_rfl) (by kernel_rfl) (by kernel_rfl) (laidMet_laidAll _ (by kernel_rfl) (by kernel_rfl))) ?_
  intro W base args ds gs before hval0 hW _ _ hL _
  have hval : ∀ (j : Nat) t v, Tryd.f3.params[j]? = some t → args[j]? = some v → Value.okWide Tryd.prog W .any base t v := hval0
  have hW' := hW
  obtain ⟨p, q, hA0, hV0, rfl, hfz, hnd⟩ := hW
  have hA : DataW.TrodAll enc Tryd.prog W 0 (fun _ => true) true Tryd.f3.params.toList args.toList ds p := hA0
  have hV : DataW.TrodVars enc Tryd.prog W (fun _ => true) [] gs q := hV0
  rw [Tryd.params3] at hA hval
  obtain ⟨v0, vs0, d0, ds0, p0, q0, hargs, rfl, rfl, h0, r0⟩ := trodAll_cons hA
  obtain ⟨v1, vs1, d1, ds1, p1, q1, rfl, rfl, rfl, h1, r1⟩ := trodAll_cons r0
  obtain ⟨v2, vs2, d2, ds2, p2, q2, rfl, rfl, rfl, h2, r2⟩ := trodAll_cons r1
  obtain ⟨v3, vs3, d3, ds3, p3, q3, rfl, rfl, rfl, h3, r3⟩ := trodAll_cons r2
  obtain ⟨rfl, rfl, rfl⟩ := trodAll_nil r3
  obtain rfl : args = #[v0, v1, v2, v3] := by cases args; simp_all
  obtain ⟨rfl, rfl⟩ : gs = [] ∧ q = [] := by
    cases gs with
    | nil => exact ⟨rfl, hV⟩
    | cons g r => exact absurd hV (by intro h; cases h)
  obtain ⟨a0, len0, cap0, rfl⟩ := okWide_slice Tryd.underlying22 (hval 0 22 v0 rfl rfl)
  obtain ⟨cs, rfl, hsz⟩ := okWide_arr Tryd.underlying24 (hval 1 24 v1 rfl rfl)
  obtain ⟨s, rfl⟩ := okWide_string Tryd.underlying9 (hval 2 9 v2 rfl rfl)
  obtain ⟨a3, len3, cap3, rfl⟩ := okWide_slice Tryd.underlying25 (hval 3 25 v3 rfl rfl)
  have k0 := h0
  have lt0 : ∀ x ∈ p0, x.block < W.heap.size := by obtain ⟨m, hm⟩ := k0; exact DataW.trod_lt m _ _ _ hm
  have k1 := h1
  have lt1 : ∀ x ∈ p1, x.block < W.heap.size := by obtain ⟨m, hm⟩ := k1; exact DataW.trod_lt m _ _ _ hm
  have k2 := h2
  have lt2 : ∀ x ∈ p2, x.block < W.heap.size := by obtain ⟨m, hm⟩ := k2; exact DataW.trod_lt m _ _ _ hm
  have k3 := h3
  have lt3 : ∀ x ∈ p3, x.block < W.heap.size := by obtain ⟨m, hm⟩ := k3; exact DataW.trod_lt m _ _ _ hm
  obtain ⟨fuel0, hf0⟩ := h0
  obtain ⟨fuel1, hf1⟩ := h1
  obtain ⟨fuel3, hf3⟩ := h3
  have w0 := lists_open hf0
  obtain ⟨hcs, hlt⟩ := dig_open (by rw [hsz]; kernel_rfl) hf1
  have w3 := texts_open hf3
  clear hA0 hval0
  have hwalk := walk a0 a3 len0 cap0 len3 cap3 (numAt cs) s W hlt w0 w3
  rw [← hcs] at hwalk
  refine hwalk.mono fun e W' ⟨he, bel⟩ => ?_
  subst he
  refine ⟨_, rfl, _, _, _, [], _, [], hW', trodAll_mk1 (shut_bool Tryd.underlying4 true), (trodAll_cons_mk (Below.trod laidOut (by kernel_rfl) (of_decide_eq_true (by kernel_rfl)) k0 bel lt0) (trodAll_cons_mk (Below.trod laidOut (by kernel_rfl) (of_decide_eq_true (by kernel_rfl)) k1 bel lt1) (trodAll_cons_mk (Below.trod laidOut (by kernel_rfl) (of_decide_eq_true (by kernel_rfl)) k2 bel lt2) (trodAll_cons_mk (Below.trod laidOut (by kernel_rfl) (of_decide_eq_true (by kernel_rfl)) k3 bel lt3) trodAll_mk0)))), rfl, bel.frame _, fun h => by cases h⟩

theorem over : Rows.DigestTextsSaid :=
  OpenClaim.holds_of_wide 3 Tryd.f3 rfl rfl rfl rfl rfl rfl rfl ⟨rfl, rfl, rfl, rfl, rfl⟩ rfl rfl rfl rfl rfl (by kernel_rfl) Tryd.func3 (by kernel_rfl)
    (of_decide_eq_true (by kernel_rfl)) (by unfold Func.isWrapper; first | (rw [if_pos (by decide +kernel)]; kernel_rfl) | (rw [if_neg (by decide +kernel)]; exact ⟨rfl, rfl⟩))
    (fun os started H enc _ => lifted os started H enc)
end digestTexts
/-- The given statement. -/
theorem digestTexts_holds : Rows.DigestTextsCardSaid :=
  Claim7.holds_tied_plain_at .later [] [.data, .data, .data] true (true, "dd6ddafe34ee4daa84a6dafcc3222c6a206b2492786132db0f252837d1c9b8ee") false
    digestTexts.over (fun _ h => by cases h) (by kernel_rfl) (fun _ h => by cases h) digestTexts_row_tie rfl ⟨rfl, rfl⟩ (by kernel_rfl) rfl
    (fun f fn hf hfn => by
      obtain rfl : f = 3 := Option.some.inj ((show Tryd.prog.funcNamed Rows.digestTextsRow.func = some 3 by kernel_rfl).symm.trans hf) |>.symm
      obtain rfl : fn = Tryd.f3 := (Option.some.inj (Tryd.func3.symm.trans hfn)).symm
      exact ⟨by kernel_rfl, fun j t ht => by
        rw [Tryd.params3] at ht
        have h3 : t = 22 ∨ t = 24 ∨ t = 9 ∨ t = 25 := by
          rcases j with _ | j
          · left; simpa using ht.symm
          · rcases j with _ | j
            · right; left; simpa using ht.symm
            · rcases j with _ | j
              · right; right; left; simpa using ht.symm
              · rcases j with _ | j
                · right; right; right; simpa using ht.symm
                · simp at ht
        rcases h3 with rfl | rfl | rfl | rfl
        · exact (show Tryd.prog.wantsStandIn 22 = false by kernel_rfl)
        · exact (show Tryd.prog.wantsStandIn 24 = false by kernel_rfl)
        · exact (show Tryd.prog.wantsStandIn 9 = false by kernel_rfl)
        · exact (show Tryd.prog.wantsStandIn 25 = false by kernel_rfl)⟩)
    (by kernel_rfl)
#print axioms digestTexts_holds
end Go.Proofs.YtfhjioedelpgiaaDoor
