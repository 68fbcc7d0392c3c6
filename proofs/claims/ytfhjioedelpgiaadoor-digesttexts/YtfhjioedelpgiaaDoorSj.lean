/- Contracts of value, said and Read of package digest: the bytes that digits say, if there are just so many. -/
import Derived.Test.YtfhjioedelpgiaaDoorSi
namespace Go.Proofs.YtfhjioedelpgiaaDoor
open Go Go.RowKit

/-- What a digit stands for; whether it is one. -/
def dval (c : Nat) : Nat := if 48 ≤ c ∧ c ≤ 57 then c - 48 else if 97 ≤ c ∧ c ≤ 102 then c - 87 else 0
def isD (c : Nat) : Bool := decide ((48 ≤ c ∧ c ≤ 57) ∨ (97 ≤ c ∧ c ≤ 102))
theorem dval_lt (c : Nat) : dval c < 16 := by unfold dval; split; omega; split <;> omega
set_option maxHeartbeats 400000 in
theorem value_any (c : Nat) (hc : c < 256) (w : World) : Calls Tryd.prog 46 #[.int .u8 (c : Int)] w fun e w' => e = .returned (.tuple #[.int .u8 ((dval c : Nat) : Int), .bool (isD c)]) ∧ w' = w := by
  by_cases h1 : 48 ≤ c ∧ c ≤ 57
  · have e1 : dval c = c - 48 := by unfold dval; rw [if_pos h1]
    have e2 : isD c = true := by unfold isD; simp; omega
    have HH : Hid (dval c = c - 48 ∧ isD c = true) := ⟨e1, e2⟩
    clear e1 e2
    have k1 : (48 : Int) ≤ (c : Int) := by omega
    have k2 : (c : Int) ≤ 57 := by omega
    go_enter Tryd.func46, Tryd.ntmps46
    go_wp2
    go_ret2
    refine ⟨?_, rfl⟩
    rw [HH.out.1, HH.out.2]
    show Ending.returned (.tuple #[.int .u8 _, .bool true]) = _
    rw [show ((c - 48 : Nat) : Int) = (c : Int) - 48 by omega]
  · by_cases h2 : 97 ≤ c ∧ c ≤ 102
    · have e1 : dval c = c - 87 := by unfold dval; rw [if_neg h1, if_pos h2]
      have e2 : isD c = true := by unfold isD; simp; omega
      have HH : Hid (dval c = c - 87 ∧ isD c = true) := ⟨e1, e2⟩
      clear e1 e2
      have k1 : (97 : Int) ≤ (c : Int) := by omega
      have k2 : (c : Int) ≤ 102 := by omega
      have k3 : ¬ (c : Int) ≤ 57 := by omega
      have k4 : (48 : Int) ≤ (c : Int) := by omega
      go_enter Tryd.func46, Tryd.ntmps46
      go_wp2
      go_ret2
      refine ⟨?_, rfl⟩
      rw [HH.out.1, HH.out.2]
      show Ending.returned (.tuple #[.int .u8 _, .bool true]) = _
      rw [show ((c - 87 : Nat) : Int) = (c : Int) - 97 + 10 by omega]
    · have e1 : dval c = 0 := by unfold dval; rw [if_neg h1, if_neg h2]
      have e2 : isD c = false := by unfold isD; simp; omega
      have HH : Hid (dval c = 0 ∧ isD c = false) := ⟨e1, e2⟩
      clear e1 e2
      go_enter Tryd.func46, Tryd.ntmps46
      go_wp2
      all_goals first | (exfalso; omega) | skip
      all_goals (go_ret2; refine ⟨?_, rfl⟩; rw [HH.out.1, HH.out.2]; rfl)
/-- Digits say: all n signs of a text are digits. -/
def allD (n : Nat) (s : Nat → Nat) : Bool := (List.range n).all fun i => isD (s i)
theorem allD_iff (n : Nat) (s : Nat → Nat) : allD n s = true ↔ ∀ i, i < n → isD (s i) = true := by
  unfold allD; rw [List.all_eq_true]; simp
def sayF (s : Nat → Nat) (i : Nat) : Nat := 16 * dval (s (2 * i)) + dval (s (2 * i + 1))
/-- As far as k digits. -/
def sayTo (s : Nat → Nat) (k i : Nat) : Nat := if 2 * i + 1 < k then sayF s i else if 2 * i < k then dval (s (2 * i)) else 0
theorem sayF_lt (s : Nat → Nat) (i : Nat) : sayF s i < 256 := by
  unfold sayF; have := dval_lt (s (2 * i)); have := dval_lt (s (2 * i + 1)); omega
theorem sayTo_lt (s : Nat → Nat) (k i : Nat) : sayTo s k i < 256 := by
  unfold sayTo; have := dval_lt (s (2 * i)); have := sayF_lt s i; split; omega; split <;> omega
theorem or16 (a b : Nat) (ha : a < 16) (hb : b < 16) : bits .or .u8 ((a : Int) * 16 % 256) (b : Int) = ((16 * a + b : Nat) : Int) := by
  have h : ∀ a b : Fin 16, bits .or .u8 ((a.val : Int) * 16 % 256) (b.val : Int) = ((16 * a.val + b.val : Nat) : Int) := by decide +kernel
  exact h ⟨a, ha⟩ ⟨b, hb⟩
theorem sayTo_step (s : Nat → Nat) (k i : Nat) : upB (sayTo s k) (k / 2) (if k % 2 = 0 then dval (s k) else 16 * dval (s (k - 1)) + dval (s k)) i = sayTo s (k + 1) i := by
  unfold upB sayTo sayF
  by_cases e : i = k / 2
  · rw [if_pos e]
    by_cases h : k % 2 = 0
    · rw [if_pos h, if_neg (by omega), if_pos (by omega), show 2 * i = k by omega]
    · rw [if_neg h, if_pos (by omega), show 2 * i = k - 1 by omega, show k - 1 + 1 = k by omega]
  · rw [if_neg e]
    by_cases h : 2 * i + 1 < k
    · rw [if_pos h, if_pos (by omega)]
    · rw [if_neg h]
      by_cases q : 2 * i < k
      · exfalso; omega
      · simp only [q, show ¬ 2 * i + 1 < k + 1 by omega, show ¬ 2 * i < k + 1 by omega, if_false]
/-- A text's signs. -/
def sg (s : ByteArray) (i : Nat) : Nat := (s.data.getD i 0).toNat
theorem sg_lt (s : ByteArray) (i : Nat) : sg s i < 256 := by unfold sg; exact UInt8.toNat_lt _
theorem run_index_str (s : ByteArray) (k : Nat) (hk : k < s.size) (w : World) : (Instr.index 9 (.string s) (.int .i64 (k : Int))).run Tryd.prog w = .ok (.int .u8 ((sg s k : Nat) : Int)) w := by
  have h : s[k]? = some s[k] := getElem?_pos s k hk
  have h2 : sg s k = s[k].toNat := by
    unfold sg; rw [Array.getD_eq_getD_getElem?]
    have : s.data[k]? = some s[k] := by rw [Array.getElem?_eq_getElem hk]; rfl
    rw [this]; rfl
  have h0 : (0 : Int) ≤ (k : Int) := by omega
  rw [h2]
  simp [Instr.index, run_underlying (Tryd.underlying9), asIntOf, h]
theorem made_aB (n : Nat) : madeCells #[.int .u8 0] n = aB n zB := by
  apply Array.ext_getElem?
  intro i
  by_cases h : i < n
  · rw [madeCells_get _ _ _ h, aB_get n zB i h]; rfl
  · have : (madeCells #[Value.int .u8 0] n).size = n := by simp [madeCells]
    rw [Array.getElem?_eq_none (by omega), Array.getElem?_eq_none (by rw [aB_size]; omega)]
theorem row_of_CAt {w : World} {g n : Nat} {t : TypeId} {x : Nat → Nat} (h : CAt w g (aB n x) t) (m : Nat) (hm : m ≤ n) : RowAt w g 0 m x := fun i hi => by
  rw [Nat.zero_add]; exact h.cellB i (by omega)
def okS (s : ByteArray) (L : Nat) : Bool := decide (s.size = L) && allD L (sg s)
def SaidAt (w : World) (s : ByteArray) (L : Nat) (e : Ending) (w' : World) : Prop :=
  ∃ (p : Option Addr) (n : Nat), e = .returned (.tuple #[.slice p n n, .bool (okS s L)]) ∧ StrAt w' p n (sayF (sg s)) ∧ (okS s L = true → n = L / 2) ∧ n ≤ L / 2 ∧ Below w.heap.size w w'
theorem or16' (s : Nat → Nat) (k : Nat) : bits .or .u8 (((sayTo s k (k / 2) : Nat) : Int) * 16 % 256) ((dval (s k) : Nat) : Int) = (((if k % 2 = 0 then dval (s k) else 16 * dval (s (k - 1)) + dval (s k)) : Nat) : Int) := by
  by_cases h : k % 2 = 0
  · have e : sayTo s k (k / 2) = 0 := by unfold sayTo; rw [if_neg (by omega), if_neg (by omega)]
    rw [e, if_pos h]
    have := or16 0 (dval (s k)) (by omega) (dval_lt _)
    simpa using this
  · have e : sayTo s k (k / 2) = dval (s (k - 1)) := by unfold sayTo; rw [if_neg (by omega), if_pos (by omega), show 2 * (k / 2) = k - 1 by omega]
    rw [e, if_neg h]
    exact or16 _ _ (dval_lt _) (dval_lt _)
set_option maxRecDepth 100000 in
set_option maxHeartbeats 400000 in
theorem said_any (s : ByteArray) (L : Nat) (hL : L % 2 = 0) (hL2 : L ≤ 1000) (w : World) :
    Calls Tryd.prog 24 #[.string s, .int .i64 (L : Int)] w fun e w' => SaidAt w s L e w' := by
  by_cases hs : s.size = L
  · have hmk := run_make_u8 (L / 2) (by omega) w
    rw [made_aB, show ((L / 2 : Nat) : Int) = (L : Int) / 2 by omega] at hmk
    have hL' : (L : Int) ≤ 1000 := by omega
    have hs' : (s.size : Int) = (L : Int) := by omega
    have HL := hid hL
    have HS := hid hs
    clear hL
    go_enter Tryd.func24, Tryd.ntmps24
    go_wp2
    go_loopw [18] (fun v wr => ∃ k : Nat, k ≤ L ∧ v = .int .i64 k ∧ (∀ i, i < k → isD (sg s i) = true) ∧ CAt wr w.heap.size (aB (L / 2) (sayTo (sg s) k)) 5 ∧ Below w.heap.size w wr) (fun v _ => (L - intOf v).toNat)
    case atStart =>
      exact ⟨0, by omega, rfl, fun i hi => by omega, (CAt.new w (aB (L / 2) zB) 5).congr (aB_congr _ fun i _ => by unfold zB sayTo; rw [if_neg (by omega), if_neg (by omega)]), (Below.refl _ _).alloc (by omega) _⟩
    case round =>
      clear hmk
      obtain ⟨k, hk, rfl, hall, hc, hb⟩ := hrel
      have HA := hid hall
      have HB := hid hb
      clear hall hb
      by_cases hlt : k < L
      · have hix := run_index_str s k (by omega)
        have hlt' : (k : Int) < (L : Int) := by omega
        have c1 := hc.cellB (k / 2) (by have := HL.out; omega)
        have c2 := hc.free (k / 2)
        have ho := or16' (sg s) k
        have HC := hid hc
        have hkL : ((k / 2 : Nat) : Int) < ((L / 2 : Nat) : Int) := by have := HL.out; omega
        have HG := hid (sg_lt s k)
        clear hc
        by_cases hd : isD (sg s k) = true
        · go_wp2_with (go_at_call 46; refine (value_any _ HG.out _).mono ?_; rintro e w' ⟨rfl, rfl⟩)
          go_roundw
          case rel =>
            refine ⟨k + 1, by omega, by go_num, fun i hi => ?_, (HC.out.setB (k / 2) _).congr (aB_congr _ fun i _ => sayTo_step (sg s) k i), HB.out.setCell (by simp) _⟩
            by_cases e : i = k
            · rw [e]; exact hd
            · exact HA.out i (by omega)
          case measure => simp [intOf]; omega
        · have hd' : isD (sg s k) = false := by simpa using hd
          have hok : okS s L = false := by
            unfold okS
            cases ha : allD L (sg s) with
            | false => simp
            | true => exact absurd ((allD_iff L (sg s)).1 ha k hlt) hd
          have HK := hid hok
          clear hok hd
          go_wp2_with (go_at_call 46; refine (value_any _ HG.out _).mono ?_; rintro e w' ⟨rfl, rfl⟩)
          go_ret2
          refine ⟨none, 0, ?_, .inl rfl, fun h => ?_, by omega, HB.out⟩
          · rw [HK.out]; rfl
          · rw [HK.out] at h; cases h
      · have e : k = L := by omega
        have hok : okS s L = true := by
          unfold okS
          rw [HS.out, (allD_iff L (sg s)).2 (fun i hi => HA.out i (by omega))]; simp
        have HK := hid hok
        have hge : ¬ (k : Int) < (L : Int) := by omega
        have hst : StrAt wr (some ⟨w.heap.size, 0, none⟩) (L / 2) (sayF (sg s)) := .inr ⟨_, _, rfl, fun i hi => by
          rw [Nat.zero_add, hc.cellB i hi]
          unfold sayTo; rw [if_pos (by have := HL.out; omega)]⟩
        have HT := hid hst
        clear hok hc hst e
        go_wp2
        go_ret2
        refine ⟨some ⟨w.heap.size, 0, none⟩, L / 2, ?_, HT.out, fun _ => rfl, by omega, HB.out⟩
        rw [HK.out]
        show Ending.returned (.tuple #[.slice _ _ _, .bool true]) = _
        first
          | rfl
          | (congr 4 <;> omega)
  · have hs' : ¬ (s.size : Int) = (L : Int) := by omega
    have hok : okS s L = false := by unfold okS; simp [hs]
    have HK := hid hok
    clear hok hs
    go_enter Tryd.func24, Tryd.ntmps24
    go_wp2
    go_ret2
    refine ⟨none, 0, ?_, .inl rfl, fun h => ?_, by omega, Below.refl _ _⟩
    · rw [HK.out]; rfl
    · rw [HK.out] at h; cases h
theorem ret_row2 {P : Program} {fn : Func} {p u : Tmp} {ty : TypeId} (h : fn.results = #[.cell p ty, .tmp u]) {R : Ending → World → Prop} {a : Act} {w : World} (g : Nat) (t : TypeId) (cs : Array Value) (fr : Nat × Nat) (d : TypeDesc) (v : Value)
    (hd0 : a.defers = []) (hp : a.tmps.getD p undef = .pointer (some ⟨g, 0, none⟩)) (hv : a.tmps.getD u undef = v) (hg : w.heap[g]? = some (.cells cs t fr)) (hu : P.underlying ty = some d)
    (hd : (match d with | .struct _ | .array _ _ => true | _ => false) = true) (hi : (P.info? ty).map (·.size) = some cs.size) (hR : R (.returned (.tuple #[.agg cs, v])) w) : bodyPost P fn R .ret a w := by
  refine ⟨hd0, .tuple #[.agg cs, v], ?_, hR⟩
  have hl := run_loadVar_row (P := P) w g t ty cs fr d hg hu hd hi
  rw [results_cell_tmp h, hp, hv]
  simp [asAddr, hl]
/-- What Read tells. -/
def rdF (s : ByteArray) : Nat → Nat := if okS s 64 then sayF (sg s) else zB
def rdE (s : ByteArray) : Int := if okS s 64 then 0 else 4
theorem rdF_lt (s : ByteArray) (i : Nat) : rdF s i < 256 := by unfold rdF; split; exact sayF_lt _ _; unfold zB; omega
set_option maxHeartbeats 400000 in
theorem read_any (s : ByteArray) (w : World) :
    Calls Tryd.prog 10 #[.string s] w fun e w' => e = .returned (.tuple #[.agg (aB 32 (rdF s)), .int .i64 (rdE s)]) ∧ Below w.heap.size w w' := by
  by_cases hok : okS s 64 = true
  · have e1 : rdF s = sayF (sg s) := by unfold rdF; rw [if_pos hok]
    have e2 : rdE s = 0 := by unfold rdE; rw [if_pos hok]
    have HE : Hid (rdF s = sayF (sg s) ∧ rdE s = 0 ∧ okS s 64 = true) := ⟨e1, e2, hok⟩
    clear e1 e2 hok
    go_enter Tryd.func10, Tryd.ntmps10
    go_upto_region 2 with (first
      | refine wpList_alloc_row rfl 24 rfl _ zero32 ?_
      | (go_at_call 24; refine (said_any s 64 (by decide) (by decide) _).mono ?_; rintro e w1 ⟨p, n, rfl, hst, hn, _, hb⟩; rw [HE.out.2.2]))
    have hz : (w.alloc (.cells (aB 32 zB) 24)).heap.size = w.heap.size + 1 := by simp
    have hn32 : n = 32 := by have := hn HE.out.2.2; omega
    subst hn32
    have r0 : CAt w1 w.heap.size (aB 32 zB) 24 := (CAt.new w (aB 32 zB) 24).below hb (by rw [hz]; omega)
    have b0 : Below w.heap.size w w1 := ((Below.refl _ _).alloc (by omega) _).trans (hb.mono (by rw [hz]; omega))
    have hst1 : StrAt (w1.alloc (.cells (aB 32 zB) 24)) p 32 (sayF (sg s)) := hst.below ((Below.refl _ _).alloc (by omega) _)
    have d0 := CAt.new w1 (aB 32 zB) 24
    have hcp := run_copy_blk _ _ 32 _ zB p 32 32 _ d0 hst1
    rw [show min 32 32 = 32 by decide] at hcp
    have h3 : w.heap.size < w1.heap.size := r0.lt
    have HR := hid ((r0.alloc (.cells (aB 32 zB) 24)).rowOther (k := w1.heap.size) (aB 32 (ovl 32 (sayF (sg s)) zB)) (by omega))
    have HL := hid ((d0.row (aB 32 (ovl 32 (sayF (sg s)) zB))).congr (cs' := aB 32 (rdF s)) (aB_congr 32 fun i hi => by rw [HE.out.1]; unfold ovl; rw [if_pos hi]))
    have HB := hid (below_setRow (g := w1.heap.size) (b0.alloc (by omega) (.cells (aB 32 zB) 24)) (by omega) (aB 32 (ovl 32 (sayF (sg s)) zB)))
    clear r0 b0 hst hst1 d0 hb hn hz
    go_wp2_with (first
      | refine wpList_alloc_row rfl 24 rfl _ zero32 ?_
      | refine wpList_load_row rfl 24 _ rfl _ rfl _ _ _ _ HL.out Tryd.underlying24 rfl (size32 _) ?_
      | refine wpList_store_row rfl 24 _ _ rfl _ _ rfl rfl _ _ HR.out (size32 _) (by simp only [aB_size]) (aB_one _ _) ?_)
    refine ret_row2 rfl _ _ _ _ _ _ rfl rfl rfl (HR.out.row _) Tryd.underlying24 rfl (size32 _) ⟨?_, below_setRow HB.out (by omega) _⟩
    rw [HE.out.2.1]
    rfl
  · have hok' : okS s 64 = false := by simpa using hok
    have e1 : rdF s = zB := by unfold rdF; rw [if_neg hok]
    have e2 : rdE s = 4 := by unfold rdE; rw [if_neg hok]
    have HE : Hid (rdF s = zB ∧ rdE s = 4 ∧ okS s 64 = false) := ⟨e1, e2, hok'⟩
    clear e1 e2 hok hok'
    go_enter Tryd.func10, Tryd.ntmps10
    go_upto_region 2 with (first
      | refine wpList_alloc_row rfl 24 rfl _ zero32 ?_
      | (go_at_call 24; refine (said_any s 64 (by decide) (by decide) _).mono ?_; rintro e w1 ⟨p, n, rfl, hst, hn, _, hb⟩; rw [HE.out.2.2]))
    have hz : (w.alloc (.cells (aB 32 zB) 24)).heap.size = w.heap.size + 1 := by simp
    have r0 : CAt w1 w.heap.size (aB 32 zB) 24 := (CAt.new w (aB 32 zB) 24).below hb (by rw [hz]; omega)
    have b0 : Below w.heap.size w w1 := ((Below.refl _ _).alloc (by omega) _).trans (hb.mono (by rw [hz]; omega))
    have HR := hid r0
    have HB := hid b0
    clear r0 b0 hb hn hst hz
    go_wp2_with (first
      | refine wpList_build_to rfl 24 _ rfl (aB 32 zB) (by kernel_rfl) ?_
      | refine wpList_store_row rfl 24 _ _ rfl _ _ rfl rfl _ _ HR.out (size32 _) (by simp only [aB_size]) (aB_one _ _) ?_)
    refine ret_row2 rfl _ _ _ _ _ _ rfl rfl rfl (HR.out.row _) Tryd.underlying24 rfl (size32 _) ⟨?_, below_setRow HB.out (by omega) _⟩
    rw [HE.out.1, HE.out.2.1]
    rfl
end Go.Proofs.YtfhjioedelpgiaaDoor
