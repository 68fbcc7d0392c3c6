/- Contracts of Eight and Sum of the document's own answer: a number's eight bytes; the digest of bytes. -/
import Derived.Test.YtgmehiidnclgmaaRa
import Derived.Test.YtgmehiidnclgmaaSk
namespace Go.Proofs.Ytgmehiidnclgmaa
open Go Go.RowKit

def be8 (C i : Nat) : Nat := C / 2 ^ (56 - 8 * i) % 256
theorem be8_lt (C i : Nat) : be8 C i < 256 := Nat.mod_lt _ (by omega)
theorem be8_int (C k : Nat) : ((C : Nat) : Int) / 2 ^ (56 - 8 * k) % 256 = ((be8 C k : Nat) : Int) := by unfold be8; simp
def EightAt (w : World) (C : Nat) (e : Ending) (w' : World) : Prop := ∃ v, e = .returned v ∧ Buf w.heap.size w' v 8 (be8 C) ∧ Below w.heap.size w w'
/-- One byte behind a buffer. -/
theorem Buf.push {B : Nat} {w : World} {v : Value} {n : Nat} {x : Nat → Nat} (hv : Buf B w v n x) (u : Nat) (hn : n ≤ 1000000) (hB : B ≤ w.heap.size) :
    ∃ v' w', (Builtin.append_ #[22, 22] 22 #[v, .slice (some ⟨w.heap.size, 0, none⟩) 1 1]).run Try.prog (w.alloc (.cells #[.int .u8 ((u : Nat) : Int)] 5)) = .ok v' w' ∧ Buf B w' v' (n + 1) (fun i => if i < n then x i else u) ∧ Below B w w' := by
  have hb : Below w.heap.size w (w.alloc (.cells #[.int .u8 ((u : Nat) : Int)] 5)) := (Below.refl _ _).alloc (by omega) _
  have hs : StrAt (w.alloc (.cells #[.int .u8 ((u : Nat) : Int)] 5)) (some ⟨w.heap.size, 0, none⟩) 1 (fun _ => u) := .inr ⟨_, _, rfl, fun i hi => by
    have e : i = 0 := by omega
    subst e
    rw [cell_of_row _ _ _ _ 5 _ (heap_alloc_new _ _)]; rfl⟩
  obtain ⟨v', w', h1, h2, h3⟩ := (hv.below hb).app _ 1 1 _ hs (fun e => by cases e) (by omega) (Nat.le_trans hB hb.size)
  exact ⟨v', w', h1, h2, (hb.mono hB).trans h3⟩
set_option maxRecDepth 100000 in
set_option maxHeartbeats 1000000 in
theorem eight_any (C : Nat) (w : World) : Calls Try.prog 53 #[.int .u64 (C : Int)] w fun e w' => EightAt w C e w' := by
  go_enter Try.func53, Try.ntmps53
  go_wp2
  go_loopw [3, 4] (fun v i wr => ∃ k : Nat, k ≤ 8 ∧ i = .int .i64 k ∧ Buf w.heap.size wr v k (be8 C) ∧ Below w.heap.size w wr) (fun _ i _ => (8 - intOf i).toNat)
  case atStart => exact ⟨0, by omega, rfl, Buf.nil _ _ _, Below.refl _ _⟩
  case round =>
    obtain ⟨k, hk, rfl, hf, hb⟩ := hrel
    by_cases hlt : k < 8
    · have hlt' : (k : Int) < 8 := by omega
      obtain ⟨v', w2, hr, hf2, hb2⟩ := hf.push (be8 C k) (by omega) hb.size
      have HR := hid hr
      have HF := hid (hf2.congr (y := be8 C) (fun i hi => by
        by_cases q : i < k
        · rw [if_pos q]
        · rw [if_neg q, show i = k by omega]))
      have HB := hid (hb.trans hb2)
      have hv := be8_int C k
      clear hr hf2 hb2 hf hb
      go_wp2_with (refine wpList_append_eq rfl _ _ 22 rfl _ _ rfl rfl _ _ HR.out ?_)
      go_roundw
      case rel => exact ⟨k + 1, by omega, by go_num, HF.out, HB.out⟩
      case measure => simp [intOf]; omega
    · have e : k = 8 := by omega
      have hge : ¬ (k : Int) < 8 := by omega
      have hf8 := hf
      rw [e] at hf8
      have HF := hid hf8
      have HB := hid hb
      clear hf hf8 hb e
      go_wp2
      go_ret
      exact ⟨_, rfl, HF.out, HB.out⟩
theorem Buf.empty (B : Nat) (w : World) (hB : B ≤ w.heap.size) (x : Nat → Nat) : Buf B (w.alloc (.cells #[] 5)) (.slice (some ⟨w.heap.size, 0, none⟩) 0 0) 0 x :=
  ⟨by simp [valN], .inr ⟨w.heap.size, 0, #[], rfl, hB, heap_alloc_new _ _, by omega, by unfold maxLen; omega, rfl, by simp [valN]⟩⟩
/-- The bytes, a byte 128 and noughts. -/
def pz (n : Nat) (x : Nat → Nat) (i : Nat) : Nat := if i < n then x i else if i = n then 128 else 0
theorem pz_lt (n : Nat) (x : Nat → Nat) (hx : ∀ i, i < n → x i < 256) (i : Nat) : pz n x i < 256 := by
  unfold pz; by_cases h : i < n
  · rw [if_pos h]; exact hx i h
  · rw [if_neg h]; split <;> omega
theorem padF_lt (n : Nat) (x : Nat → Nat) (hx : ∀ i, i < n → x i < 256) (i : Nat) : padF n x i < 256 := by
  unfold padF; by_cases h : i < n
  · rw [if_pos h]; exact hx i h
  · rw [if_neg h]; split
    · omega
    · split
      · omega
      · exact Nat.mod_lt _ (by omega)
theorem pad_join (n : Nat) (x : Nat → Nat) (i : Nat) (hi : i < 64 * nbl n - 8 + 8) : (if i < 64 * nbl n - 8 then pz n x i else be8 (8 * n) (i - (64 * nbl n - 8))) = padF n x i := by
  have hq : 64 * nbl n ≤ n + 72 ∧ n + 72 < 64 * nbl n + 64 := by unfold nbl; omega
  unfold padF pz be8
  by_cases h : i < 64 * nbl n - 8
  · rw [if_pos h]
    by_cases h1 : i < n
    · rw [if_pos h1, if_pos h1]
    · rw [if_neg h1, if_neg h1]
      by_cases h2 : i = n
      · rw [if_pos h2, if_pos h2]
      · rw [if_neg h2, if_neg h2, if_pos h]
  · rw [if_neg h, if_neg (by omega), if_neg (by omega), if_neg h]
    rw [show (256 : Nat) = 2 ^ 8 by decide, ← Nat.pow_mul, show 8 * (64 * nbl n - 1 - i) = 56 - 8 * (i - (64 * nbl n - 8)) by omega]
structure RsM (w wr : World) (v : Value) (m : Nat) (f : Nat → Nat) : Prop where
  buf : Buf (w.heap.size + 1) wr v m f
  res : CAt wr w.heap.size (aB 32 zB) 61
  below : Below w.heap.size w wr
theorem RsM.size {w wr : World} {v : Value} {m : Nat} {f : Nat → Nat} (h : RsM w wr v m f) : w.heap.size + 1 ≤ wr.heap.size := h.res.lt
theorem out_byte2 (s : St) (k : Nat) (sw : BitVec 32) (h : s.get (k / 4) = sw) : wv sw / 2 ^ (24 - 8 * (k % 4)) % 256 = ((outB s k : Nat) : Int) := by
  unfold outB wv; rw [h]; simp
structure LpM (w wr : World) (gh gk ba oa M : Nat) (f : Nat → Nat) (s : St) : Prop where
  h : CAt wr gh (aW 8 s.get) 74
  k : CAt wr gk (aW 64 kk) 85
  row : RowAt wr ba oa M f
  res : CAt wr w.heap.size (aB 32 zB) 61
  below : Below w.heap.size w wr
theorem LpM.on {w wr w' : World} {gh gk ba oa M : Nat} {f : Nat → Nat} {s : St} (h : LpM w wr gh gk ba oa M f s) (hM : 0 < M) (hb : Below wr.heap.size wr w') : LpM w w' gh gk ba oa M f s :=
  ⟨h.h.below hb h.h.lt, h.k.below hb h.k.lt, h.row.below hb (cell_lt (h.row 0 hM)), h.res.below hb h.res.lt, h.below.trans (hb.mono h.below.size)⟩
theorem row_setRow {w : World} {b o n g : Nat} {x : Nat → Nat} (h : RowAt w b o n x) (hne : b ≠ g) (cs : Array Value) : RowAt (w.setRow g cs) b o n x := fun i hi => by
  rw [cell_setRow_other _ _ _ _ (by exact hne)]; exact h i hi
set_option maxRecDepth 100000 in
set_option maxHeartbeats 4000000 in
theorem rsum_any (p : Option Addr) (n c : Nat) (x : Nat → Nat) (w : World) (hn : n ≤ 500000) (hp : p = none → n = 0 ∧ c = 0) (hx : StrAt w p n x) (hb : ∀ i, i < n → x i < 256) :
    Calls Try.prog 38 #[.slice p n c] w fun e w' => e = .returned (.agg (aB 32 (sha n x))) ∧ Below w.heap.size w w' := by
  have hq : 64 * nbl n ≤ n + 72 ∧ n + 72 < 64 * nbl n + 64 := by unfold nbl; omega
  have HBX := hid hb
  have hn' : (n : Int) ≤ 500000 := by omega
  have hz1 : (w.alloc (.cells (aB 32 zB) 61)).heap.size = w.heap.size + 1 := by simp
  have b1 : Below w.heap.size w (w.alloc (.cells (aB 32 zB) 61)) := (Below.refl _ _).alloc (by omega) _
  have b2 : Below w.heap.size w ((w.alloc (.cells (aB 32 zB) 61)).alloc (.cells #[] 5)) := b1.alloc (by rw [hz1]; omega) _
  have f0 := Buf.empty (w.heap.size + 1) (w.alloc (.cells (aB 32 zB) 61)) (by omega) x
  rw [hz1] at f0
  obtain ⟨v1, w1, hr1, f1, bb1⟩ := f0.app p n c x (hx.below b2) hp (by omega) (by simp)
  have m1 : RsM w w1 v1 (0 + n) x := ⟨f1.congr (fun i hi => by rw [if_neg (by omega)]; simp), ((CAt.new w (aB 32 zB) 61).alloc _).below bb1 (by omega), b2.trans (bb1.mono (by omega))⟩
  rw [Nat.zero_add] at m1
  obtain ⟨v2, w2, hr2, f2, bb2⟩ := m1.buf.push 128 (by omega) m1.size
  have m2 : RsM w w2 v2 (n + 1) (pz n x) := ⟨f2.congr (fun i hi => by
    unfold pz
    by_cases q : i < n
    · rw [if_pos q, if_pos q]
    · rw [if_neg q, if_neg q, if_pos (by omega)]), m1.res.below bb2 (by omega), m1.below.trans (bb2.mono (by omega))⟩
  have HR1 := hid hr1
  have HR2 := hid hr2
  have HM2 := hid m2
  have HQ := hid hq
  clear hx hp hb hz1 b1 b2 f0 f1 bb1 hr1 m1 f2 bb2 hr2 m2 hq
  go_enter Try.func38, Try.ntmps38
  go_wp2_with (first
    | refine wpList_alloc_row rfl 61 rfl _ zero32 ?_
    | refine wpList_append_eq rfl _ _ 22 rfl _ _ rfl rfl _ _ HR1.out ?_
    | refine wpList_append_eq rfl _ _ 22 rfl _ _ rfl rfl _ _ HR2.out ?_)
  go_loopw [3] (fun v wr => ∃ m : Nat, n + 1 ≤ m ∧ m ≤ 64 * nbl n - 8 ∧ RsM w wr v m (pz n x)) (fun v _ => 64 * nbl n - lenV v)
  case atStart => exact ⟨n + 1, by omega, by have := HQ.out; omega, HM2.out⟩
  case round =>
    clear HM2 HR1 HR2
    obtain ⟨m, hm0, hm1, hm⟩ := hrel
    have hQ := HQ.out
    have hm' : (m : Int) ≤ 600000 := by omega
    by_cases hne : m % 64 = 56
    · have hne' : (m : Int) % 64 = 56 := by omega
      have hmM : m = 64 * nbl n - 8 := by omega
      obtain ⟨C, hC⟩ : ∃ C, C = 8 * n := ⟨_, rfl⟩
      have hCn : 8 * (n : Int) = (C : Int) := by omega
      have HC := hid hC
      obtain ⟨pv, cv, rfl, hcv, hst, hpn⟩ := hm.buf.str
      have HM := hid hm
      have HMM := hid hmM
      clear hm hC hst hpn hcv hQ hmM hne
      go_upto_region 6 with (first
        | (go_at_call 53; refine (eight_any C _).mono ?_; rintro e w3 ⟨v8, rfl, hf8, hb8⟩; obtain ⟨p8, c8, rfl, hc8, hs8, hp8⟩ := hf8.str; obtain ⟨v9, w4, hr9, hf9, hb9⟩ := (HM.out.buf.below hb8).app p8 8 c8 _ hs8 hp8 (by have := HMM.out; omega) (Nat.le_trans HM.out.size hb8.size); have HR9 := hid hr9; have HM4 := hid (RsM.mk hf9 ((HM.out.res.below hb8 HM.out.res.lt).below hb9 (by omega)) ((HM.out.below.trans (hb8.mono HM.out.below.size)).trans (hb9.mono (by omega)))); clear hr9 hf9 hb9 hf8 hb8 hs8 hp8 hc8)
        | refine wpList_append_eq rfl _ _ 22 rfl _ _ rfl rfl _ _ HR9.out ?_)
      have hpz : Buf (w.heap.size + 1) w4 v9 (64 * nbl n) (padF n x) := by
        have h1 := HM4.out.buf
        rw [HMM.out, HC.out] at h1
        have h2 := h1.congr (y := padF n x) (fun i hi => pad_join n x i hi)
        have hQ2 := HQ.out
        rwa [show 64 * nbl n - 8 + 8 = 64 * nbl n by omega] at h2
      have hres := HM4.out.res
      have hbel := HM4.out.below
      obtain ⟨pa, ca, rfl, hca, hsa, _⟩ := hpz.str
      have hpos : 0 < 64 * nbl n := by have := HQ.out; omega
      obtain ⟨ba, oa, rfl, hra⟩ : ∃ b o, pa = some ⟨b, o, none⟩ ∧ RowAt w4 b o (64 * nbl n) (padF n x) := by
        rcases hsa with h | h
        · omega
        · exact h
      have hlba : ba < w4.heap.size := cell_lt (hra 0 hpos)
      have HRES := hid hres
      have HBEL := hid hbel
      have HRA := hid hra
      have HLB := hid hlba
      have hM6 : ((64 * nbl n : Nat) : Int) ≤ 600000 := by have := HQ.out; omega
      clear hpz hres hbel hsa hra hlba hca HM4 HM HR9 hm0 hm1 hm' hne' hCn HMM
      generalize hM : 64 * nbl n = M at *
      have HMn := hid hM
      clear hM
      go_upto_region 8 with (first
        | refine wpList_alloc_row rfl 74 rfl _ zero8r ?_
        | refine wpList_alloc_row rfl 85 rfl _ zero64 ?_
        | (go_at_call 54; refine (begin_any _).mono ?_; rintro e w5 ⟨rfl, hb5⟩)
        | (go_at_call 55; refine (table_any _).mono ?_; rintro e w6 ⟨rfl, hb6⟩)
        | refine wpList_store_row rfl 74 _ _ rfl _ _ rfl rfl _ _ (CAt.new _ _ _) (size8r _) (by simp only [aW_size]) (aW_one _ _) ?_
        | refine wpList_store_row rfl 85 _ _ rfl _ _ rfl rfl _ _ (CAt.new _ _ _) (size64 _) (by simp only [aW_size]) (aW_one _ _) ?_)
      have hz5 : ((w5.alloc (.cells (aW 8 zW) 74)).setRow w5.heap.size (aW 8 st0.get)).heap.size = w5.heap.size + 1 := by simp
      have hl5 : ba < w5.heap.size := Nat.lt_of_lt_of_le HLB.out hb5.size
      have r5 := HRES.out.below hb5 HRES.out.lt
      have hH5 : w.heap.size < w5.heap.size := r5.lt
      have e5 : Below w.heap.size w ((w5.alloc (.cells (aW 8 zW) 74)).setRow w5.heap.size (aW 8 st0.get)) := below_setRow ((HBEL.out.trans (hb5.mono HBEL.out.size)).alloc (by omega) _) (by omega) _
      have c5 : CAt ((w5.alloc (.cells (aW 8 zW) 74)).setRow w5.heap.size (aW 8 st0.get)) w5.heap.size (aW 8 st0.get) 74 := (CAt.new _ _ _).row _
      have r6 := ((r5.alloc (.cells (aW 8 zW) 74)).rowOther (k := w5.heap.size) (aW 8 st0.get) (by omega)).below hb6 (by rw [hz5]; omega)
      have c6 := c5.below hb6 c5.lt
      have ra5 : RowAt ((w5.alloc (.cells (aW 8 zW) 74)).setRow w5.heap.size (aW 8 st0.get)) ba oa M (padF n x) := row_setRow ((HRA.out.below hb5 HLB.out).below ((Below.refl w5.heap.size w5).alloc (by omega) _) hl5) (by omega) _
      have ra6 := ra5.below hb6 (by rw [hz5]; omega)
      have e6 := e5.trans (hb6.mono (by rw [hz5]; omega))
      have h56 : w5.heap.size < w6.heap.size := by have := hb6.size; rw [hz5] at this; omega
      have m6 : LpM w ((w6.alloc (.cells (aW 64 zW) 85)).setRow w6.heap.size (aW 64 kk)) w5.heap.size w6.heap.size ba oa M (padF n x) (hs (padF n x) 0) :=
        ⟨(c6.alloc _).rowOther _ (by omega), (CAt.new _ _ _).row _, row_setRow (ra6.below ((Below.refl w6.heap.size w6).alloc (by omega) _) (by omega)) (by omega) _, (r6.alloc _).rowOther _ (by omega), below_setRow (e6.alloc (by omega) _) (by omega) _⟩
      have HM6 := hid m6
      have HORD : Hid (ba < w5.heap.size ∧ w5.heap.size < w6.heap.size ∧ w.heap.size < w5.heap.size) := ⟨hl5, h56, hH5⟩
      clear hz5 hl5 r5 hH5 e5 c5 r6 c6 ra5 ra6 e6 h56 m6 hb5 hb6 HRES HBEL HRA HLB
      simp only [Act.put, List.setIfInBounds_toArray, List.set_cons_succ, List.set_cons_zero]
      generalize ((w6.alloc (.cells (aW 64 zW) 85)).setRow w6.heap.size (aW 64 kk)) = w7 at *
      generalize w6.heap.size = gk at *
      generalize w5.heap.size = gh at *
      go_wp2
      go_loopw [6] (fun v wr => ∃ q a : Nat, q ≤ nbl n ∧ a = 64 * q ∧ v = .int .i64 a ∧ LpM w wr gh gk ba oa M (padF n x) (hs (padF n x) q)) (fun v _ => (M - intOf v).toNat)
      case atStart => exact ⟨0, 0, by omega, rfl, rfl, HM6.out⟩
      case round =>
        clear HM6
        obtain ⟨q, a, hqn, ha, rfl, hlp⟩ := hrel
        have HA := hid ha
        have hM1 := HMn.out
        by_cases hlq : q < nbl n
        · have hlt' : (a : Int) < (M : Int) := by omega
          have ha6 : (a : Int) ≤ 600000 := by omega
          have HAM : Hid (a + 64 ≤ M ∧ M ≤ 2000000) := by constructor <;> omega
          have HL := hid hlp
          clear hlp ha hM1
          go_wp2_with (first
            | refine wpList_load_row rfl 74 _ rfl _ rfl _ _ _ _ HL.out.h Try.underlying74 rfl (size8r _) ?_
            | refine wpList_load_row rfl 85 _ rfl _ rfl _ _ _ _ HL.out.k Try.underlying85 rfl (size64 _) ?_
            | (go_at_call 56; refine (rblock_any _ _ _ _ _ _ (padF n x) _ HAM.out.2 HL.out.row (fun i _ => padF_lt n x HBX.out i) HAM.out.1).mono ?_; rintro e w8 ⟨rfl, hb8⟩; have HL8 := hid (HL.out.on hpos hb8); clear hb8)
            | refine wpList_store_row rfl 74 _ _ rfl _ _ rfl rfl _ _ HL8.out.h (size8r _) (by simp only [aW_size]) (aW_one _ _) ?_)
          go_roundw
          case rel =>
            have ho := HORD.out
            refine ⟨q + 1, a + 64, by omega, by have := HA.out; omega, by go_num, HL8.out.h.row _ |>.congr ?_, HL8.out.k.rowOther _ (by omega), row_setRow HL8.out.row (by omega) _, HL8.out.res.rowOther _ (by omega), below_setRow HL8.out.below (by omega) _⟩
            rw [hs, HA.out]
          case measure => simp [intOf]; omega
        · have hge : ¬ (a : Int) < (M : Int) := by omega
          have hq2 : q = nbl n := by omega
          have HS : Hid (hs (padF n x) q = shaSt n x) := by rw [hq2]; rfl
          have HL := hid hlp
          clear hlp ha hM1 hq2 hqn
          go_wp2_with (refine wpList_alloc_row rfl 61 rfl _ zero32 ?_)
          have hl9 : w.heap.size < wr.heap.size := HL.out.res.lt
          have hh9 : gh < wr.heap.size := HL.out.h.lt
          have m9 : CAt (wr.alloc (.cells (aB 32 zB) 61)) gh (aW 8 (shaSt n x).get) 74 := by rw [← HS.out]; exact HL.out.h.alloc _
          have n9 := HL.out.res.alloc (.cells (aB 32 zB) 61)
          have b9 := HL.out.below.alloc HL.out.below.size (.cells (aB 32 zB) 61)
          have o9 : CAt (wr.alloc (.cells (aB 32 zB) 61)) wr.heap.size (aB 32 (upTo (outB (shaSt n x)) 0)) 61 := (CAt.new wr (aB 32 zB) 61).congr (aB_congr 32 fun i _ => upTo_zero _ i)
          have HM9 := hid m9
          have HN9 := hid n9
          have HB9 := hid b9
          have HO9 := hid o9
          have HORD2 : Hid (w.heap.size < wr.heap.size ∧ gh < wr.heap.size) := ⟨hl9, hh9⟩
          clear m9 n9 b9 o9 HL HS hl9 hh9
          generalize (wr.alloc (.cells (aB 32 zB) 61)) = w9 at *
          generalize wr.heap.size = go at *
          generalize hsf : shaSt n x = sf at *
          have HSF := hid hsf
          clear hsf
          go_loopw [8] (fun v wr => ∃ k : Nat, k ≤ 32 ∧ v = .int .i64 k ∧ CAt wr gh (aW 8 sf.get) 74 ∧ CAt wr w.heap.size (aB 32 zB) 61 ∧ CAt wr go (aB 32 (upTo (outB sf) k)) 61 ∧ Below w.heap.size w wr) (fun v _ => (32 - intOf v).toNat)
          case atStart => exact ⟨0, by omega, rfl, HM9.out, HN9.out, HO9.out, HB9.out⟩
          case round =>
            clear HM9 HN9 HO9 HB9
            obtain ⟨k, hk, rfl, hs, hz, hc, hb⟩ := hrel
            by_cases hlk : k < 32
            · have c1 := hs.cellW (k / 4) (by omega)
              have c2 := hc.cellB k hlk
              have c3 := hc.free k
              generalize hsw : sf.get (k / 4) = sw at *
              have hv := out_byte2 sf k sw hsw
              have HS := hid hs
              have HZ := hid hz
              have HCC := hid hc
              have HB := hid hb
              have hlk' : (k : Int) < 32 := by omega
              clear hs hz hc hb hsw
              go_wp2
              go_roundw
              case rel =>
                have ho := HORD2.out
                exact ⟨k + 1, by omega, by go_num, HS.out.other _ _ (by show gh ≠ go; omega), HZ.out.other _ _ (by show w.heap.size ≠ go; omega), (HCC.out.setB k _).congr (aB_congr 32 fun i _ => upTo_step _ k i), HB.out.setCell (by show w.heap.size ≤ go; omega) _⟩
              case measure => simp [intOf]; omega
            · have e : k = 32 := by omega
              have hc2 := hc.congr (cs' := aB 32 (outB sf)) (aB_congr 32 fun i hi => upTo_at _ _ _ (by omega))
              have HZ := hid hz
              have HCC := hid hc2
              have HB := hid hb
              have hgk : ¬ (k : Int) < 32 := by omega
              clear hs hz hc hb hc2 e
              go_wp2_with (first
                | refine wpList_load_row rfl 61 _ rfl _ rfl _ _ _ _ HCC.out Try.underlying61 rfl (size32 _) ?_
                | refine wpList_store_row rfl 61 _ _ rfl _ _ rfl rfl _ _ HZ.out (size32 _) (by simp only [aB_size]) (aB_one _ _) ?_)
              have hfin : aB 32 (outB sf) = aB 32 (sha n x) := aB_congr 32 fun i _ => by unfold sha; rw [HSF.out]
              refine ret_row rfl _ _ _ _ _ rfl rfl (HZ.out.row _) Try.underlying61 rfl (size32 _) ⟨?_, below_setRow HB.out (by omega) _⟩
              rw [hfin]
    · have hne' : ¬ (m : Int) % 64 = 56 := by omega
      obtain ⟨v', w5, hr5, hf5, hb5⟩ := hm.buf.push 0 (by omega) hm.size
      have m5 : RsM w w5 v' (m + 1) (pz n x) := ⟨hf5.congr (fun i hi => by
        by_cases q : i < m
        · rw [if_pos q]
        · rw [if_neg q]; unfold pz; rw [if_neg (by omega), if_neg (by omega)]), hm.res.below hb5 (by omega), hm.below.trans (hb5.mono (by omega))⟩
      obtain ⟨pv, cv, rfl, hcv, hst, hpn⟩ := hm.buf.str
      obtain ⟨p5, c5, e5, _, _, _⟩ := m5.buf.str
      have HR5 := hid hr5
      have HM5 := hid m5
      have HE5 := hid e5
      clear hm hr5 hf5 hb5 m5 e5 hcv hst hpn hQ hne
      go_wp2_with (refine wpList_append_eq rfl _ _ 22 rfl _ _ rfl rfl _ _ HR5.out ?_)
      go_roundw
      case rel => exact ⟨m + 1, by omega, by have := HQ.out; omega, HM5.out⟩
      case measure => rw [HE5.out]; simp only [lenV]; have := HQ.out; omega
end Go.Proofs.Ytgmehiidnclgmaa
