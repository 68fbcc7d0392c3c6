/- Texts laid into one, cut to what is needed: the remark ahead of each part says what is proved there. -/
import Derived.Test.YtelkijiphhoacaaGreatDoorMao
import Derived.Maps.AppendAt
import Derived.Laws.AppendOwnNone
import Derived.Test.YtelkijiphhoacaaGreatDoorMaa
import Derived.Test.YtelkijiphhoacaaGreatDoorMak
import Derived.Test.YtelkijiphhoacaaGreatDoorMaj
import Derived.Lib.SlBytesConst
import Derived.Deep.QuietTactic
import Derived.BigQuiet
/- A buffer of bytes that a call fills by append. -/
namespace Go.Proofs.YtelkijiphhoacaaGreatDoor.H
open Go Go.RowKit

def Buf (B : Nat) (w : World) (v : Value) (n : Nat) (x : Nat → Nat) : Prop := w.ownsRow B 5 1 v n (valN n x)
theorem Buf.nil (B : Nat) (w : World) (x : Nat → Nat) : Buf B w (.slice none 0 0) 0 x := by
  have := World.ownsRow_nil w B 5 1
  unfold Buf valN; simpa using this
theorem valN_congr (n : Nat) {x y : Nat → Nat} (h : ∀ i, i < n → x i = y i) : valN n x = valN n y := by
  unfold valN; apply List.map_congr_left; intro i hi; rw [h i (List.mem_range.1 hi)]
theorem Buf.congr {B : Nat} {w : World} {v : Value} {n : Nat} {x y : Nat → Nat} (h : Buf B w v n x) (e : ∀ i, i < n → x i = y i) : Buf B w v n y := by
  unfold Buf at *; rwa [← valN_congr n e]
theorem Buf.str {B : Nat} {w : World} {v : Value} {n : Nat} {x : Nat → Nat} (h : Buf B w v n x) : ∃ p c, v = .slice p n c ∧ n ≤ c ∧ StrAt w p n x ∧ (p = none → n = 0 ∧ c = 0) := by
  have h0 : w.ownsRow B 5 1 v n (valN n x) := h
  obtain ⟨hl, h | ⟨g, cap, cur, rfl, hB, hg, hc, _, hs, ht⟩⟩ := h0
  · obtain ⟨rfl, rfl⟩ := h
    exact ⟨none, 0, rfl, by omega, .inl rfl, fun _ => ⟨rfl, rfl⟩⟩
  · refine ⟨some ⟨g, 0, none⟩, cap, rfl, hc, .inr ⟨g, 0, rfl, fun i hi => ?_⟩, fun e => by cases e⟩
    have h1 : w.ownsRow B 5 1 (.slice (some ⟨g, 0, none⟩) n cap) n (valN n x) := h
    have h2 := h1.cellAt i (by omega)
    rw [Nat.zero_add, h2, valN_get n x i hi]
theorem Buf.below {B : Nat} {w w' : World} {v : Value} {n : Nat} {x : Nat → Nat} (h : Buf B w v n x) (hb : Below w.heap.size w w') : Buf B w' v n x := by
  obtain ⟨hl, h | ⟨g, cap, cur, rfl, hB, hg, hc, hm, hs, ht⟩⟩ := h
  · exact ⟨hl, .inl h⟩
  · refine ⟨hl, .inr ⟨g, cap, cur, rfl, hB, ?_, hc, hm, hs, ht⟩⟩
    exact (hb.block g (CAt.lt hg)).trans hg
theorem valN_app (n l : Nat) (x y : Nat → Nat) : valN n x ++ valN l y = valN (n + l) (fun i => if i < n then x i else y (i - n)) := by
  apply List.ext_getElem?
  intro i
  by_cases h : i < n
  · rw [List.getElem?_append_left (by rw [valN_len]; exact h), valN_get _ _ _ h, valN_get _ _ _ (by omega), if_pos h]
  · rw [List.getElem?_append_right (by rw [valN_len]; omega), valN_len]
    by_cases h2 : i < n + l
    · rw [valN_get _ _ _ (by omega), valN_get _ _ _ h2, if_neg h]
    · rw [List.getElem?_eq_none (by rw [valN_len]; omega), List.getElem?_eq_none (by rw [valN_len]; omega)]
theorem Buf.app {B : Nat} {w : World} {v : Value} {n : Nat} {x : Nat → Nat} (hv : Buf B w v n x) (p : Option Addr) (l c : Nat) (y : Nat → Nat) (hy : StrAt w p l y) (hp : p = none → l = 0 ∧ c = 0) (hn : n + l ≤ 2000000) (hB : B ≤ w.heap.size) :
    ∃ v' w', (Builtin.append_ #[28, 28] 28 #[v, .slice p l c]).run Tryz.prog w = .ok v' w' ∧ Buf B w' v' (n + l) (fun i => if i < n then x i else y (i - n)) ∧ Below B w w' := by
  obtain ⟨i0, hi0, hz0, hz1, hz2⟩ := info_parts Tryz.info5
  cases p with
  | none =>
    obtain ⟨rfl, rfl⟩ := hp rfl
    refine ⟨v, w, run_append_owned_none (P := Tryz.prog) (w := w) B 28 28 5 i0 1 Tryz.underlying28 hi0 v n _ hv, ?_, Below.refl _ _⟩
    exact hv.congr (fun i hi => by rw [if_pos hi])
  | some a =>
    obtain ⟨v', w', hr, h2, h3, _, _⟩ := run_append_own_at (P := Tryz.prog) w B 28 28 5 i0 (.int .u8 0) 1 1 Tryz.underlying28 hi0 hz0 hz1 hz2 rfl (by decide) v n (valN n x) hv a l c (valN l y) (by rw [valN_len, Nat.mul_one])
      (fun j u hj => by
        have hlt : j < l := by
          rcases Nat.lt_or_ge j l with h | h
          · exact h
          · rw [List.getElem?_eq_none (by rw [valN_len]; exact h)] at hj; cases hj
        rw [valN_get _ _ _ hlt] at hj
        cases hj
        rcases hy with h | ⟨b, o, e, hr⟩
        · omega
        · cases e
          rw [add_plain']; exact hr j hlt)
      (fun u hu => by
        simp only [valN, List.mem_map] at hu
        obtain ⟨i, _, rfl⟩ := hu; rfl) (by unfold maxLen; omega) (by omega) hB
    refine ⟨v', w', hr, ?_, (Below.refl _ _).grown h3 hB (fun k hk => (hv.lt k hk).1)⟩
    unfold Buf
    rw [← valN_app]; exact h2

theorem wpList_append_eq {P : Program} {w : World} {ops : Array Oper} {rest : List Oper} {o : Oper} {a : Act} {Q : Exit → Act → World → Prop} (hgd : o.guard = none) (s x : Operand) (t : TypeId)
    (ho : o.op = .call { callee := .builtin .append, args := #[s, x], argTypes := #[t, t] }) (v y : Value) (hs : a.eval s = v) (hx : a.eval x = y) (v' : Value) (w' : World)
    (hr : (Builtin.append_ #[t, t] o.type #[v, y]).run P w = .ok v' w') (h : wpList P ops Q rest (a.put o.dst v') w') : wpList P ops Q (o :: rest) a w := by
  refine wpList_plain hgd fun K hK => ?_
  unfold Oper.wp
  simp [execOp, ho, resolve, invoke, builtin, hs, hx, hr, Result.andThen]
  exact hK _ _ h
end Go.Proofs.YtelkijiphhoacaaGreatDoor.H

/- Contracts of Eight and Sum of the document's own answer: a number's eight bytes; the digest of bytes. -/
namespace Go.Proofs.YtelkijiphhoacaaGreatDoor.H
open Go Go.RowKit

def be8 (C i : Nat) : Nat := C / 2 ^ (56 - 8 * i) % 256
theorem be8_int (C k : Nat) : ((C : Nat) : Int) / 2 ^ (56 - 8 * k) % 256 = ((be8 C k : Nat) : Int) := by unfold be8; simp
def EightAt (w : World) (C : Nat) (e : Ending) (w' : World) : Prop := ∃ v, e = .returned v ∧ Buf w.heap.size w' v 8 (be8 C) ∧ Below w.heap.size w w'
/-- One byte behind a buffer. -/
theorem Buf.push {B : Nat} {w : World} {v : Value} {n : Nat} {x : Nat → Nat} (hv : Buf B w v n x) (u : Nat) (hn : n ≤ 1000000) (hB : B ≤ w.heap.size) :
    ∃ v' w', (Builtin.append_ #[28, 28] 28 #[v, .slice (some ⟨w.heap.size, 0, none⟩) 1 1]).run Tryz.prog (w.alloc (.cells #[.int .u8 ((u : Nat) : Int)] 5)) = .ok v' w' ∧ Buf B w' v' (n + 1) (fun i => if i < n then x i else u) ∧ Below B w w' := by
  have hb : Below w.heap.size w (w.alloc (.cells #[.int .u8 ((u : Nat) : Int)] 5)) := (Below.refl _ _).alloc (by omega) _
  have hs : StrAt (w.alloc (.cells #[.int .u8 ((u : Nat) : Int)] 5)) (some ⟨w.heap.size, 0, none⟩) 1 (fun _ => u) := .inr ⟨_, _, rfl, fun i hi => by
    have e : i = 0 := by omega
    subst e
    rw [cell_of_row _ _ _ _ 5 _ (heap_alloc_new _ _)]; rfl⟩
  obtain ⟨v', w', h1, h2, h3⟩ := (hv.below hb).app _ 1 1 _ hs (fun e => by cases e) (by omega) (Nat.le_trans hB hb.size)
  exact ⟨v', w', h1, h2, (hb.mono hB).trans h3⟩
set_option maxRecDepth 100000 in
set_option maxHeartbeats 1000000 in
theorem eight_any (C : Nat) (w : World) : Calls Tryz.prog 40 #[.int .u64 (C : Int)] w fun e w' => EightAt w C e w' := by
  go_enter Tryz.func40, Tryz.ntmps40
  go_wp2
  go_loopw [3, 4] (fun v i wr => ∃ k : Nat, k ≤ 8 ∧ i = .int .i64 k ∧ Buf w.heap.size wr v k (be8 C) ∧ Below w.heap.size w wr) (fun _ i _ => (8 - intOf i).toNat)
  case atStart => exact ⟨0, by omega, rfl, Buf.nil _ _ _, Below.refl _ _⟩
  case round =>
    obtain ⟨k, hk, rfl, hf, hb⟩ := hrel
    by_cases hlt : k < 8
    · have hlt' : (k : Int) < 8 := by omega
      obtain ⟨v', w2, hr, hf2, hb2⟩ := hf.push (be8 C k) (by omega) hb.size
      have HR := hid hr
      have HF := hid (hf2.congr (y := be8 C) (fun i hi => by
        by_cases q : i < k
        · rw [if_pos q]
        · rw [if_neg q, show i = k by omega]))
      have HB := hid (hb.trans hb2)
      have hv := be8_int C k
      clear hr hf2 hb2 hf hb
      go_wp2_with (refine wpList_append_eq rfl _ _ 28 rfl _ _ rfl rfl _ _ HR.out ?_)
      go_roundw
      case rel => exact ⟨k + 1, by omega, by go_num, HF.out, HB.out⟩
      case measure => simp [intOf]; omega
    · have e : k = 8 := by omega
      have hge : ¬ (k : Int) < 8 := by omega
      have hf8 := hf
      rw [e] at hf8
      have HF := hid hf8
      have HB := hid hb
      clear hf hf8 hb e
      go_wp2
      go_ret
      exact ⟨_, rfl, HF.out, HB.out⟩
theorem Buf.empty (B : Nat) (w : World) (hB : B ≤ w.heap.size) (x : Nat → Nat) : Buf B (w.alloc (.cells #[] 5)) (.slice (some ⟨w.heap.size, 0, none⟩) 0 0) 0 x :=
  ⟨by simp [valN], .inr ⟨w.heap.size, 0, #[], rfl, hB, heap_alloc_new _ _, by omega, by unfold maxLen; omega, rfl, by simp [valN]⟩⟩
/-- The bytes, a byte 128 and noughts. -/
def pz (n : Nat) (x : Nat → Nat) (i : Nat) : Nat := if i < n then x i else if i = n then 128 else 0
theorem pz_lt (n : Nat) (x : Nat → Nat) (hx : ∀ i, i < n → x i < 256) (i : Nat) : pz n x i < 256 := by
  unfold pz; by_cases h : i < n
  · rw [if_pos h]; exact hx i h
  · rw [if_neg h]; split <;> omega
theorem padF_lt (n : Nat) (x : Nat → Nat) (hx : ∀ i, i < n → x i < 256) (i : Nat) : padF n x i < 256 := by
  unfold padF; by_cases h : i < n
  · rw [if_pos h]; exact hx i h
  · rw [if_neg h]; split
    · omega
    · split
      · omega
      · exact Nat.mod_lt _ (by omega)
theorem pad_join (n : Nat) (x : Nat → Nat) (i : Nat) (hi : i < 64 * nbl n - 8 + 8) : (if i < 64 * nbl n - 8 then pz n x i else be8 (8 * n) (i - (64 * nbl n - 8))) = padF n x i := by
  have hq : 64 * nbl n ≤ n + 72 ∧ n + 72 < 64 * nbl n + 64 := by unfold nbl; omega
  unfold padF pz be8
  by_cases h : i < 64 * nbl n - 8
  · rw [if_pos h]
    by_cases h1 : i < n
    · rw [if_pos h1, if_pos h1]
    · rw [if_neg h1, if_neg h1]
      by_cases h2 : i = n
      · rw [if_pos h2, if_pos h2]
      · rw [if_neg h2, if_neg h2, if_pos h]
  · rw [if_neg h, if_neg (by omega), if_neg (by omega), if_neg h]
    rw [show (256 : Nat) = 2 ^ 8 by decide, ← Nat.pow_mul, show 8 * (64 * nbl n - 1 - i) = 56 - 8 * (i - (64 * nbl n - 8)) by omega]
structure RsM (w wr : World) (v : Value) (m : Nat) (f : Nat → Nat) : Prop where
  buf : Buf (w.heap.size + 1) wr v m f
  res : CAt wr w.heap.size (aB 32 zB) 66
  below : Below w.heap.size w wr
theorem RsM.size {w wr : World} {v : Value} {m : Nat} {f : Nat → Nat} (h : RsM w wr v m f) : w.heap.size + 1 ≤ wr.heap.size := h.res.lt
theorem out_byte2 (s : St) (k : Nat) (sw : BitVec 32) (h : s.get (k / 4) = sw) : wv sw / 2 ^ (24 - 8 * (k % 4)) % 256 = ((outB s k : Nat) : Int) := by
  unfold outB wv; rw [h]; simp
structure LpM (w wr : World) (gh gk ba oa M : Nat) (f : Nat → Nat) (s : St) : Prop where
  h : CAt wr gh (aW 8 s.get) 91
  k : CAt wr gk (aW 64 kk) 93
  row : RowAt wr ba oa M f
  res : CAt wr w.heap.size (aB 32 zB) 66
  below : Below w.heap.size w wr
theorem LpM.on {w wr w' : World} {gh gk ba oa M : Nat} {f : Nat → Nat} {s : St} (h : LpM w wr gh gk ba oa M f s) (hM : 0 < M) (hb : Below wr.heap.size wr w') : LpM w w' gh gk ba oa M f s :=
  ⟨h.h.below hb h.h.lt, h.k.below hb h.k.lt, h.row.below hb (cell_lt (h.row 0 hM)), h.res.below hb h.res.lt, h.below.trans (hb.mono h.below.size)⟩
theorem row_setRow {w : World} {b o n g : Nat} {x : Nat → Nat} (h : RowAt w b o n x) (hne : b ≠ g) (cs : Array Value) : RowAt (w.setRow g cs) b o n x := fun i hi => by
  rw [cell_setRow_other _ _ _ _ (by exact hne)]; exact h i hi
set_option maxRecDepth 100000 in
set_option maxHeartbeats 4000000 in
theorem rsum_any (p : Option Addr) (n c : Nat) (x : Nat → Nat) (w : World) (hn : n ≤ 500000) (hp : p = none → n = 0 ∧ c = 0) (hx : StrAt w p n x) (hb : ∀ i, i < n → x i < 256) :
    Calls Tryz.prog 32 #[.slice p n c] w fun e w' => e = .returned (.agg (aB 32 (sha n x))) ∧ Below w.heap.size w w' := by
  have hq : 64 * nbl n ≤ n + 72 ∧ n + 72 < 64 * nbl n + 64 := by unfold nbl; omega
  have HBX := hid hb
  have hn' : (n : Int) ≤ 500000 := by omega
  have hz1 : (w.alloc (.cells (aB 32 zB) 66)).heap.size = w.heap.size + 1 := by simp
  have b1 : Below w.heap.size w (w.alloc (.cells (aB 32 zB) 66)) := (Below.refl _ _).alloc (by omega) _
  have b2 : Below w.heap.size w ((w.alloc (.cells (aB 32 zB) 66)).alloc (.cells #[] 5)) := b1.alloc (by rw [hz1]; omega) _
  have f0 := Buf.empty (w.heap.size + 1) (w.alloc (.cells (aB 32 zB) 66)) (by omega) x
  rw [hz1] at f0
  obtain ⟨v1, w1, hr1, f1, bb1⟩ := f0.app p n c x (hx.below b2) hp (by omega) (by simp)
  have m1 : RsM w w1 v1 (0 + n) x := ⟨f1.congr (fun i hi => by rw [if_neg (by omega)]; simp), ((CAt.new w (aB 32 zB) 66).alloc _).below bb1 (by omega), b2.trans (bb1.mono (by omega))⟩
  rw [Nat.zero_add] at m1
  obtain ⟨v2, w2, hr2, f2, bb2⟩ := m1.buf.push 128 (by omega) m1.size
  have m2 : RsM w w2 v2 (n + 1) (pz n x) := ⟨f2.congr (fun i hi => by
    unfold pz
    by_cases q : i < n
    · rw [if_pos q, if_pos q]
    · rw [if_neg q, if_neg q, if_pos (by omega)]), m1.res.below bb2 (by omega), m1.below.trans (bb2.mono (by omega))⟩
  have HR1 := hid hr1
  have HR2 := hid hr2
  have HM2 := hid m2
  have HQ := hid hq
  clear hx hp hb hz1 b1 b2 f0 f1 bb1 hr1 m1 f2 bb2 hr2 m2 hq
  go_enter Tryz.func32, Tryz.ntmps32
  go_wp2_with (first
    | refine wpList_alloc_row rfl 66 rfl _ zero32 ?_
    | refine wpList_append_eq rfl _ _ 28 rfl _ _ rfl rfl _ _ HR1.out ?_
    | refine wpList_append_eq rfl _ _ 28 rfl _ _ rfl rfl _ _ HR2.out ?_)
  go_loopw [3] (fun v wr => ∃ m : Nat, n + 1 ≤ m ∧ m ≤ 64 * nbl n - 8 ∧ RsM w wr v m (pz n x)) (fun v _ => 64 * nbl n - lenV v)
  case atStart => exact ⟨n + 1, by omega, by have := HQ.out; omega, HM2.out⟩
  case round =>
    clear HM2 HR1 HR2
    obtain ⟨m, hm0, hm1, hm⟩ := hrel
    have hQ := HQ.out
    have hm' : (m : Int) ≤ 600000 := by omega
    by_cases hne : m % 64 = 56
    · have hne' : (m : Int) % 64 = 56 := by omega
      have hmM : m = 64 * nbl n - 8 := by omega
      obtain ⟨C, hC⟩ : ∃ C, C = 8 * n := ⟨_, rfl⟩
      have hCn : 8 * (n : Int) = (C : Int) := by omega
      have HC := hid hC
      obtain ⟨pv, cv, rfl, hcv, hst, hpn⟩ := hm.buf.str
      have HM := hid hm
      have HMM := hid hmM
      clear hm hC hst hpn hcv hQ hmM hne
      go_upto_region 6 with (first
        | (go_at_call 40; refine (eight_any C _).mono ?_; rintro e w3 ⟨v8, rfl, hf8, hb8⟩; obtain ⟨p8, c8, rfl, hc8, hs8, hp8⟩ := hf8.str; obtain ⟨v9, w4, hr9, hf9, hb9⟩ := (HM.out.buf.below hb8).app p8 8 c8 _ hs8 hp8 (by have := HMM.out; omega) (Nat.le_trans HM.out.size hb8.size); have HR9 := hid hr9; have HM4 := hid (RsM.mk hf9 ((HM.out.res.below hb8 HM.out.res.lt).below hb9 (by omega)) ((HM.out.below.trans (hb8.mono HM.out.below.size)).trans (hb9.mono (by omega)))); clear hr9 hf9 hb9 hf8 hb8 hs8 hp8 hc8)
        | refine wpList_append_eq rfl _ _ 28 rfl _ _ rfl rfl _ _ HR9.out ?_)
      have hpz : Buf (w.heap.size + 1) w4 v9 (64 * nbl n) (padF n x) := by
        have h1 := HM4.out.buf
        rw [HMM.out, HC.out] at h1
        have h2 := h1.congr (y := padF n x) (fun i hi => pad_join n x i hi)
        have hQ2 := HQ.out
        rwa [show 64 * nbl n - 8 + 8 = 64 * nbl n by omega] at h2
      have hres := HM4.out.res
      have hbel := HM4.out.below
      obtain ⟨pa, ca, rfl, hca, hsa, _⟩ := hpz.str
      have hpos : 0 < 64 * nbl n := by have := HQ.out; omega
      obtain ⟨ba, oa, rfl, hra⟩ : ∃ b o, pa = some ⟨b, o, none⟩ ∧ RowAt w4 b o (64 * nbl n) (padF n x) := by
        rcases hsa with h | h
        · omega
        · exact h
      have hlba : ba < w4.heap.size := cell_lt (hra 0 hpos)
      have HRES := hid hres
      have HBEL := hid hbel
      have HRA := hid hra
      have HLB := hid hlba
      have hM6 : ((64 * nbl n : Nat) : Int) ≤ 600000 := by have := HQ.out; omega
      clear hpz hres hbel hsa hra hlba hca HM4 HM HR9 hm0 hm1 hm' hne' hCn HMM
      generalize hM : 64 * nbl n = M at *
      have HMn := hid hM
      clear hM
      go_upto_region 8 with (first
        | refine wpList_alloc_row rfl 91 rfl _ zero8r ?_
        | refine wpList_alloc_row rfl 93 rfl _ zero64 ?_
        | (go_at_call 41; refine (begin_any _).mono ?_; rintro e w5 ⟨rfl, hb5⟩)
        | (go_at_call 42; refine (table_any _).mono ?_; rintro e w6 ⟨rfl, hb6⟩)
        | refine wpList_store_row rfl 91 _ _ rfl _ _ rfl rfl _ _ (CAt.new _ _ _) (size8r _) (by simp only [aW_size]) (aW_one _ _) ?_
        | refine wpList_store_row rfl 93 _ _ rfl _ _ rfl rfl _ _ (CAt.new _ _ _) (size64 _) (by simp only [aW_size]) (aW_one _ _) ?_)
      have hz5 : ((w5.alloc (.cells (aW 8 zW) 91)).setRow w5.heap.size (aW 8 st0.get)).heap.size = w5.heap.size + 1 := by simp
      have hl5 : ba < w5.heap.size := Nat.lt_of_lt_of_le HLB.out hb5.size
      have r5 := HRES.out.below hb5 HRES.out.lt
      have hH5 : w.heap.size < w5.heap.size := r5.lt
      have e5 : Below w.heap.size w ((w5.alloc (.cells (aW 8 zW) 91)).setRow w5.heap.size (aW 8 st0.get)) := below_setRow ((HBEL.out.trans (hb5.mono HBEL.out.size)).alloc (by omega) _) (by omega) _
      have c5 : CAt ((w5.alloc (.cells (aW 8 zW) 91)).setRow w5.heap.size (aW 8 st0.get)) w5.heap.size (aW 8 st0.get) 91 := (CAt.new _ _ _).row _
      have r6 := ((r5.alloc (.cells (aW 8 zW) 91)).rowOther (k := w5.heap.size) (aW 8 st0.get) (by omega)).below hb6 (by rw [hz5]; omega)
      have c6 := c5.below hb6 c5.lt
      have ra5 : RowAt ((w5.alloc (.cells (aW 8 zW) 91)).setRow w5.heap.size (aW 8 st0.get)) ba oa M (padF n x) := row_setRow ((HRA.out.below hb5 HLB.out).below ((Below.refl w5.heap.size w5).alloc (by omega) _) hl5) (by omega) _
      have ra6 := ra5.below hb6 (by rw [hz5]; omega)
      have e6 := e5.trans (hb6.mono (by rw [hz5]; omega))
      have h56 : w5.heap.size < w6.heap.size := by have := hb6.size; rw [hz5] at this; omega
      have m6 : LpM w ((w6.alloc (.cells (aW 64 zW) 93)).setRow w6.heap.size (aW 64 kk)) w5.heap.size w6.heap.size ba oa M (padF n x) (hs (padF n x) 0) :=
        ⟨(c6.alloc _).rowOther _ (by omega), (CAt.new _ _ _).row _, row_setRow (ra6.below ((Below.refl w6.heap.size w6).alloc (by omega) _) (by omega)) (by omega) _, (r6.alloc _).rowOther _ (by omega), below_setRow (e6.alloc (by omega) _) (by omega) _⟩
      have HM6 := hid m6
      have HORD : Hid (ba < w5.heap.size ∧ w5.heap.size < w6.heap.size ∧ w.heap.size < w5.heap.size) := ⟨hl5, h56, hH5⟩
      clear hz5 hl5 r5 hH5 e5 c5 r6 c6 ra5 ra6 e6 h56 m6 hb5 hb6 HRES HBEL HRA HLB
      simp only [Act.put, List.setIfInBounds_toArray, List.set_cons_succ, List.set_cons_zero]
      generalize ((w6.alloc (.cells (aW 64 zW) 93)).setRow w6.heap.size (aW 64 kk)) = w7 at *
      generalize w6.heap.size = gk at *
      generalize w5.heap.size = gh at *
      go_wp2
      go_loopw [6] (fun v wr => ∃ q a : Nat, q ≤ nbl n ∧ a = 64 * q ∧ v = .int .i64 a ∧ LpM w wr gh gk ba oa M (padF n x) (hs (padF n x) q)) (fun v _ => (M - intOf v).toNat)
      case atStart => exact ⟨0, 0, by omega, rfl, rfl, HM6.out⟩
      case round =>
        clear HM6
        obtain ⟨q, a, hqn, ha, rfl, hlp⟩ := hrel
        have HA := hid ha
        have hM1 := HMn.out
        by_cases hlq : q < nbl n
        · have hlt' : (a : Int) < (M : Int) := by omega
          have ha6 : (a : Int) ≤ 600000 := by omega
          have HAM : Hid (a + 64 ≤ M ∧ M ≤ 2000000) := by constructor <;> omega
          have HL := hid hlp
          clear hlp ha hM1
          go_wp2_with (first
            | refine wpList_load_row rfl 91 _ rfl _ rfl _ _ _ _ HL.out.h Tryz.underlying91 rfl (size8r _) ?_
            | refine wpList_load_row rfl 93 _ rfl _ rfl _ _ _ _ HL.out.k Tryz.underlying93 rfl (size64 _) ?_
            | (go_at_call 43; refine (rblock_any _ _ _ _ _ _ (padF n x) _ HAM.out.2 HL.out.row (fun i _ => padF_lt n x HBX.out i) HAM.out.1).mono ?_; rintro e w8 ⟨rfl, hb8⟩; have HL8 := hid (HL.out.on hpos hb8); clear hb8)
            | refine wpList_store_row rfl 91 _ _ rfl _ _ rfl rfl _ _ HL8.out.h (size8r _) (by simp only [aW_size]) (aW_one _ _) ?_)
          go_roundw
          case rel =>
            have ho := HORD.out
            refine ⟨q + 1, a + 64, by omega, by have := HA.out; omega, by go_num, HL8.out.h.row _ |>.congr ?_, HL8.out.k.rowOther _ (by omega), row_setRow HL8.out.row (by omega) _, HL8.out.res.rowOther _ (by omega), below_setRow HL8.out.below (by omega) _⟩
            rw [hs, HA.out]
          case measure => simp [intOf]; omega
        · have hge : ¬ (a : Int) < (M : Int) := by omega
          have hq2 : q = nbl n := by omega
          have HS : Hid (hs (padF n x) q = shaSt n x) := by rw [hq2]; rfl
          have HL := hid hlp
          clear hlp ha hM1 hq2 hqn
          go_wp2_with (refine wpList_alloc_row rfl 66 rfl _ zero32 ?_)
          have hl9 : w.heap.size < wr.heap.size := HL.out.res.lt
          have hh9 : gh < wr.heap.size := HL.out.h.lt
          have m9 : CAt (wr.alloc (.cells (aB 32 zB) 66)) gh (aW 8 (shaSt n x).get) 91 := by rw [← HS.out]; exact HL.out.h.alloc _
          have n9 := HL.out.res.alloc (.cells (aB 32 zB) 66)
          have b9 := HL.out.below.alloc HL.out.below.size (.cells (aB 32 zB) 66)
          have o9 : CAt (wr.alloc (.cells (aB 32 zB) 66)) wr.heap.size (aB 32 (upTo (outB (shaSt n x)) 0)) 66 := (CAt.new wr (aB 32 zB) 66).congr (aB_congr 32 fun i _ => upTo_zero _ i)
          have HM9 := hid m9
          have HN9 := hid n9
          have HB9 := hid b9
          have HO9 := hid o9
          have HORD2 : Hid (w.heap.size < wr.heap.size ∧ gh < wr.heap.size) := ⟨hl9, hh9⟩
          clear m9 n9 b9 o9 HL HS hl9 hh9
          generalize (wr.alloc (.cells (aB 32 zB) 66)) = w9 at *
          generalize wr.heap.size = go at *
          generalize hsf : shaSt n x = sf at *
          have HSF := hid hsf
          clear hsf
          go_loopw [8] (fun v wr => ∃ k : Nat, k ≤ 32 ∧ v = .int .i64 k ∧ CAt wr gh (aW 8 sf.get) 91 ∧ CAt wr w.heap.size (aB 32 zB) 66 ∧ CAt wr go (aB 32 (upTo (outB sf) k)) 66 ∧ Below w.heap.size w wr) (fun v _ => (32 - intOf v).toNat)
          case atStart => exact ⟨0, by omega, rfl, HM9.out, HN9.out, HO9.out, HB9.out⟩
          case round =>
            clear HM9 HN9 HO9 HB9
            obtain ⟨k, hk, rfl, hs, hz, hc, hb⟩ := hrel
            by_cases hlk : k < 32
            · have c1 := hs.cellW (k / 4) (by omega)
              have c2 := hc.cellB k hlk
              have c3 := hc.free k
              generalize hsw : sf.get (k / 4) = sw at *
              have hv := out_byte2 sf k sw hsw
              have HS := hid hs
              have HZ := hid hz
              have HCC := hid hc
              have HB := hid hb
              have hlk' : (k : Int) < 32 := by omega
              clear hs hz hc hb hsw
              go_wp2
              go_roundw
              case rel =>
                have ho := HORD2.out
                exact ⟨k + 1, by omega, by go_num, HS.out.other _ _ (by show gh ≠ go; omega), HZ.out.other _ _ (by show w.heap.size ≠ go; omega), (HCC.out.setB k _).congr (aB_congr 32 fun i _ => upTo_step _ k i), HB.out.setCell (by show w.heap.size ≤ go; omega) _⟩
              case measure => simp [intOf]; omega
            · have e : k = 32 := by omega
              have hc2 := hc.congr (cs' := aB 32 (outB sf)) (aB_congr 32 fun i hi => upTo_at _ _ _ (by omega))
              have HZ := hid hz
              have HCC := hid hc2
              have HB := hid hb
              have hgk : ¬ (k : Int) < 32 := by omega
              clear hs hz hc hb hc2 e
              go_wp2_with (first
                | refine wpList_load_row rfl 66 _ rfl _ rfl _ _ _ _ HCC.out Tryz.underlying66 rfl (size32 _) ?_
                | refine wpList_store_row rfl 66 _ _ rfl _ _ rfl rfl _ _ HZ.out (size32 _) (by simp only [aB_size]) (aB_one _ _) ?_)
              have hfin : aB 32 (outB sf) = aB 32 (sha n x) := aB_congr 32 fun i _ => by unfold sha; rw [HSF.out]
              refine ret_row rfl _ _ _ _ _ rfl rfl (HZ.out.row _) Tryz.underlying66 rfl (size32 _) ⟨?_, below_setRow HB.out (by omega) _⟩
              rw [hfin]
    · have hne' : ¬ (m : Int) % 64 = 56 := by omega
      obtain ⟨v', w5, hr5, hf5, hb5⟩ := hm.buf.push 0 (by omega) hm.size
      have m5 : RsM w w5 v' (m + 1) (pz n x) := ⟨hf5.congr (fun i hi => by
        by_cases q : i < m
        · rw [if_pos q]
        · rw [if_neg q]; unfold pz; rw [if_neg (by omega), if_neg (by omega)]), hm.res.below hb5 (by omega), hm.below.trans (hb5.mono (by omega))⟩
      obtain ⟨pv, cv, rfl, hcv, hst, hpn⟩ := hm.buf.str
      obtain ⟨p5, c5, e5, _, _, _⟩ := m5.buf.str
      have HR5 := hid hr5
      have HM5 := hid m5
      have HE5 := hid e5
      clear hm hr5 hf5 hb5 m5 e5 hcv hst hpn hQ hne
      go_wp2_with (refine wpList_append_eq rfl _ _ 28 rfl _ _ rfl rfl _ _ HR5.out ?_)
      go_roundw
      case rel => exact ⟨m + 1, by omega, by have := HQ.out; omega, HM5.out⟩
      case measure => rw [HE5.out]; simp only [lenV]; have := HQ.out; omega
end Go.Proofs.YtelkijiphhoacaaGreatDoor.H

/- Digests of bytes in slices, by lists. -/
namespace Go.Proofs.YtelkijiphhoacaaGreatDoor
open Go Go.RowKit

/-- The digest's 32 bytes. -/
def dig (x : List Nat) : List Nat := (List.range 32).map fun i => H.sha x.length (fun j => x.getD j 0) i
theorem dig_len (x : List Nat) : (dig x).length = 32 := by simp [dig]
theorem dig_lt (x : List Nat) : ∀ z ∈ dig x, z < 256 := fun z hz => by
  obtain ⟨i, _, rfl⟩ := List.mem_map.1 hz
  exact H.sha_lt _ _ _
theorem dig_arr (x : List Nat) : H.aB 32 (H.sha x.length fun j => x.getD j 0) = ((dig x).map u8).toArray := by
  unfold H.aB dig
  apply Array.ext
  · simp
  · intro i h1 h2
    simp [u8]
theorem BL.str {w : World} {po : Option Addr} {x : List Nat} (h : BL w po x) : H.StrAt w po x.length fun j => x.getD j 0 := by
  rcases h with rfl | ⟨b, o, e, h⟩
  · exact Or.inl rfl
  · exact Or.inr ⟨b, o, e, fun i hi => h i hi⟩
theorem get256 {x : List Nat} (h8 : ∀ z ∈ x, z < 256) (i : Nat) (hi : i < x.length) : x.getD i 0 < 256 := by
  rw [List.getD_eq_getElem?_getD, List.getElem?_eq_getElem hi]; exact h8 _ (List.getElem_mem hi)
/-- digest.Sum -/
theorem dsum_any (po : Option Addr) (c : Nat) (x : List Nat) (w : World) (hn : x.length ≤ 1000000) (hc : x.length ≤ c) (h : BL w po x) (h8 : ∀ z ∈ x, z < 256) :
    Calls Tryz.prog 51 #[.slice po x.length c] w fun e w' => e = .returned (.agg ((dig x).map u8).toArray) ∧ Below w.heap.size w w' := by
  rw [← dig_arr]
  exact H.sum_any po x.length c _ w hn hc h.str (get256 h8)
/-- The document's Sum. -/
theorem rdsum_any (po : Option Addr) (c : Nat) (x : List Nat) (w : World) (hn : x.length ≤ 500000) (hp : po = none → c = 0) (h : BL w po x) (h8 : ∀ z ∈ x, z < 256) :
    Calls Tryz.prog 32 #[.slice po x.length c] w fun e w' => e = .returned (.agg ((dig x).map u8).toArray) ∧ Below w.heap.size w w' := by
  rw [← dig_arr]
  refine H.rsum_any po x.length c _ w hn (fun e => ⟨?_, hp e⟩) h.str (get256 h8)
  rcases h with h | ⟨b, o, h, _⟩
  · rw [h]; rfl
  · rw [e] at h; cases h
end Go.Proofs.YtelkijiphhoacaaGreatDoor

/- journal.Bytes. -/
namespace Go.Proofs.YtelkijiphhoacaaGreatDoor
open Go Go.RowKit

theorem under5' : Tryz.prog.underlying 5 = some (.int .u8) := by kernel_rfl
/-- append to bytes that have no room. -/
theorem grow_buf (W : World) (g : Nat) (old : List Nat) (hold : ∀ j, j < old.length → W.cell? ⟨g, j, none⟩ = some (u8 (old.getD j 0))) (po : Option Addr) (c : Nat) (L : List Nat) (hL : BL W po L) (hne : L ≠ []) (hn : old.length + L.length ≤ 2000000) :
    ∃ v w', (Builtin.append_ #[28, 28] 28 #[.slice (some ⟨g, 0, none⟩) old.length old.length, .slice po L.length c]).run Tryz.prog W = .ok v w' ∧ Buf W.heap.size w' v (old ++ L) ∧ Below W.heap.size W w' := by
  obtain ⟨i0, hi0, hz0, hz1, hz2⟩ := info_parts Tryz.info5
  have hlen : 0 < L.length := List.length_pos_iff.2 hne
  rcases hL with h | ⟨b, o, rfl, hL⟩
  · exact absurd h hne
  have hget : ∀ (M : List Nat) (j : Nat) (v : Value), (M.map u8)[j]? = some v → j < M.length ∧ v = u8 (M.getD j 0) := fun M j v hj => by
    have hjl : j < M.length := by
      rcases Nat.lt_or_ge j M.length with q | q
      · exact q
      · rw [List.getElem?_eq_none (by simpa using q)] at hj; cases hj
    simp [hjl] at hj
    exact ⟨hjl, by rw [← hj]; simp [List.getD, hjl]⟩
  have hr := run_append_grow (P := Tryz.prog) W 28 28 5 i0 (.int .u8 0) Tryz.underlying28 hi0 hz0 ⟨g, 0, none⟩ old.length old.length (old.map u8) (by rw [hz1]; simp) (fun j v hj => by
      obtain ⟨h1, rfl⟩ := hget old j v hj
      rw [add_none, Nat.zero_add]; exact hold j h1) ⟨b, o, none⟩ L.length c (L.map u8) (by rw [hz1]; simp) (fun j v hj => by
      obtain ⟨h1, rfl⟩ := hget L j v hj
      rw [add_none]; exact hL j h1) (by omega) (by omega) (by rw [hz2]; exact growslice_fits (by omega) (by omega))
  refine ⟨_, _, hr, ⟨by simp, Or.inr ⟨W.heap.size, grownCap W (old.length + L.length) old.length 5, _, by rw [List.length_append], Nat.le_refl _, heap_alloc_new W.drew _, by rw [List.length_append]; exact grownCap_ge W _ _ _, grownCap_le_maxLen W _ _ _ (by unfold maxLen; omega), ?_, ?_⟩⟩, below_on (below_drew _) (below_al _ _)⟩
  · have := grownCap_ge W (old.length + L.length) old.length 5
    simp [Builtin.zeroCells, Value.cells]
    omega
  · have e : ((old.map u8).toArray ++ (L.map u8).toArray ++ Builtin.zeroCells (Value.int .u8 0).cells (grownCap W (old.length + L.length) old.length 5 - (old.length + L.length))).toList = (old ++ L).map u8 ++ (Builtin.zeroCells (Value.int .u8 0).cells (grownCap W (old.length + L.length) old.length 5 - (old.length + L.length))).toList := by simp
    rw [e, Nat.mul_one, List.take_left' (by simp)]
theorem zeroDg : (Tryz.prog.info? 66).map (·.zero) = some (some (.agg (sumC zeroD))) := by kernel_rfl
theorem wpList_allocD {ops : Array Oper} {rest : List Oper} {o : Oper} {a : Act} {w : World} {Q : Exit → Act → World → Prop} (hg : o.guard = none) (ho : o.op = .alloc 66)
    (h : ∀ w1 g, CAt w1 g (sumC zeroD) 66 → Below w.heap.size w w1 → w.heap.size = g → wpList Tryz.prog ops Q rest (a.put o.dst (ptr g)) w1) : wpList Tryz.prog ops Q (o :: rest) a w := by
  refine wpList_plain hg fun _ hK => ?_
  obtain ⟨i, hq, hz'⟩ := Option.map_eq_some_iff.1 zeroDg
  unfold Oper.wp execOp
  simp only [ho, Instr.alloc, zeroValue, typeInfo, Sem.run_bind, newVar, newRow]
  generalize sumC zeroD = C at h hz'
  simp [hq, hz', Value.cells]
  exact hK _ _ (h _ _ (CAt.made _ _ _) (below_al _ _) rfl)
theorem run_storeD {w : World} {g : Nat} {x y : List Nat} (hx : x.length = 32) (hy : y.length = 32) (hb : CAt w g (sumC x) 66) : (Instr.storeAt 66 (.pointer (some ⟨g, 0, none⟩)) (.agg (sumC y))).run Tryz.prog w = .ok () (w.setRow g (sumC y)) ∧ CAt (w.setRow g (sumC y)) g (sumC y) 66 := by
  have e := run_storeVar_row (P := Tryz.prog) w g 66 66 (sumC x) (sumC y) hb (by rw [sumC_size, hy]; exact sizeD) (by rw [sumC_size, sumC_size, hx, hy]) (by rw [Array.all_eq_true_iff_forall_mem]; intro v hv; unfold sumC at hv; simp only [List.mem_toArray, List.mem_map] at hv; obtain ⟨k, _, rfl⟩ := hv; rfl)
  refine ⟨?_, setRow_heap w g (sumC x) (sumC y) _ _ hb⟩
  simp only [Instr.storeAt, Instr.sureAddr, Sem.run_bind, Sem.run_pure, Result.andThen_ok, e]
theorem wpList_storeD {ops : Array Oper} {rest : List Oper} {o : Oper} {a : Act} {w : World} {Q : Exit → Act → World → Prop} (hg : o.guard = none) (hdst : o.dst = none) (x y : Operand) (ho : o.op = .store 66 x y) (g : Nat) (hx : a.eval x = ptr g) {m n : List Nat} (hy : a.eval y = .agg (sumC n)) (hm : m.length = 32) (hn : n.length = 32) (hb : CAt w g (sumC m) 66)
    (h : ∀ w1, CAt w1 g (sumC n) 66 → Only (fun b => b = g) w w1 → wpList Tryz.prog ops Q rest a w1) : wpList Tryz.prog ops Q (o :: rest) a w := by
  refine wpList_plain hg fun _ hK => ?_
  obtain ⟨e1, e2⟩ := run_storeD hm hn hb
  unfold Oper.wp execOp
  simp only [ho, hx, hy, ptr, Sem.run_bind, e1, Result.andThen_ok, Sem.run_pure]
  refine hK (a.put o.dst undef) _ ?_
  rw [hdst]
  exact h _ e2 (only_setRow _ _ _ rfl)
theorem run_dig (g : Nat) (w : World) : (Instr.sliceAt 66 (.pointer (some ⟨g, 0, none⟩)) none none none).run Tryz.prog w = .ok (.slice (some ⟨g, 0, none⟩) 32 32) w := by kernel_rfl
theorem CAt.bl {w : World} {g : Nat} {x : List Nat} {t : TypeId} (h : CAt w g (sumC x) t) : BL w (some ⟨g, 0, none⟩) x := Or.inr ⟨g, 0, rfl, fun i hi => by rw [Nat.zero_add, h.cell, sumC_get hi]⟩
abbrev c3 : Array Value := #[.int .u8 83, .int .u8 74, .int .u8 49]
theorem c3_cells (w : World) (fz : Nat × Nat) : ∀ j, j < [83, 74, 49].length → (w.alloc (.cells c3 5 fz)).cell? ⟨w.heap.size, j, none⟩ = some (u8 ([83, 74, 49].getD j 0)) := fun j hj => by
  have h := heap_alloc_new w (.cells c3 5 fz)
  simp only [World.cell?, h]
  match j, hj with
  | 0, _ | 1, _ | 2, _ => rfl
theorem rsB_take {l : List Rc} {k : Nat} {x : Rc} (h : l[k]? = some x) : rsB (l.take (k + 1)) = rsB (l.take k) ++ rcB x := by
  have hk := (List.getElem?_eq_some_iff.1 h).1
  have e := (List.getElem?_eq_some_iff.1 h).2
  rw [List.take_succ_eq_append_getElem hk, e]
  simp [rsB]
theorem rsB_len {l : List Rp} (hok : ∀ x ∈ l, x.r.ok) (h : (rcs l).all okRc = true) : ∀ k, k ≤ l.length → (rsB ((rcs l).take k)).length ≤ k * 1000
  | 0, _ => by simp [rsB]
  | k + 1, hk => by
    obtain ⟨x, hx⟩ : ∃ x, l[k]? = some x := ⟨_, List.getElem?_eq_getElem (by omega)⟩
    have hxr : (rcs l)[k]? = some x.rc := by rw [rcs_get, hx]; rfl
    rw [rsB_take hxr, List.length_append]
    have := rsB_len hok h k (by omega)
    have hm := List.mem_of_getElem? hx
    have := rcB_len x.r (hok x hm) x.ps (List.all_eq_true.1 h x.rc (List.mem_of_getElem? hxr))
    have e : (rcB x.rc).length ≤ 1000 := this
    omega
theorem rsB_byte {l : List Rp} (hok : ∀ x ∈ l, x.r.ok) : ∀ z ∈ rsB (rcs l), z < 256 := fun z hz => by
  unfold rsB rcs at hz
  rw [List.map_map] at hz
  obtain ⟨b, hb, hz⟩ := List.mem_flatten.1 hz
  obtain ⟨x, hx, rfl⟩ := List.mem_map.1 hb
  exact rcB_byte x.r (hok x hx) x.ps z hz
/-- What stands ahead of the records. -/
def hdJ (s : Int) (n : Nat) : List Nat := [83, 74, 49] ++ ib s ++ nb n
theorem jBody_hd (s : Int) (l : List Rp) : jBody ⟨s, rcs l⟩ = hdJ s l.length ++ rsB (rcs l) := by unfold jBody hdJ; simp only [rcs_len]
theorem hdJ_len {s : Int} {n : Nat} (hs : s ≤ 1099511627776) (hn : n ≤ 64) : (hdJ s n).length ≤ 15 := by
  unfold hdJ
  have h1 := ib_le (n := s) (by omega)
  have h2 := nb_le (n := n) (by omega)
  simp only [List.length_append, List.length_cons, List.length_nil]
  omega
theorem hdJ_byte (s : Int) (n : Nat) : ∀ z ∈ hdJ s n, z < 256 := fun z hz => by
  unfold hdJ ib at hz
  simp only [List.mem_append, List.mem_cons, List.not_mem_nil, or_false] at hz
  rcases hz with ((rfl | rfl | rfl) | h) | h
  · decide
  · decide
  · decide
  · exact nb_byte _ z h
  · exact nb_byte _ z h
end Go.Proofs.YtelkijiphhoacaaGreatDoor

/- bytes.Equal, HasPrefix; what looks at a journal's sign and digest. -/
namespace Go.Proofs.YtelkijiphhoacaaGreatDoor
open Go Go.RowKit

theorem lst_eq_ba {A B : List Nat} (hA : ∀ z ∈ A, z < 256) (hB : ∀ z ∈ B, z < 256) : ((ba A).toList == (ba B).toList) = decide (A = B) := by
  rw [lst_beq, lst_ba hA, lst_ba hB]
theorem equalB_any (po qo : Option Addr) (c d : Nat) (A B : List Nat) (w : World) (hA : BL w po A) (hB : BL w qo B) (a8 : ∀ z ∈ A, z < 256) (b8 : ∀ z ∈ B, z < 256) : Calls Tryz.prog 79 #[.slice po A.length c, .slice qo B.length d] w fun e w' => e = .returned (.bool (decide (A = B))) ∧ w' = w := by
  have h1 := hA.conv c
  have h2 := hB.conv d
  have HE := hid (lst_eq_ba a8 b8)
  generalize ba A = SA at h1 HE
  generalize ba B = SB at h2 HE
  clear hA hB a8 b8
  go_enter Tryz.func79, Tryz.ntmps79
  go_wp2
  go_ret
  exact ⟨by rw [← HE.out]; rfl, rfl⟩
theorem run_head8n (po : Option Addr) (n c h : Nat) (hh : h ≤ c) (w : World) : (Instr.slice 28 (.slice po n c) none (some (.int .i64 (h : Int))) none).run Tryz.prog w = .ok (.slice po h c) w := by
  rw [run_slice_h (P := Tryz.prog) w 28 po n c underE8 .i64 (h : Int) (by omega) (by omega), elem8]
  cases po with
  | none => simp [Result.andThen, sliced]
  | some a =>
    by_cases h0 : c = 0
    · simp [Result.andThen, sliced, h0]
    · simp [Result.andThen, sliced, h0, add_zero']
theorem len_take {L : List Nat} {k : Nat} (h : k ≤ L.length) : (L.take k).length = k := by rw [List.length_take]; omega
theorem prefix_any (po qo : Option Addr) (c d : Nat) (A B : List Nat) (w : World) (hA : BL w po A) (hB : BL w qo B) (a8 : ∀ z ∈ A, z < 256) (b8 : ∀ z ∈ B, z < 256) (hl : B.length ≤ A.length) (hc : A.length ≤ c) : Calls Tryz.prog 78 #[.slice po A.length c, .slice qo B.length d] w fun e w' => e = .returned (.bool (decide (A.take B.length = B))) ∧ w' = w := by
  have hs := run_head8n po A.length c B.length (by omega)
  have hE := equalB_any po qo c d (A.take B.length) B w (hA.take B.length) hB (fun z hz => a8 z (List.mem_of_mem_take hz)) b8
  rw [len_take hl] at hE
  generalize decide (A.take B.length = B) = Q at hE
  have HE := hid hE
  have hl' : (B.length : Int) ≤ (A.length : Int) := by omega
  clear hE hA hB a8 b8
  go_enter Tryz.func78, Tryz.ntmps78
  go_wp2_with (go_at_call 79; refine HE.out.mono ?_; rintro e w1 ⟨rfl, hw1⟩; have hw2 := hw1.symm; subst hw2)
  go_ret
  exact ⟨rfl, rfl⟩
/-- What is left of bytes, and what was read of them so far: its cells. -/
def rC (l : Value) (n s : Int) (r : Value) : Array Value := #[l, i64 n, i64 s, r]
structure RdC (w : World) (p : Nat) (po : Option Addr) (L : List Nat) (c : Nat) (n s : Int) (r : Value) : Prop where
  at_ : CAt w p (rC (.slice po L.length c) n s r) 78
  bl : BL w po L
  ap : L ≠ [] → ∀ a, po = some a → a.block ≠ p
  le : L.length ≤ c
  lt : L.length ≤ 100000
  b8 : ∀ z ∈ L, z < 256
section
variable {w : World} {p : Nat} {po : Option Addr} {L : List Nat} {c : Nat} {n s : Int} {r : Value} (h : RdC w p po L c n s r)
include h
theorem RdC.below {w' : World} (hb : Below w.heap.size w w') : RdC w' p po L c n s r := ⟨h.at_.below hb, h.bl.below hb, h.ap, h.le, h.lt, h.b8⟩
theorem RdC.c0 : w.cell? ⟨p, 0, none⟩ = some (.slice po L.length c) := by rw [h.at_.cell]; rfl
theorem RdC.c1 : w.cell? ⟨p, 1, none⟩ = some (i64 n) := by rw [h.at_.cell]; rfl
theorem RdC.c2 : w.cell? ⟨p, 2, none⟩ = some (i64 s) := by rw [h.at_.cell]; rfl
theorem RdC.c3 : w.cell? ⟨p, 3, none⟩ = some r := by rw [h.at_.cell]; rfl
end
theorem sign_bl (w : World) (fz : Nat × Nat) : BL (w.alloc (.cells c3 5 fz)) (some ⟨w.heap.size, 0, none⟩) [83, 74, 49] := Or.inr ⟨_, _, rfl, fun i hi => by rw [Nat.zero_add]; exact c3_cells w fz i hi⟩
set_option maxRecDepth 100000 in
set_option maxHeartbeats 1000000 in
theorem sign_any (p : Nat) (po : Option Addr) (L : List Nat) (c : Nat) (n s : Int) (r : Value) (w : World) (a0 a1 : Addr) (h : RdC w p po L c n s r) (he : Ers w a0 a1) : Calls Tryz.prog 52 #[ptr p] w fun e w' => e = .returned (if L.length < 35 ∨ L.take 3 ≠ [83, 74, 49] then eV a1 else .nilIface) ∧ Below w.heap.size w w' := by
  obtain ⟨R, hR⟩ : ∃ R : Value, (if L.length < 35 ∨ L.take 3 ≠ [83, 74, 49] then eV a1 else .nilIface) = R := ⟨_, rfl⟩
  rw [hR]
  have HRR := hid hR
  clear hR
  have c0 := h.c0
  have HH := hid h
  have HER := hid he
  clear h he
  by_cases hl : L.length < 35
  · have hl' : (L.length : Int) < 35 := by omega
    have e1 := HER.out.c1
    go_enter Tryz.func52, Tryz.ntmps52
    go_wp2
    go_ret
    exact ⟨by rw [← HRR.out, if_pos (Or.inl hl)]; rfl, Below.refl _ _⟩
  · have hl' : ¬ (L.length : Int) < 35 := by omega
    have hcv := fun (w : World) (C : Array Value) (n c : Nat) => Go.Lib.run_convert_bytes_const (P := Tryz.prog) w 28 5 C n c Tryz.underlying28 under5'
    have hP := prefix_any po (some ⟨w.heap.size, 0, none⟩) c 3 L [83, 74, 49] (w.alloc (.cells c3 5 (3, 4))) (HH.out.bl.below (below_al _ _)) (sign_bl w (3, 4)) HH.out.b8 (by decide) (by simp only [List.length_cons, List.length_nil]; omega) HH.out.le
    have HP : Hid (Calls Tryz.prog 78 #[.slice po L.length c, .slice (some ⟨w.heap.size, 0, none⟩) 3 3] (w.alloc (.cells c3 5 (3, 4))) fun e w' => e = .returned (.bool (decide (L.take 3 = [83, 74, 49]))) ∧ w' = w.alloc (.cells c3 5 (3, 4))) := hid hP
    clear hP
    have HBW := hid (below_al w (.cells c3 5 (3, 4)))
    by_cases hq : L.take 3 = [83, 74, 49]
    · rw [decide_eq_true hq] at HP
      go_enter Tryz.func52, Tryz.ntmps52
      go_wp2_with (go_at_call 78; refine HP.out.mono ?_; rintro e w1 ⟨rfl, hw1⟩; have hw2 := hw1.symm; subst hw2)
      go_ret
      exact ⟨by rw [← HRR.out, if_neg (by rintro (k | k); exact hl k; exact k hq)]; rfl, HBW.out⟩
    · rw [decide_eq_false hq] at HP
      have e1 := (HER.out.below HBW.out).c1
      go_enter Tryz.func52, Tryz.ntmps52
      go_wp2_with (go_at_call 78; refine HP.out.mono ?_; rintro e w1 ⟨rfl, hw1⟩; have hw2 := hw1.symm; subst hw2)
      go_ret
      exact ⟨by rw [← HRR.out, if_pos (Or.inr hq)]; rfl, HBW.out⟩
end Go.Proofs.YtelkijiphhoacaaGreatDoor
