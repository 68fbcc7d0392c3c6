/- Texts laid into one, cut to what is needed: the remark ahead of each part says what is proved there. -/
import Derived.Test.YtfogkegmdgbecaaGreatDoorPaq
import Derived.Test.YtfogkegmdgbecaaGreatDoorPap
/- The document's may: why files may not be committed. -/
namespace Go.Proofs.YtfogkegmdgbecaaGreatDoor
open Go Go.RowKit Go.Shelf

theorem rdrives_any (po : Option Addr) (k c : Nat) (hk : k ≤ 1000) (w : World) : Calls Tryz.prog 75 #[.slice po k c] w fun e w' => e = .returned (.bool (decide (ckD k = 0))) ∧ w' = w := by
 unfold ckD
 by_cases h1 : 1 ≤ k
 ·have h1' : (1 : Int) ≤ (k : Int) := by omega
  by_cases h2 : k ≤ 16
  ·have h2' : (k : Int) ≤ 16 := by omega
   rw [if_pos ⟨h1, h2⟩]
   go_enter Tryz.func75, Tryz.ntmps75
   go_wp2
   go_ret
   exact ⟨rfl, rfl⟩
  ·have h2' : ¬ (k : Int) ≤ 16 := by omega
   rw [if_neg (fun h => h2 h.2)]
   go_enter Tryz.func75, Tryz.ntmps75
   go_wp2
   go_ret
   exact ⟨rfl, rfl⟩
 ·have h1' : ¬ (1 : Int) ≤ (k : Int) := by omega
  rw [if_neg (fun h => h1 h.1)]
  go_enter Tryz.func75, Tryz.ntmps75
  go_wp2
  go_ret
  exact ⟨rfl, rfl⟩
theorem FsV.ok.row {w : World} {T : Nat → Prop} {po : Option Addr} {c : Nat} {rows : List RowV} (h : FsV.ok w T ⟨po, c, rows⟩) {j : Nat} (hj : j < rows.length) : ∃ b o, po = some ⟨b, o, none⟩ ∧ (∀ dn, (w.drewN dn).cell? ⟨b, o + j, none⟩ = some (.slice (rows.getD j default).po (rows.getD j default).l.length (rows.getD j default).c)) ∧ (rows.getD j default).ok w T := by
 rcases h.at_ with h0 | ⟨b, o, h1, _, h3⟩
 ·have h0' : rows = [] := h0
  rw [h0'] at hj; exact absurd hj (Nat.not_lt_zero _)
 ·exact ⟨b, o, h1, fun dn => h3 j hj, h.el (rows.getD j default) (by show rows.getD j default ∈ rows; rw [getD_in _ _ _ hj]; exact List.getElem_mem _)⟩
theorem RowV.ok.drew {w : World} {T : Nat → Prop} {r : RowV} (h : r.ok w T) (dn : Nat) : r.ok (w.drewN dn) T := h.keep (fun _ _ _ => rfl) (fun _ _ h => h)
set_option maxHeartbeats 2000000 in
set_option maxRecDepth 100000 in
theorem rmay_any (po : Option Addr) (k c : Nat) (hk : k ≤ 1000) (fv : FsV) {T : Nat → Prop} (w : World) (hf : fv.ok w T) (hl : fv.l.length ≤ 1000) (h8 : ∀ r ∈ fv.l, r.l.length ≤ 1000) (need : Int) :
  Calls Tryz.prog 65 #[.slice po k c, fv.v, .int .i64 need] w fun e w' => e = .returned (.int .i64 (comE k (fv.l.map RowV.fl) need : Int)) ∧ ∃ dn, w' = w.drewN dn := by
 obtain ⟨fpo, fc, rows⟩ := fv
 dsimp only at *
 show Calls Tryz.prog 65 #[.slice po k c, .slice fpo rows.length fc, .int .i64 need] w _
 have HF := hid hf
 have H8 := hid h8
 have HD := hid (fun W => rdrives_any po k c hk W)
 clear hf h8
 unfold comE
 have hlm : (rows.map RowV.fl).length = rows.length := List.length_map ..
 rw [hlm]
 clear hlm
 by_cases g1 : ckD k = 0
 ·rw [if_neg (by omega)]
  have HD1 : Hid (∀ W, Calls Tryz.prog 75 #[.slice po k c] W fun e w' => e = .returned (.bool true) ∧ w' = W) := hid (fun W => by have := HD.out W; rw [decide_eq_true g1] at this; exact this)
  clear HD
  by_cases g2 : rows.length = k
  ·have g2' : (rows.length : Int) = (k : Int) := by omega
   by_cases g3 : need < 1
   ·rw [if_pos (.inr (.inl g3))]
    go_enter Tryz.func65, Tryz.ntmps65
    go_wp2_with (go_at_call 75; refine (HD1.out _).mono ?_; rintro e w' ⟨rfl, hw'⟩; have hw2 := hw'.symm; subst hw2)
    go_ret
    exact ⟨rfl, 0, rfl⟩
   ·by_cases g4 : (k : Int) < need
    ·rw [if_pos (.inr (.inr g4))]
     go_enter Tryz.func65, Tryz.ntmps65
     go_wp2_with (go_at_call 75; refine (HD1.out _).mono ?_; rintro e w' ⟨rfl, hw'⟩; have hw2 := hw'.symm; subst hw2)
     go_ret
     exact ⟨rfl, 0, rfl⟩
    ·rw [if_neg (fun h => h.elim (fun h => h g2) (fun h => h.elim g3 g4))]
     have HLG : Hid (∀ j, j < rows.length → 8 < (rows.getD j default).l.length → (rows.map RowV.fl).any (fun l => decide (8 < l.length)) = true) := hid (fun j hj h => by
      rw [List.any_eq_true]
      exact ⟨(rows.getD j default).fl, List.mem_map.2 ⟨_, by rw [getD_in _ _ _ hj]; exact List.getElem_mem hj, rfl⟩, by simpa [RowV.fl] using h⟩)
     have HSH : Hid ((∀ j, j < rows.length → (rows.getD j default).l.length ≤ 8) → (rows.map RowV.fl).any (fun l => decide (8 < l.length)) = false) := hid (fun h => by
      rw [List.any_eq_false]
      intro x hx
      obtain ⟨r, hr, rfl⟩ := List.mem_map.1 hx
      obtain ⟨j, hj, rfl⟩ := List.mem_iff_getElem.1 hr
      have := h j hj
      rw [getD_in _ _ _ hj] at this
      simpa [RowV.fl] using this)
     have HBD : Hid (∀ j, j < rows.length → okFl [] (rows.getD j default).fl = false → (rows.map RowV.fl).all (fun l => okFl [] l) = false) := hid (fun j hj h => by
      rw [List.all_eq_false]
      exact ⟨(rows.getD j default).fl, List.mem_map.2 ⟨_, by rw [getD_in _ _ _ hj]; exact List.getElem_mem hj, rfl⟩, by rw [h]; simp⟩)
     have HGD : Hid ((∀ j, j < rows.length → okFl [] (rows.getD j default).fl = true) → (rows.map RowV.fl).all (fun l => okFl [] l) = true) := hid (fun h => by
      rw [List.all_eq_true]
      intro x hx
      obtain ⟨r, hr, rfl⟩ := List.mem_map.1 hx
      obtain ⟨j, hj, rfl⟩ := List.mem_iff_getElem.1 hr
      have := h j hj
      rwa [getD_in _ _ _ hj] at this)
     generalize (rows.map RowV.fl).any (fun l => decide (8 < l.length)) = bA at *
     generalize (rows.map RowV.fl).all (fun l => okFl [] l) = bB at *
     have HRW := hid (fun j (hj : j < rows.length) => HF.out.row hj)
     have HR8 := hid (fun j (hj : j < rows.length) => H8.out (rows.getD j default) (by rw [getD_in _ _ _ hj]; exact List.getElem_mem hj))
     go_enter Tryz.func65, Tryz.ntmps65
     go_wp2_with (go_at_call 75; refine (HD1.out _).mono ?_; rintro e w' ⟨rfl, hw'⟩; have hw2 := hw'.symm; subst hw2)
     go_loopw [7] (fun v wr => ∃ j : Nat, j ≤ rows.length ∧ v = .int .i64 (j : Int) ∧ wr = w ∧ ∀ i, i < j → (rows.getD i default).l.length ≤ 8) (fun v _ => (2000 - intOf v).toNat)
     case atStart => exact ⟨0, Nat.zero_le _, rfl, rfl, fun i hi => absurd hi (Nat.not_lt_zero _)⟩
     case round =>
      obtain ⟨j, hj, rfl, hw, hsh⟩ := hrel
      subst hw
      have HS := hid hsh
      clear hsh
      by_cases hjt : j < rows.length
      ·have hjt' : (j : Int) < (rows.length : Int) := by omega
       have hj2 : (j : Int) < 1000 := by omega
       obtain ⟨b, o, hp, hc, -⟩ := HRW.out j hjt
       subst hp
       have c0 := hc 0
       have c1 : wr.cell? ⟨b, o + j, none⟩ = some (.slice (rows.getD j default).po (rows.getD j default).l.length (rows.getD j default).c) := c0
       have HL9 := hid (HLG.out j hjt)
       have HSS := hid (fun (h : (rows.getD j default).l.length ≤ 8) i (hi : i < j + 1) => if e : i = j then (by subst e; exact h : (rows.getD i default).l.length ≤ 8) else HS.out i (by omega))
       clear c0 hc
       obtain ⟨m, hm⟩ : ∃ m, (rows.getD j default).l.length = m := ⟨_, rfl⟩
       rw [hm] at c1 HL9 HSS
       clear hm
       by_cases h9 : 8 < m
       ·have h9' : (8 : Int) < (m : Int) := by omega
        have hbA := HL9.out h9
        subst hbA
        go_wp2
        go_ret
        exact ⟨rfl, 0, rfl⟩
       ·have h9' : ¬ (8 : Int) < (m : Int) := by omega
        go_wp2
        go_roundw
        case rel => exact ⟨j + 1, by omega, by go_num, trivial, HSS.out (by omega)⟩
        case measure => simp [intOf]; omega
      ·have hjt' : ¬ (j : Int) < (rows.length : Int) := by omega
       have hbA := HSH.out (fun i hi => HS.out i (by omega))
       subst hbA
       clear HS HLG HSH
       go_wp2
       go_loopw [8] (fun v wk => ∃ j : Nat, j ≤ rows.length ∧ v = .int .i64 (j : Int) ∧ (∃ dn, wk = wr.drewN dn) ∧ ∀ i, i < j → okFl [] (rows.getD i default).fl = true) (fun v _ => (2000 - intOf v).toNat)
       case atStart => exact ⟨0, Nat.zero_le _, rfl, ⟨0, rfl⟩, fun i hi => absurd hi (Nat.not_lt_zero _)⟩
       case round =>
        obtain ⟨j2, hj', rfl, hdw, hgd⟩ := hrel
        have HDW := hid hdw
        have HS := hid hgd
        by_cases hkt : j2 < rows.length
        ·have hkt' : (j2 : Int) < (rows.length : Int) := by omega
         have hk2 : (j2 : Int) < 1000 := by omega
         obtain ⟨b, o, hp, hc, hrow⟩ := HRW.out j2 hkt
         subst hp
         obtain ⟨dn, hdn⟩ := hdw
         have c1 := hc dn
         rw [← hdn] at c1
         have HFI := hid (rfiles_any (rows.getD j2 default) wr (by rw [hdn]; exact hrow.drew dn) (HR8.out j2 hkt))
         have HDN := hid hdn
         have HBJ := hid (HBD.out j2 hkt)
         have HSS := hid (fun (h : okFl [] (rows.getD j2 default).fl = true) i (hi : i < j2 + 1) => if e : i = j2 then (by subst e; exact h : okFl [] (rows.getD i default).fl = true) else HS.out i (by omega))
         clear hc hrow hdn hgd
         generalize rows.getD j2 default = R at c1 HFI HBJ HSS
         obtain ⟨rpo, rcc, rll⟩ := R
         dsimp only [RowV.v] at *
         unfold filE at HFI
         cases hq : okFl [] (RowV.mk rpo rcc rll).fl with
         | false =>
          rw [hq] at HFI
          have hbB := HBJ.out hq
          subst hbB
          go_wp2_with (go_at_call 119; refine HFI.out.mono ?_; rintro e w6 ⟨rfl, hw6⟩; have HW6 := hid hw6; clear hw6)
          go_ret
          refine ⟨rfl, ?_⟩
          obtain ⟨d6, rfl⟩ := HW6.out
          rw [HDN.out]
          exact ⟨dn + d6, by simp [World.drewN, Nat.add_assoc]⟩
         | true =>
          rw [hq] at HFI
          go_wp2_with (go_at_call 119; refine HFI.out.mono ?_; rintro e w6 ⟨rfl, hw6⟩; have HW6 := hid hw6; clear hw6)
          go_roundw
          case rel =>
           refine ⟨j2 + 1, by omega, by go_num, ?_, HSS.out hq⟩
           obtain ⟨d6, rfl⟩ := HW6.out
           rw [HDN.out]
           exact ⟨dn + d6, by simp [World.drewN, Nat.add_assoc]⟩
          case measure => simp [intOf]; omega
        ·have hkt' : ¬ (j2 : Int) < (rows.length : Int) := by omega
         have hbB := HGD.out (fun i hi => HS.out i (by omega))
         subst hbB
         clear hdw hgd
         go_wp2
         go_ret
         exact ⟨rfl, HDW.out⟩
  ·have g2' : ¬ (rows.length : Int) = (k : Int) := by omega
   rw [if_pos (.inl g2)]
   go_enter Tryz.func65, Tryz.ntmps65
   go_wp2_with (go_at_call 75; refine (HD1.out _).mono ?_; rintro e w' ⟨rfl, hw'⟩; have hw2 := hw'.symm; subst hw2)
   go_ret
   exact ⟨rfl, 0, rfl⟩
 ·rw [if_pos g1, show ckD k = 2 from by unfold ckD at g1 ⊢; split at g1; exact absurd rfl g1; rw [if_neg ‹_›]]
  have HD1 : Hid (∀ W, Calls Tryz.prog 75 #[.slice po k c] W fun e w' => e = .returned (.bool false) ∧ w' = W) := hid (fun W => by have := HD.out W; rw [decide_eq_false g1] at this; exact this)
  clear HD
  go_enter Tryz.func65, Tryz.ntmps65
  go_wp2_with (go_at_call 75; refine (HD1.out _).mono ?_; rintro e w' ⟨rfl, hw'⟩; have hw2 := hw'.symm; subst hw2)
  go_ret
  exact ⟨rfl, 0, rfl⟩
end Go.Proofs.YtfogkegmdgbecaaGreatDoor

/- Files that are named for each drive are deleted. -/
namespace Go.Proofs.YtfogkegmdgbecaaGreatDoor
open Go Go.RowKit Go.Shelf

theorem TxtL.blk {B : Nat} {w : World} {v : Value} {ns : List Nm} (h : TxtL B w v ns) {b : Nat} (hb : v.ownBlock = some b) : ∃ cur, w.heap[b]? = some (.cells cur 9) := by
 rcases h.2 with ⟨e, _⟩ | ⟨g, cap, cur, e, _, hg, _⟩
 ·rw [e] at hb; simp [Value.ownBlock] at hb
 ·rw [e] at hb; simp [Value.ownBlock] at hb; subst hb; exact ⟨cur, hg⟩
theorem TxtL.kpl {B : Nat} {w w' : World} {v : Value} {ns : List Nm} (h : TxtL B w v ns) {C : Nat} (hk : KpL C w w') (hC : C = 0) : TxtL B w' v ns :=
 h.keep fun b hb => by obtain ⟨cur, hc⟩ := h.blk hb; exact (hk.same b _ (by omega) hc rfl).trans hc.symm
/-- Names that are told for a drive. -/
def NmAt (W : World) (q : Nat × List Nm) (e : Ending) (W' : World) : Prop :=
 ∃ po c, e = .returned (.tuple #[.slice po q.2.length c, brk q.1]) ∧ TxtL 0 W' (.slice po q.2.length c) q.2 ∧ Below W.heap.size W W'
/-- Drives as they are, and all that lay in w1 outside T. -/
structure Ctx (w w1 : World) (T : Nat → Prop) (k : Nat) (p : Nat → Nat) (d : Nat → Pd) (f : Fs) (W : World) : Prop where
 fa : ∃ T', FA w W T' k p d f 0
 kp : ∀ b, b < w1.heap.size → ¬ T b → W.heap[b]? = w1.heap[b]?
 sz : w1.heap.size ≤ W.heap.size
/-- What deleteEach leaves. -/
def DEat (w w1 : World) (T : Nat → Prop) (k : Nat) (p : Nat → Nat) (R : Bool × Nat × FS) (e : Ending) (w' : World) : Prop :=
 e = .returned (.tuple #[.int .i64 ((if R.1 then 0 else R.2.1 : Nat) : Int), brk (if R.1 then 11 else 0)]) ∧ (∃ T', Grows w1 T T' ∧ FA w w' T' k p R.2.2.d R.2.2.f 0) ∧ Only T w1 w'
theorem delD_err {nm : Nat → Pd → Fs → Nat × List Nm} {k i n : Nat} {X : FS} (hi : i < k) {q : Nat × List Nm} (hq : nm i (X.d i) X.f = q) (h : q.1 = 11) : delD nm (k - i) i n X = (true, n, X) := by
 rw [show k - i = (k - (i + 1)) + 1 by omega, delD, hq, if_pos h]
theorem delD_brk {nm : Nat → Pd → Fs → Nat × List Nm} {k i n : Nat} {X : FS} (hi : i < k) {q : Nat × List Nm} (hq : nm i (X.d i) X.f = q) (h : q.1 ≠ 11) {z : Bool × Nat × Pd × Fs} (hz : delL q.2 (X.d i) X.f n = z) (h1 : z.1 = true) : delD nm (k - i) i n X = (true, z.2.1, ⟨upd X.d i z.2.2.1, z.2.2.2⟩) := by
 rw [show k - i = (k - (i + 1)) + 1 by omega, delD, hq, if_neg h, hz, if_pos h1]
theorem delD_ok {nm : Nat → Pd → Fs → Nat × List Nm} {k i n : Nat} {X : FS} (hi : i < k) {q : Nat × List Nm} (hq : nm i (X.d i) X.f = q) (h : q.1 ≠ 11) {z : Bool × Nat × Pd × Fs} (hz : delL q.2 (X.d i) X.f n = z) (h1 : z.1 = false) : delD nm (k - i) i n X = delD nm (k - (i + 1)) (i + 1) z.2.1 ⟨upd X.d i z.2.2.1, z.2.2.2⟩ := by
 rw [show k - i = (k - (i + 1)) + 1 by omega, delD, hq, if_neg h, hz, if_neg (by rw [h1]; simp)]
end Go.Proofs.YtfogkegmdgbecaaGreatDoor

/- deleteEach (D). -/
namespace Go.Proofs.YtfogkegmdgbecaaGreatDoor
open Go Go.RowKit Go.Shelf

structure DID (w w1 W0 : World) (T : Nat → Prop) (k : Nat) (p : Nat → Nat) (nm : Nat → Pd → Fs → Nat × List Nm) (X0 : FS) (R : Bool × Nat × FS) (i : Nat) (W : World) : Prop where
 ex : ∃ n X, R = delD nm (k - i) i n X ∧ FI w W0 T (fun b => b = w1.heap.size + 1 ∨ b = w1.heap.size + 1 + 1 ∨ b = w1.heap.size + 1 + 1 + 1) k p X.d X.f W ∧ CAt W (w1.heap.size + 1 + 1 + 1) #[.int .i64 (n : Int)] 3 ∧ n ≤ i * 10000000000 ∧ ∀ j, i ≤ j → X.d j = X0.d j
 r1 : CAt W (w1.heap.size + 1) #[.int .i64 0] 3
 r2 : CAt W (w1.heap.size + 1 + 1) #[.nilIface] 98
def DXD (w w1 W0 : World) (T : Nat → Prop) (k : Nat) (p : Nat → Nat) (R : Bool × Nat × FS) (c : Code) (W : World) : Prop :=
 c = .ret ∧ R.1 = true ∧ FI w W0 T (fun b => b = w1.heap.size + 1 ∨ b = w1.heap.size + 1 + 1 ∨ b = w1.heap.size + 1 + 1 + 1) k p R.2.2.d R.2.2.f W ∧ CAt W (w1.heap.size + 1) #[.int .i64 0] 3 ∧ CAt W (w1.heap.size + 1 + 1) #[brk 11] 98
structure DJD (w w1 W0 Wi : World) (T : Nat → Prop) (k : Nat) (p : Nat → Nat) (X : FS) (ns : List Nm) (v : Value) (n i j : Nat) (W : World) : Prop where
 ex : ∃ dj fj nj, delL ns (X.d i) X.f n = delL (ns.drop j) dj fj nj ∧ FI w W0 T (fun b => b = w1.heap.size + 1 ∨ b = w1.heap.size + 1 + 1 ∨ b = w1.heap.size + 1 + 1 + 1) k p (upd X.d i dj) fj W ∧ CAt W (w1.heap.size + 1 + 1 + 1) #[.int .i64 (nj : Int)] 3 ∧ nj ≤ n + j ∧ Bnd 10000000000 (10000000000 + j) dj
 tx : TxtL 0 W v ns
 r1 : CAt W (w1.heap.size + 1) #[.int .i64 0] 3
 r2 : CAt W (w1.heap.size + 1 + 1) #[.nilIface] 98
 kp : KpL W0.heap.size Wi W
set_option maxHeartbeats 4000000 in
set_option maxRecDepth 100000 in
theorem deleteEachD {w w1 : World} {T : Nat → Prop} {k : Nat} {p : Nat → Nat} {X0 : FS} (h : FA w w1 T k p X0.d X0.f 0) {lv : Value} (hl : LsAt w1 T lv k p) (hk : 1 ≤ k ∧ k ≤ 16) (Bx : Nat) (nm : Nat → Pd → Fs → Nat × List Nm)
  (hB : ∀ i, i < k → Bnd 10000000000 10000000000 (X0.d i)) (hN : ∀ i f, i < k → (nm i (X0.d i) f).2.length ≤ 10000000000 ∧ (nm i (X0.d i) f).1 ≤ 1000 ∧ ∀ s ∈ (nm i (X0.d i) f).2, s.length ≤ maxLen)
  (hnm : ∀ i d f W, i < k → Ctx w w1 T k p d f W → Bnd 10000000000 10000000000 (d i) → Calls Tryz.prog 79 #[.int .i64 (i : Int), ptr (p i), ptr Bx] W (NmAt W (nm i (d i) f))) :
  Calls Tryz.prog 78 #[lv, .func (.func 79) #[] #[ptr Bx]] w1 (DEat w w1 T k p (delD nm k 0 0 X0)) := by
 obtain ⟨R, hR⟩ : ∃ R, R = delD nm k 0 0 X0 := ⟨_, rfl⟩
 rw [← hR]
 obtain ⟨po, cc, rfl⟩ := hl.form
 have HR := hid hR
 have HB := hid hB
 have HN := hid hN
 have HK := hid hk
 have HL := hid hl
 have HBE := hid h.be
 have HNM := hid hnm
 have hmf := run_mf Tryz.prog
 clear hR hB hN hnm hl
 refine (callsIn_wide (n := 0)).1 ?_
 refine callsIn_of_wp_marks Tryz.func78 rfl trivial ?_ rfl
 refine wpIn_wide.2 ?_
 simp only [Tryz.ntmps78, List.size_toArray, List.length_cons, List.length_nil, Nat.reduceAdd, Nat.reduceSub, Array.replicate_succ, Array.replicate_zero, List.push_toArray, List.append_toArray, List.nil_append, List.cons_append]
 go_wp2_with (go_at_call 73; refine (each_any _ _ _ _).mono ?_; rintro e w5 ⟨rfl, rfl⟩)
 rename_i Kx hKx
 refine (wpIn_wide (n := 0)).1 ?_
 have hb0 : Below w1.heap.size w1 (((((w1.alloc (.cells #[.func (.func 79) #[] #[ptr Bx]] 122)).alloc (.cells #[.int .i64 0] 3)).alloc (.cells #[.nilIface] 98)).alloc (.cells #[.int .i64 0] 3)).alloc (.cells #[.slice po k cc] 23)) := (below3 _ _ _ _ _).alloc (below3 _ _ _ _ _).size _
 have x0 := ((((CAt.made w1 #[.func (.func 79) #[] #[ptr Bx]] 122).old (.cells #[.int .i64 0] 3)).old (.cells #[.nilIface] 98)).old (.cells #[.int .i64 0] 3)).old (.cells #[.slice po k cc] 23)
 have x1 := (((CAt.made (w1.alloc (.cells #[.func (.func 79) #[] #[ptr Bx]] 122)) #[.int .i64 0] 3).old (.cells #[.nilIface] 98)).old (.cells #[.int .i64 0] 3)).old (.cells #[.slice po k cc] 23)
 have x2 := ((CAt.made ((w1.alloc (.cells #[.func (.func 79) #[] #[ptr Bx]] 122)).alloc (.cells #[.int .i64 0] 3)) #[.nilIface] 98).old (.cells #[.int .i64 0] 3)).old (.cells #[.slice po k cc] 23)
 have x3 := (CAt.made (((w1.alloc (.cells #[.func (.func 79) #[] #[ptr Bx]] 122)).alloc (.cells #[.int .i64 0] 3)).alloc (.cells #[.nilIface] 98)) #[.int .i64 0] 3).old (.cells #[.slice po k cc] 23)
 have x4 := CAt.made ((((w1.alloc (.cells #[.func (.func 79) #[] #[ptr Bx]] 122)).alloc (.cells #[.int .i64 0] 3)).alloc (.cells #[.nilIface] 98)).alloc (.cells #[.int .i64 0] 3)) #[.slice po k cc] 23
 have hsz : ((((((w1.alloc (.cells #[.func (.func 79) #[] #[ptr Bx]] 122)).alloc (.cells #[.int .i64 0] 3)).alloc (.cells #[.nilIface] 98)).alloc (.cells #[.int .i64 0] 3)).alloc (.cells #[.slice po k cc] 23))).heap.size = w1.heap.size + 5 := by simp
 simp only [World.size_alloc] at x1 x2 x3 x4
 generalize (((((w1.alloc (.cells #[.func (.func 79) #[] #[ptr Bx]] 122)).alloc (.cells #[.int .i64 0] 3)).alloc (.cells #[.nilIface] 98)).alloc (.cells #[.int .i64 0] 3)).alloc (.cells #[.slice po k cc] 23)) = W0 at hb0 x0 x1 x2 x3 x4 hsz ⊢
 have hTl : ∀ b, T b → b < w1.heap.size := h.lt
 have hA0 : FA w W0 T k p X0.d X0.f 0 := h.below hb0
 have mem : ∀ d f W, FI w W0 T (fun b => b = w1.heap.size + 1 ∨ b = w1.heap.size + 1 + 1 ∨ b = w1.heap.size + 1 + 1 + 1) k p d f W → CAt W w1.heap.size #[.func (.func 79) #[] #[ptr Bx]] 122 ∧ CAt W (w1.heap.size + 1 + 1 + 1 + 1) #[.slice po k cc] 23 ∧ LsAt W T (.slice po k cc) k p ∧ Ctx w w1 T k p d f W := fun d f W hf =>
  have bx : ∀ b, w1.heap.size ≤ b → b < W0.heap.size → b ≠ w1.heap.size + 1 → b ≠ w1.heap.size + 1 + 1 → b ≠ w1.heap.size + 1 + 1 + 1 → W.heap[b]? = W0.heap[b]? := fun b h1 h2 h3 h4 h5 => hf.on.block b h2 fun e => e.elim (fun ht => by have := hTl b ht; omega) (fun e => e.elim h3 (fun e => e.elim h4 h5))
  have lo : ∀ b, b < w1.heap.size → ¬ T b → W.heap[b]? = w1.heap[b]? := fun b hb hT => hf.keepX hb0 hb hT (fun e => by omega)
  ⟨x0.keep (bx _ (by omega) (by omega) (by omega) (by omega) (by omega)), x4.keep (bx _ (by omega) (by omega) (by omega) (by omega) (by omega)), HL.out.keep lo (fun _ _ h => h), by obtain ⟨T', hg, hf2⟩ := hf.ex; exact ⟨⟨T', hf2⟩, lo, Nat.le_trans hb0.size hf.sz⟩⟩
 have MEM := hid mem
 have HTL := hid hTl
 have HSZ := hid hsz
 have HB0 := hid hb0
 have hwW : w.heap.size ≤ W0.heap.size := by have := HBE.out.size; omega
 have hwW1 : Hid (w.heap.size ≤ w1.heap.size) := HBE.out.size
 clear mem x0 x4 h
 refine range_plain (gf := 121) (lb := #[ptr (w1.heap.size + 1 + 1 + 1 + 1)]) rfl (enters_of Tryz.func121 (by kernel_rfl) rfl) k (eEnc p) (fun _ => rfl) (fun _ _ => True) (DID w w1 W0 T k p nm X0 R)
  (DXD w w1 W0 T k p R) (fun _ _ _ h _ => h) ?hI ?hIx ?h0 ?hseq ?asg ?assign ?body ?done ?stop
 case hI =>
  intro i A C hi ht
  obtain ⟨⟨n, X, h1, h2, h3, h4, h5⟩, h6, h7⟩ := hi
  exact ⟨⟨n, X, h1, h2.tn ht hwW, h3.tn ht, h4, h5⟩, h6.tn ht, h7.tn ht⟩
 case hIx =>
  intro c A C hi ht
  obtain ⟨h1, h2, h3, h4, h5⟩ := hi
  exact ⟨h1, h2, h3.tn ht hwW, h4.tn ht, h5.tn ht⟩
 case h0 => exact ⟨⟨0, X0, HR.out, FI.start hA0, x3, by omega, fun _ _ => rfl⟩, x1, x2⟩
 case hseq =>
  refine each_it _ _ (.slice po k cc) k p _ (by have := HK.out.2; omega) fun i W hi => ?_
  obtain ⟨⟨n, X, h1, h2, h3, h4, h5⟩, h6, h7⟩ := hi
  obtain ⟨m1, m2, m3, m4⟩ := MEM.out _ _ W h2
  exact ⟨m2, m3.none⟩
 case assign =>
  intro l i W K hik hK
  unfold eEnc
  refine wpIn_seq (round_list (fun _ _ h => h) (by kernel_rfl) ?_)
  go_wp2
  refine round_list (fun _ _ h => h) (by kernel_rfl) ?_
  go_wp2
  exact hK
 case done =>
  intro D W hD hi hd
  obtain ⟨⟨n, X, h1, h2, h3, h4, h5⟩, h6, h7⟩ := hi
  have hR2 : R = (false, n, X) := by rw [h1, Nat.sub_self]; rfl
  have c6 : W.cell? ⟨w1.heap.size + 1 + 1 + 1, 0, none⟩ = some (.int .i64 (n : Int)) := h3.cell 0
  have a1 : W.cell? ⟨w1.heap.size + 1, 0, none⟩ = some (.int .i64 0) := h6.cell 0
  have y1 : W.frozen? ⟨w1.heap.size + 1, 0, none⟩ = false := h6.free 0
  have g2 := h2.set (b := w1.heap.size + 1) (.inl rfl) (by omega) (fun ht => by have := HTL.out _ ht; omega) (by have := hwW1.out; omega) 0 (.int .i64 (n : Int))
  have r7 : CAt (W.setCell ⟨w1.heap.size + 1, 0, none⟩ (.int .i64 (n : Int))) (w1.heap.size + 1 + 1) #[.nilIface] 98 := h7.keep (heap_setCell_ne _ _ _ _ (by show w1.heap.size + 1 + 1 ≠ w1.heap.size + 1; omega))
  have r6 : CAt (W.setCell ⟨w1.heap.size + 1, 0, none⟩ (.int .i64 (n : Int))) (w1.heap.size + 1) #[.int .i64 (n : Int)] 3 := by have := h6.set 0 (.int .i64 (n : Int)); simpa using this
  have a2 : (W.setCell ⟨w1.heap.size + 1, 0, none⟩ (.int .i64 (n : Int))).cell? ⟨w1.heap.size + 1 + 1, 0, none⟩ = some .nilIface := r7.cell 0
  have y2 : (W.setCell ⟨w1.heap.size + 1, 0, none⟩ (.int .i64 (n : Int))).frozen? ⟨w1.heap.size + 1 + 1, 0, none⟩ = false := r7.free 0
  have g3 := g2.set (b := w1.heap.size + 1 + 1) (.inr (.inl rfl)) (by omega) (fun ht => by have := HTL.out _ ht; omega) (by have := hwW1.out; omega) 0 .nilIface
  have r8 : CAt ((W.setCell ⟨w1.heap.size + 1, 0, none⟩ (.int .i64 (n : Int))).setCell ⟨w1.heap.size + 1 + 1, 0, none⟩ .nilIface) (w1.heap.size + 1 + 1) #[.nilIface] 98 := by have := r7.set 0 .nilIface; simpa using this
  have r9 : CAt ((W.setCell ⟨w1.heap.size + 1, 0, none⟩ (.int .i64 (n : Int))).setCell ⟨w1.heap.size + 1 + 1, 0, none⟩ .nilIface) (w1.heap.size + 1) #[.int .i64 (n : Int)] 3 := r6.keep (heap_setCell_ne _ _ _ _ (by show w1.heap.size + 1 ≠ w1.heap.size + 1 + 1; omega))
  have hd2 : ((W.setCell ⟨w1.heap.size + 1, 0, none⟩ (.int .i64 (n : Int))).setCell ⟨w1.heap.size + 1 + 1, 0, none⟩ .nilIface).heap[D]? = some (.deferred (some [])) := (heap_setCell_ne _ _ _ _ (by show D ≠ w1.heap.size + 1 + 1; omega)).trans ((heap_setCell_ne _ _ _ _ (by show D ≠ w1.heap.size + 1; omega)).trans hd)
  refine hKx _ _ ?_
  dsimp only [endAct]
  clear hKx h1 h2 h3 h4 h5 h6 h7 g2 r6 r7 hd
  go_wp2
  clear a1 y1 a2 y2 c6
  generalize ((W.setCell ⟨w1.heap.size + 1, 0, none⟩ (.int .i64 (n : Int))).setCell ⟨w1.heap.size + 1 + 1, 0, none⟩ .nilIface) = w7 at *
  have ht : Tn W0.heap.size w7 (w7.putObj D (.deferred none)) := Tn.put _ (by omega) hd2 rfl
  refine ⟨by simp, .inl ⟨_, _, rfl, run_takeDeferred hd2, ?_⟩⟩
  have q4 := (r9.tn ht).cell 0
  have q5 := (r8.tn ht).cell 0
  refine ⟨.tuple #[.int .i64 (n : Int), .nilIface], ?_, ?_⟩
  ·simp [results, Tryz.f78, go_sem, q4, q5]
  ·have f2 := g3.tn ht hwW
   obtain ⟨T', hg, hf⟩ := f2.ex
   refine ⟨by rw [hR2]; rfl, ⟨T', ⟨hg.1, fun b hb => (hg.2 b hb).imp id (fun h => by omega)⟩, by rw [hR2]; exact hf⟩, (Only.of_below HB0.out).then f2.on (fun b hb hx => hx.elim id (fun hx => by omega))⟩
 case stop =>
  intro D c W hD hi hd
  obtain ⟨rfl, h1, h2, h3, h5⟩ := hi
  have ht : Tn W0.heap.size W (W.putObj D (.deferred none)) := Tn.put _ (by omega) hd rfl
  refine wpIn_ret ?_
  refine ⟨by simp, .inl ⟨_, _, rfl, run_takeDeferred hd, ?_⟩⟩
  have q4 := (h3.tn ht).cell 0
  have q5 := (h5.tn ht).cell 0
  refine ⟨.tuple #[.int .i64 0, brk 11], ?_, ?_⟩
  ·simp [results, Tryz.f78, endAct, go_sem, q4, q5]
  ·have f2 := h2.tn ht hwW
   obtain ⟨T', hg, hf⟩ := f2.ex
   refine ⟨by rw [h1]; rfl, ⟨T', ⟨hg.1, fun b hb => (hg.2 b hb).imp id (fun h => by omega)⟩, hf⟩, (Only.of_below HB0.out).then f2.on (fun b hb hx => hx.elim id (fun hx => by omega))⟩
 case body =>
  intro l i W hik hi _
  clear hsz
  obtain ⟨⟨n, X, hRR, hFI, hn, hnb, hsm⟩, hr1, hr2⟩ := hi
  obtain ⟨m1, m2, m3, m4⟩ := MEM.out _ _ W hFI
  have c0 : W.cell? ⟨w1.heap.size, 0, none⟩ = some (.func (.func 79) #[] #[ptr Bx]) := m1.cell 0
  have hbi := HB.out i hik
  rw [← hsm i (Nat.le_refl _)] at hbi
  have HNC := hid (HNM.out i X.d X.f W hik m4 hbi)
  obtain ⟨hq1, hq2, hq3⟩ := HN.out i X.f hik
  rw [← hsm i (Nat.le_refl _)] at hq1 hq2 hq3
  have HBI := hid hbi
  generalize hq : nm i (X.d i) X.f = q at *
  have HQ := hid hq
  have HQ3 := hid hq3
  have HRR := hid hRR
  have HSM := hid hsm
  have HNB := hid hnb
  have S5 : Hid (∀ w5, Below W.heap.size W w5 → FI w W0 T (fun b => b = w1.heap.size + 1 ∨ b = w1.heap.size + 1 + 1 ∨ b = w1.heap.size + 1 + 1 + 1) k p X.d X.f w5 ∧ CAt w5 (w1.heap.size + 1 + 1 + 1) #[.int .i64 (n : Int)] 3 ∧ CAt w5 (w1.heap.size + 1) #[.int .i64 0] 3 ∧ CAt w5 (w1.heap.size + 1 + 1) #[.nilIface] 98) := fun w5 hb => ⟨hFI.below hb, hn.below hb, hr1.below hb, hr2.below hb⟩
  clear hFI hn hr1 hr2 m1 m2 m3 m4 hbi hq hq3 hRR hsm hnb
  refine wpIn_block (wpIn_seq (round_list (fun _ _ h => h) (by kernel_rfl) ?_))
  by_cases h11 : q.1 = 11
  ·have hb11 : brk q.1 = .iface 160 (.agg #[.int .i64 11]) := by rw [h11]; rfl
   go_wp2_with (go_at_call 79; refine HNC.out.mono ?_; rintro e w5 ⟨qpo, qc, rfl, htx, hb5⟩; rw [hb11]; have HB5 := hid hb5; clear hb5 htx)
   obtain ⟨f5, n5, a5, b5⟩ := S5.out w5 HB5.out
   have a1 : w5.cell? ⟨w1.heap.size + 1, 0, none⟩ = some (.int .i64 0) := a5.cell 0
   have y1 : w5.frozen? ⟨w1.heap.size + 1, 0, none⟩ = false := a5.free 0
   have r7 : CAt (w5.setCell ⟨w1.heap.size + 1, 0, none⟩ (.int .i64 0)) (w1.heap.size + 1 + 1) #[.nilIface] 98 := b5.keep (heap_setCell_ne _ _ _ _ (by show w1.heap.size + 1 + 1 ≠ w1.heap.size + 1; omega))
   have a2 : (w5.setCell ⟨w1.heap.size + 1, 0, none⟩ (.int .i64 0)).cell? ⟨w1.heap.size + 1 + 1, 0, none⟩ = some .nilIface := r7.cell 0
   have y2 : (w5.setCell ⟨w1.heap.size + 1, 0, none⟩ (.int .i64 0)).frozen? ⟨w1.heap.size + 1 + 1, 0, none⟩ = false := r7.free 0
   have FIN : Hid (rdP W0.heap.size (DID w w1 W0 T k p nm X0 R (i + 1)) (DXD w w1 W0 T k p R) W .ret { tmps := #[], defers := [] } ((w5.setCell ⟨w1.heap.size + 1, 0, none⟩ (.int .i64 0)).setCell ⟨w1.heap.size + 1 + 1, 0, none⟩ (.iface 160 (.agg #[.int .i64 11])))) := by
    have z := HSZ.out
    have zw := hwW1.out
    have hR2 : R = (true, n, X) := by rw [HRR.out, delD_err hik HQ.out h11]
    refine ⟨((KpL.below HB5.out).trans (KpL.set (by omega) _ _ _)).trans (KpL.set (by omega) _ _ _), rfl, by rw [hR2], ?_, ?_, ?_⟩
    ·rw [hR2]
     exact (f5.set (b := w1.heap.size + 1) (.inl rfl) (by omega) (fun ht => by have := HTL.out _ ht; omega) (by omega) 0 _).set (b := w1.heap.size + 1 + 1) (.inr (.inl rfl)) (by omega) (fun ht => by have := HTL.out _ ht; omega) (by omega) 0 _
    ·refine CAt.keep (w := w5.setCell ⟨w1.heap.size + 1, 0, none⟩ (.int .i64 0)) ?_ (heap_setCell_ne _ _ _ _ (by show w1.heap.size + 1 ≠ w1.heap.size + 1 + 1; omega))
     have := a5.set 0 (.int .i64 0); simpa using this
    ·have := r7.set 0 (.iface 160 (.agg #[.int .i64 11])); simpa [brk] using this
   clear f5 n5 a5 b5 r7
   refine wpIn_seq (wpIn_seq (round_list (fun _ _ h => h) (by kernel_rfl) ?_))
   go_wp2
   refine wpIn_cond_true rfl (wpIn_seq (round_list (fun _ _ h => h) (by kernel_rfl) ?_))
   go_wp2
   refine wpIn_ret ?_
   exact FIN.out
  ·have hbn : brk q.1 = .nilIface := by unfold brk; rw [if_neg h11]
   go_wp2_with (go_at_call 79; refine HNC.out.mono ?_; rintro e w5 ⟨qpo, qc, rfl, htx, hb5⟩; rw [hbn]; have HB5 := hid hb5; have HTX := hid htx; clear hb5 htx)
   have J0 : Hid (DJD w w1 W0 W T k p X q.2 (.slice qpo q.2.length qc) n i 0 w5) := by
    obtain ⟨f5, n5, a5, b5⟩ := S5.out w5 HB5.out
    exact ⟨⟨X.d i, X.f, n, rfl, by rw [upd_id]; exact f5, n5, Nat.le_refl _, HBI.out⟩, HTX.out, a5, b5, KpL.below HB5.out⟩
   refine wpIn_seq (wpIn_seq (round_list (fun _ _ h => h) (by kernel_rfl) ?_))
   go_wp2
   refine wpIn_cond_false rfl (wpIn_skip ?_)
   refine wpIn_seq (round_list (fun _ _ h => h) (by kernel_rfl) ?_)
   go_wp2
   have hql : (q.2.length : Int) ≤ 10000000000 := by omega
   refine wpIn_block ?_
   gi_loopw [31] (fun v wr => ∃ j : Nat, j ≤ q.2.length ∧ v = .int .i64 (j : Int) ∧ DJD w w1 W0 W T k p X q.2 (.slice qpo q.2.length qc) n i j wr) (fun v _ => ((q.2.length : Int) - intOf v).toNat)
   case atStart => exact ⟨0, Nat.zero_le _, rfl, J0.out⟩
   case round =>
    obtain ⟨j, hj, rfl, hJ⟩ := hrel
    obtain ⟨⟨dj, fj, nj, hdel, hFI, hn, hnj, hbd⟩, htx, hr1, hr2, hkp⟩ := hJ
    have hjf : IntKind.i64.wrap ((j : Int) + 1) = (j : Int) + 1 := IntWalk.i64_in _ ⟨by omega, by omega⟩
    refine wpIn_seq (round_list (fun _ _ h => h) (by kernel_rfl) ?_)
    by_cases hlt : j < q.2.length
    ·have hlt' : (j : Int) < (q.2.length : Int) := by omega
     go_wp2
     refine wpIn_seq (wpIn_cond_true rfl (wpIn_skip ?_))
     rcases htx.at with ⟨he, _⟩ | ⟨b, c, he, hc⟩
     ·rw [he] at hlt; simp at hlt
     have hqp : qpo = some ⟨b, 0, none⟩ := by injection he
     subst hqp
     have hcj := hc j hlt
     have hmem : q.2.getD j [] ∈ q.2 := by rw [getD_in _ _ _ hlt]; exact List.getElem_mem hlt
     have hdrop : q.2.drop j = q.2.getD j [] :: q.2.drop (j + 1) := by rw [List.drop_eq_getElem_cons hlt, getD_in _ _ _ hlt]
     have hsl := HQ3.out _ hmem
     rw [hdrop] at hdel
     clear hc he hmem hdrop
     generalize q.2.getD j [] = s at *
     have HST := hid (hFI.step hik (fun fu S m L hd hf => delete_any hd hf s hsl (by rw [upd_same]; have := hbd.2; omega)) (delete_sm _ _ _))
     rw [upd_same, upd_upd] at HST
     have hcd := delete_cd dj fj s
     have HBD := hid (bnd_delete hbd fj s)
     have hdl : delL (s :: q.2.drop (j + 1)) dj fj nj = if (dj.delete fj s).1 = 11 then (true, nj, (dj.delete fj s).2.1, (dj.delete fj s).2.2) else delL (q.2.drop (j + 1)) (dj.delete fj s).2.1 (dj.delete fj s).2.2 (if (dj.delete fj s).1 = 0 then nj + 1 else nj) := rfl
     rw [hdl] at hdel
     clear hdl
     generalize dj.delete fj s = r at *
     have HDEL := hid hdel
     have HNJ := hid hnj
     have S6 : Hid (∀ w6, FIs w W0 T (fun b => b = w1.heap.size + 1 ∨ b = w1.heap.size + 1 + 1 ∨ b = w1.heap.size + 1 + 1 + 1) k p (upd X.d i r.2.1) r.2.2 wr w6 → FI w W0 T (fun b => b = w1.heap.size + 1 ∨ b = w1.heap.size + 1 + 1 ∨ b = w1.heap.size + 1 + 1 + 1) k p (upd X.d i r.2.1) r.2.2 w6 ∧ CAt w6 (w1.heap.size + 1 + 1 + 1) #[.int .i64 (nj : Int)] 3 ∧ CAt w6 (w1.heap.size + 1) #[.int .i64 0] 3 ∧ CAt w6 (w1.heap.size + 1 + 1) #[.nilIface] 98 ∧ TxtL 0 w6 (.slice (some ⟨b, 0, none⟩) q.2.length qc) q.2 ∧ KpL W0.heap.size W w6) := fun w6 ⟨h1, h2, h3⟩ =>
      ⟨h1, hn.kpl h3 (Nat.zero_le _) rfl, hr1.kpl h3 (Nat.zero_le _) rfl, hr2.kpl h3 (Nat.zero_le _) rfl, htx.kpl h3 rfl, hkp.trans (h3.mono (Nat.zero_le _))⟩
     clear hFI hn hr1 hr2 htx hkp hbd hdel hnj
     refine wpIn_seq (wpIn_block (wpIn_seq (round_list (fun _ _ h => h) (by kernel_rfl) ?_)))
     go_wp2
     clear hcj
     refine wpIn_seq (round_list (fun _ _ h => h) (by kernel_rfl) ?_)
     go_wp2_with (go_at_call 122; refine HST.out.mono ?_; rintro e w6 ⟨rfl, hs6⟩; have HS6 := hid (S6.out w6 hs6); clear hs6)
     clear HST S6
     refine wpIn_seq (wpIn_seq (round_list (fun _ _ h => h) (by kernel_rfl) ?_))
     by_cases r11 : r.1 = 11
     ·have hb11 : brk 11 = .iface 160 (.agg #[.int .i64 11]) := rfl
      rw [r11]
      go_wp2_with (go_at_call 113; refine (breaks_any 11 _ (by omega)).mono ?_; rintro e w6' ⟨rfl, hw6⟩; have hw6' := hw6.symm; subst hw6'; rw [hb11])
      obtain ⟨f5, n5, a5, b5, t5, k5⟩ := HS6.out
      have a1 : w6.cell? ⟨w1.heap.size + 1, 0, none⟩ = some (.int .i64 0) := a5.cell 0
      have y1 : w6.frozen? ⟨w1.heap.size + 1, 0, none⟩ = false := a5.free 0
      have r7 : CAt (w6.setCell ⟨w1.heap.size + 1, 0, none⟩ (.int .i64 0)) (w1.heap.size + 1 + 1) #[.nilIface] 98 := b5.keep (heap_setCell_ne _ _ _ _ (by show w1.heap.size + 1 + 1 ≠ w1.heap.size + 1; omega))
      have a2 : (w6.setCell ⟨w1.heap.size + 1, 0, none⟩ (.int .i64 0)).cell? ⟨w1.heap.size + 1 + 1, 0, none⟩ = some .nilIface := r7.cell 0
      have y2 : (w6.setCell ⟨w1.heap.size + 1, 0, none⟩ (.int .i64 0)).frozen? ⟨w1.heap.size + 1 + 1, 0, none⟩ = false := r7.free 0
      have FIN : Hid (rdP W0.heap.size (DID w w1 W0 T k p nm X0 R (i + 1)) (DXD w w1 W0 T k p R) W .ret { tmps := #[], defers := [] } ((w6.setCell ⟨w1.heap.size + 1, 0, none⟩ (.int .i64 0)).setCell ⟨w1.heap.size + 1 + 1, 0, none⟩ (.iface 160 (.agg #[.int .i64 11])))) := by
       have z := HSZ.out
       have zw := hwW1.out
       have hR2 : R = (true, nj, ⟨upd X.d i r.2.1, r.2.2⟩) := by rw [HRR.out, delD_brk hik HQ.out h11 (HDEL.out.trans (if_pos r11)) rfl]
       refine ⟨(k5.trans (KpL.set (by omega) _ _ _)).trans (KpL.set (by omega) _ _ _), rfl, by rw [hR2], ?_, ?_, ?_⟩
       ·rw [hR2]
        exact (f5.set (b := w1.heap.size + 1) (.inl rfl) (by omega) (fun ht => by have := HTL.out _ ht; omega) (by omega) 0 _).set (b := w1.heap.size + 1 + 1) (.inr (.inl rfl)) (by omega) (fun ht => by have := HTL.out _ ht; omega) (by omega) 0 _
       ·refine CAt.keep (w := w6.setCell ⟨w1.heap.size + 1, 0, none⟩ (.int .i64 0)) ?_ (heap_setCell_ne _ _ _ _ (by show w1.heap.size + 1 ≠ w1.heap.size + 1 + 1; omega))
        have := a5.set 0 (.int .i64 0); simpa using this
       ·have := r7.set 0 (.iface 160 (.agg #[.int .i64 11])); simpa [brk] using this
      clear f5 n5 a5 b5 t5 k5 r7 HS6
      refine wpIn_seq (round_list (fun _ _ h => h) (by kernel_rfl) ?_)
      go_wp2
      refine wpIn_cond_true rfl (wpIn_seq (round_list (fun _ _ h => h) (by kernel_rfl) ?_))
      go_wp2
      refine wpIn_ret ?_
      exact FIN.out
     ·have hbn2 : brk r.1 = .nilIface := by unfold brk; rw [if_neg r11]
      go_wp2_with (go_at_call 113; refine (breaks_any r.1 _ (by omega)).mono ?_; rintro e w6' ⟨rfl, hw6⟩; have hw6' := hw6.symm; subst hw6'; rw [hbn2])
      refine wpIn_seq (round_list (fun _ _ h => h) (by kernel_rfl) ?_)
      go_wp2
      refine wpIn_cond_false rfl (wpIn_skip ?_)
      refine wpIn_seq (round_list (fun _ _ h => h) (by kernel_rfl) ?_)
      by_cases r0 : r.1 = 0
      ·have r0' : ((r.1 : Nat) : Int) = 0 := by omega
       obtain ⟨f5, n5, a5, b5, t5, k5⟩ := HS6.out
       have z := HSZ.out
       have zw := hwW1.out
       have hni : (nj : Int) ≤ 200000000000 := by have := HNJ.out; have := HNB.out; have := HK.out.2; have : i * 10000000000 ≤ 15 * 10000000000 := Nat.mul_le_mul_right _ (by omega); omega
       have a1 : w6.cell? ⟨w1.heap.size + 1 + 1 + 1, 0, none⟩ = some (.int .i64 (nj : Int)) := n5.cell 0
       have y1 : w6.frozen? ⟨w1.heap.size + 1 + 1 + 1, 0, none⟩ = false := n5.free 0
       have NXT : Hid (DJD w w1 W0 W T k p X q.2 (.slice (some ⟨b, 0, none⟩) q.2.length qc) n i (j + 1) (w6.setCell ⟨w1.heap.size + 1 + 1 + 1, 0, none⟩ (.int .i64 ((nj : Int) + 1)))) := by
        refine ⟨⟨r.2.1, r.2.2, nj + 1, by rw [HDEL.out, if_neg r11, if_pos r0], f5.set (b := w1.heap.size + 1 + 1 + 1) (.inr (.inr rfl)) (by omega) (fun ht => by have := HTL.out _ ht; omega) (by omega) 0 _, ?_, by have := HNJ.out; omega, HBD.out⟩, ?_, ?_, ?_, k5.trans (KpL.set (by omega) _ _ _)⟩
        ·have := n5.set 0 (.int .i64 ((nj : Int) + 1)); simpa using this
        ·refine t5.keep fun x hx => heap_setCell_ne _ _ _ _ ?_
         obtain ⟨cur, hc⟩ := t5.blk hx
         show x ≠ w1.heap.size + 1 + 1 + 1
         intro e
         rw [e, show w6.heap[w1.heap.size + 1 + 1 + 1]? = _ from n5] at hc
         cases hc
        ·exact a5.keep (heap_setCell_ne _ _ _ _ (by show w1.heap.size + 1 ≠ w1.heap.size + 1 + 1 + 1; omega))
        ·exact b5.keep (heap_setCell_ne _ _ _ _ (by show w1.heap.size + 1 + 1 ≠ w1.heap.size + 1 + 1 + 1; omega))
       clear f5 n5 a5 b5 t5 k5 HS6
       go_wp2
       refine wpIn_cond_true rfl (round_list (fun _ _ h => h) (by kernel_rfl) ?_)
       go_wp2
       clear a1 y1
       generalize w6.setCell ⟨w1.heap.size + 1 + 1 + 1, 0, none⟩ (.int .i64 ((nj : Int) + 1)) = w7 at *
       refine round_list (fun _ _ h => h) (by kernel_rfl) ?_
       go_wp2
       refine ⟨⟨j + 1, hlt, by congr 1, NXT.out⟩, ?_⟩
       simp only [intOf]; omega
      ·have r0' : (((r.1 : Nat) : Int) == 0) = false := by simp; omega
       have NXT : Hid (DJD w w1 W0 W T k p X q.2 (.slice (some ⟨b, 0, none⟩) q.2.length qc) n i (j + 1) w6) := by
        obtain ⟨f5, n5, a5, b5, t5, k5⟩ := HS6.out
        exact ⟨⟨r.2.1, r.2.2, nj, by rw [HDEL.out, if_neg r11, if_neg r0], f5, n5, by have := HNJ.out; omega, HBD.out⟩, t5, a5, b5, k5⟩
       go_wp2
       refine wpIn_cond_false rfl (wpIn_skip ?_)
       refine round_list (fun _ _ h => h) (by kernel_rfl) ?_
       go_wp2
       refine ⟨⟨j + 1, hlt, by congr 1, NXT.out⟩, ?_⟩
       simp only [intOf]; omega
    ·have hlt' : ¬ (j : Int) < (q.2.length : Int) := by omega
     go_wp2
     refine wpIn_seq (wpIn_cond_false rfl (wpIn_exit ?_))
     have hnil : q.2.drop j = [] := List.drop_eq_nil_of_le (by omega)
     rw [hnil] at hdel
     refine ⟨hkp, ⟨⟨nj, ⟨upd X.d i dj, fj⟩, ?_, hFI, hn, ?_, fun x hx => ?_⟩, hr1, hr2⟩⟩
     ·rw [HRR.out, delD_ok hik HQ.out h11 hdel rfl]; rfl
     ·have := HNB.out; rw [Nat.add_mul]; omega
     ·show upd X.d i dj x = _
      rw [upd_ne _ _ (by omega)]; exact HSM.out x (by omega)
end Go.Proofs.YtfogkegmdgbecaaGreatDoor
