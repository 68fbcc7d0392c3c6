/- Texts laid into one, cut to what is needed: the remark ahead of each part says what is proved there. -/
import Derived.Test.YtklchjfkkbpipaaGreatDoorPaj
/- What stands against a Commit. -/
namespace Go.Proofs.YtklchjfkkbpipaaGreatDoor
open Go Go.RowKit

def okSt (s : Nm) : Bool := okNm s && (!([116, 109, 112, 47] : Nm).isPrefixOf s && okNm (tmpN s))
theorem mayStage_any (s : Nm) (hs : s.length ≤ maxLen) (w : World) : Calls Tryz.prog 147 #[sv s] w fun e w' => e = .returned (.bool (okSt s)) ∧ w' = w := by
  have HN := hid (fun W => name_any s W hs)
  have HP := hid (fun W => Tryz.strings_HasPrefix ⟨s.toArray⟩ ⟨#[116, 109, 112, 47]⟩ W)
  have HPe : Hid (Lib.hasPrefix s ([116, 109, 112, 47] : Nm) = ([116, 109, 112, 47] : Nm).isPrefixOf s) := rfl
  cases h1 : okNm s
  · have e : okSt s = false := by unfold okSt; rw [h1]; rfl
    rw [e]
    rw [h1] at HN
    go_enter Tryz.func147, Tryz.ntmps147
    go_wp2_with (go_at_call 66; refine (HN.out _).mono ?_; rintro e w' ⟨rfl, hw'⟩; have hw2 := hw'.symm; subst hw2)
    go_ret
    exact ⟨rfl, by first | rfl | trivial⟩
  · have hl : s.length ≤ 512 := ok_len h1
    have HS := hid (fun W => staged_any s W (by omega))
    have HN2 := hid (fun W => name_any (tmpN s) W (by simp [tmpN, maxLen]; omega))
    have e : okSt s = (!([116, 109, 112, 47] : Nm).isPrefixOf s && okNm (tmpN s)) := by unfold okSt; rw [h1]; rfl
    rw [e]
    rw [h1] at HN
    have HP2 : Hid (∀ W, Calls Tryz.prog 118 #[sv s, .string ⟨#[116, 109, 112, 47]⟩] W fun e w' => e = .returned (.bool (([116, 109, 112, 47] : Nm).isPrefixOf s)) ∧ w' = W) := HP.out
    clear HP HPe e
    generalize ([116, 109, 112, 47] : Nm).isPrefixOf s = b at *
    generalize hob : okNm (tmpN s) = o at *
    cases b
    · go_enter Tryz.func147, Tryz.ntmps147
      go_wp2_with (first
        | (go_at_call 66; first | (refine (HN.out _).mono ?_; rintro e w' ⟨rfl, hw'⟩; have hw2 := hw'.symm; subst hw2; clear HN) | (refine (HN2.out _).mono ?_; rintro e w' ⟨rfl, hw'⟩; have hw2 := hw'.symm; subst hw2))
        | (go_at_call 118; refine (HP2.out _).mono ?_; rintro e w' ⟨rfl, hw'⟩; have hw2 := hw'.symm; subst hw2)
        | (go_at_call 128; refine (HS.out _).mono ?_; rintro e w' ⟨rfl, hw'⟩; have hw2 := hw'.symm; subst hw2))
      go_ret
      exact ⟨rfl, by first | rfl | trivial⟩
    · go_enter Tryz.func147, Tryz.ntmps147
      go_wp2_with (first
        | (go_at_call 66; refine (HN.out _).mono ?_; rintro e w' ⟨rfl, hw'⟩; have hw2 := hw'.symm; subst hw2; clear HN)
        | (go_at_call 118; refine (HP2.out _).mono ?_; rintro e w' ⟨rfl, hw'⟩; have hw2 := hw'.symm; subst hw2))
      go_ret
      exact ⟨by simp, by first | rfl | trivial⟩
theorem misnamed1_any (nm s : Nm) (v : Value) (b : Nat) (w : World) (hb : CAt w b #[sv s, v] 66) (po : Option Addr) (n c : Nat) : Calls Tryz.prog 146 #[.agg #[sv nm, .slice po n c], ptr b] w fun e w' => e = .returned (.bool (decide (nm = s))) ∧ Below w.heap.size w w' := by
  have hlt := hb.lt
  have c0 : (w.alloc (.cells #[sv nm, .slice po n c] 66)).cell? ⟨b, 0, none⟩ = some (sv s) := (hb.old _).cell 0
  have hbe : Below w.heap.size w (w.alloc (.cells #[sv nm, .slice po n c] 66)) := (Below.refl _ _).alloc (Nat.le_refl _) _
  clear hb
  by_cases h : nm = s
  · subst h
    go_enter Tryz.func146, Tryz.ntmps146
    go_wp2
    go_ret
    exact ⟨by simp, hbe⟩
  · have hne : (nm == s) = false := by simpa using h
    go_enter Tryz.func146, Tryz.ntmps146
    go_wp2
    go_ret
    exact ⟨by simp [h], hbe⟩
def names (r : RowV) : List Nm := r.l.map FlV.nm
def IdxAt (w : World) (b : Bool) (e : Ending) (w' : World) : Prop := (∃ q : Int, e = .returned (.int .i64 q) ∧ decide (0 ≤ q) = b) ∧ Below w.heap.size w w'
set_option maxHeartbeats 1000000 in
set_option maxRecDepth 100000 in
theorem indexFile_any (r : RowV) {T : Nat → Prop} (w : World) (hr : r.ok w T) (n : Nat) (hn : n ≤ r.l.length) (h8 : r.l.length ≤ 1000) (c : Nat) (s : Nm) (v : Value) (b : Nat) (hb : CAt w b #[sv s, v] 66) :
    Calls Tryz.prog 171 #[.slice r.po n c, .func (.func 146) #[] #[ptr b]] w (IdxAt w (((names r).take n).contains s)) := by
  have HB := hid hb
  obtain ⟨rpo, rc, rl⟩ := r
  have HR := hid hr
  clear hr hb
  go_enter Tryz.func171, Tryz.ntmps171
  go_wp2
  go_loopw [8] (fun x wr => ∃ j : Nat, j ≤ n ∧ x = .int .i64 (j : Int) ∧ Below w.heap.size w wr ∧ ((names ⟨rpo, rc, rl⟩).take j).contains s = false) (fun x _ => (2000 - intOf x).toNat)
  case atStart => exact ⟨0, by omega, rfl, Below.refl _ _, by simp⟩
  case round =>
    obtain ⟨j, hj, rfl, hbe, hno⟩ := hrel
    by_cases hlt : j < n
    · obtain ⟨fb, fo, hrp, cf0, cf1, hfo⟩ := file_at' (HR.out.keep (w' := wr) (T' := T) (fun b hb _ => hbe.block b hb) (fun _ _ h => h)) (j := j) (by show j < rl.length; have : n ≤ rl.length := hn; omega)
      have hrp' : rpo = some ⟨fb, fo, none⟩ := hrp
      subst hrp'
      have hjl : j < rl.length := by have : n ≤ rl.length := hn; omega
      have htk : (names ⟨some ⟨fb, fo, none⟩, rc, rl⟩).take (j + 1) = (names ⟨some ⟨fb, fo, none⟩, rc, rl⟩).take j ++ [(rl.getD j default).nm] := by
        have h1 : j < (names ⟨some ⟨fb, fo, none⟩, rc, rl⟩).length := by unfold names; simpa using hjl
        rw [List.take_succ_eq_append_getElem h1, getD_in _ _ _ hjl]; simp [names]
      generalize rl.getD j default = x at *
      obtain ⟨nm, pb, cb, bs⟩ := x
      have cf0' : wr.cell? ⟨fb, fo + j * 2, none⟩ = some (sv nm) := cf0
      have cf1' : wr.cell? ⟨fb, fo + j * 2 + 1, none⟩ = some (.slice pb bs.length cb) := cf1
      have HM := hid (misnamed1_any nm s v b wr (HB.out.below hbe) pb bs.length cb)
      have htk' : (names ⟨some ⟨fb, fo, none⟩, rc, rl⟩).take (j + 1) = (names ⟨some ⟨fb, fo, none⟩, rc, rl⟩).take j ++ [nm] := htk
      have hlt' : (j : Int) < (n : Int) := by omega
      have HBE := hid hbe
      have HNO := hid hno
      have HTK := hid htk'
      clear cf0 cf1 hfo htk htk' hbe hno hrp
      by_cases he : nm = s
      · have hde : decide (nm = s) = true := by simpa using he
        rw [hde] at HM
        have HE := hid he
        clear he hde
        go_wp2_with (go_at_call 146; refine HM.out.mono ?_; rintro e w5 ⟨rfl, hb5⟩; have HB5 := hid hb5; clear hb5)
        go_ret
        refine ⟨⟨_, rfl, ?_⟩, below_on _ _ HBE.out HB5.out⟩
        have hin : s ∈ (names ⟨some ⟨fb, fo, none⟩, rc, rl⟩).take n := by
          have : (names ⟨some ⟨fb, fo, none⟩, rc, rl⟩).take (j + 1) = ((names ⟨some ⟨fb, fo, none⟩, rc, rl⟩).take n).take (j + 1) := by rw [List.take_take, Nat.min_eq_left (by omega)]
          have h2 : s ∈ (names ⟨some ⟨fb, fo, none⟩, rc, rl⟩).take (j + 1) := by rw [HTK.out, HE.out]; simp
          rw [this] at h2
          exact List.mem_of_mem_take h2
        simp [hin]
      · have hde : decide (nm = s) = false := by simpa using he
        rw [hde] at HM
        have HE := hid he
        clear he hde
        go_wp2_with (go_at_call 146; refine HM.out.mono ?_; rintro e w5 ⟨rfl, hb5⟩; have HB5 := hid hb5; clear hb5)
        go_roundw
        case rel =>
          refine ⟨j + 1, by omega, by go_num, below_on _ _ HBE.out HB5.out, ?_⟩
          have := HNO.out
          rw [HTK.out]
          simp at this ⊢
          exact ⟨this, fun h => HE.out h.symm⟩
        case measure => simp [intOf]; omega
    · have hlt' : ¬ (j : Int) < (n : Int) := by omega
      have hjn : j = n := by omega
      have HBE := hid hbe
      have HNO := hid hno
      clear hbe hno
      go_wp2
      go_ret
      exact ⟨⟨_, rfl, by have h3 := HNO.out; rw [← hjn]; simp at h3 ⊢; exact h3⟩, HBE.out⟩
theorem containsFile_any (r : RowV) {T : Nat → Prop} (w : World) (hr : r.ok w T) (n : Nat) (hn : n ≤ r.l.length) (h8 : r.l.length ≤ 1000) (c : Nat) (s : Nm) (v : Value) (b : Nat) (hb : CAt w b #[sv s, v] 66) :
    Calls Tryz.prog 148 #[.slice r.po n c, .func (.func 146) #[] #[ptr b]] w fun e w' => e = .returned (.bool (((names r).take n).contains s)) ∧ Below w.heap.size w w' := by
  have HI := hid (indexFile_any r w hr n hn h8 c s v b hb)
  generalize ((names r).take n).contains s = bb at *
  clear hr hb
  go_enter Tryz.func148, Tryz.ntmps148
  go_wp2_with (go_at_call 171; refine HI.out.mono ?_; rintro e w5 ⟨⟨q, rfl, hq⟩, hb5⟩; have HQ := hid hq; have HB5 := hid hb5; clear hb5 hq)
  go_ret
  exact ⟨by rw [← HQ.out]; simp, HB5.out⟩
theorem underF : Tryz.prog.underlying 63 = some (.slice (Tryz.prog.elem 63)) := by kernel_rfl
theorem sizeF (w : World) : (sizeOf (Tryz.prog.elem 63)).run Tryz.prog w = .ok 2 w := by
  rw [show Tryz.prog.elem 63 = 66 by kernel_rfl]
  exact Tryz.sizeOf66 w
set_option maxRecDepth 100000 in
theorem run_hiF (p : Option Addr) (n c k : Nat) (hk : k ≤ c) (hc : 0 < c) (w : World) : (Instr.slice 63 (.slice p n c) none (some (.int .i64 (k : Int))) none).run Tryz.prog w = .ok (.slice p k c) w := by
  rw [run_slice_h (P := Tryz.prog) w 63 p n c underF .i64 (k : Int) (by omega) (by omega), sizeF]
  cases p with
  | none => simp [Result.andThen, sliced, Nat.pos_iff_ne_zero.1 hc]
  | some a => obtain ⟨b, o, s⟩ := a; simp [Result.andThen, sliced, Addr.add]; try (cases s <;> simp)
theorem okFl_cons (seen : List Nm) (x : Fl) (r : List Fl) : okFl seen (x :: r) = (okSt x.1 && (!seen.contains x.1 && okFl (seen ++ [x.1]) r)) := rfl
set_option maxRecDepth 100000 in
theorem misnamed_any (r : RowV) {T : Nat → Prop} (w : World) (hr : r.ok w T) (h8 : r.l.length ≤ 1000) :
    Calls Tryz.prog 125 #[r.v] w fun e w' => e = .returned (.bool (!okFl [] r.fl)) ∧ Below w.heap.size w w' := by
  obtain ⟨rpo, rc, rl⟩ := r
  have HR := hid hr
  have hmf := run_mf Tryz.prog
  have h8' : rl.length ≤ 1000 := h8
  clear hr
  show Calls Tryz.prog 125 #[.slice rpo rl.length rc] w _
  go_enter Tryz.func125, Tryz.ntmps125
  go_wp2
  go_loopw [8] (fun x wr => ∃ j : Nat, j ≤ rl.length ∧ x = .int .i64 (j : Int) ∧ Below w.heap.size w wr ∧ okFl [] (RowV.mk rpo rc rl).fl = okFl ((names ⟨rpo, rc, rl⟩).take j) ((RowV.mk rpo rc rl).fl.drop j)) (fun x _ => (2000 - intOf x).toNat)
  case atStart => exact ⟨0, by omega, rfl, Below.refl _ _, by simp⟩
  case round =>
    obtain ⟨j, hj, rfl, hbe, hok⟩ := hrel
    by_cases hlt : j < rl.length
    · have hrow2 : (RowV.mk rpo rc rl).ok wr T := HR.out.keep (fun b hb _ => hbe.block b hb) (fun _ _ h => h)
      obtain ⟨fb, fo, hrp, cf0, cf1, hfo⟩ := file_at' hrow2 (j := j) hlt
      have hrp' : rpo = some ⟨fb, fo, none⟩ := hrp
      subst hrp'
      have htk : (names ⟨some ⟨fb, fo, none⟩, rc, rl⟩).take (j + 1) = (names ⟨some ⟨fb, fo, none⟩, rc, rl⟩).take j ++ [(rl.getD j default).nm] := by
        have h1 : j < (names ⟨some ⟨fb, fo, none⟩, rc, rl⟩).length := by unfold names; simpa using hlt
        rw [List.take_succ_eq_append_getElem h1, getD_in _ _ _ hlt]; simp [names]
      have hdr := fl_drop (r := RowV.mk (some ⟨fb, fo, none⟩) rc rl) (j := j) hlt
      rw [hdr, okFl_cons] at hok
      have htk0 : (names ⟨some ⟨fb, fo, none⟩, rc, rl⟩).take j ++ [((RowV.mk (some ⟨fb, fo, none⟩) rc rl).l.getD j default).fl.1] = (names ⟨some ⟨fb, fo, none⟩, rc, rl⟩).take (j + 1) := htk.symm
      rw [htk0] at hok
      have hok' : okFl [] (RowV.mk (some ⟨fb, fo, none⟩) rc rl).fl = (okSt (rl.getD j default).nm && (!((names ⟨some ⟨fb, fo, none⟩, rc, rl⟩).take j).contains (rl.getD j default).nm && okFl ((names ⟨some ⟨fb, fo, none⟩, rc, rl⟩).take (j + 1)) ((RowV.mk (some ⟨fb, fo, none⟩) rc rl).fl.drop (j + 1)))) := hok
      clear hok htk htk0 hdr
      generalize rl.getD j default = x at *
      obtain ⟨nm, pb, cb, bs⟩ := x
      have cf0' : wr.cell? ⟨fb, fo + j * 2, none⟩ = some (sv nm) := cf0
      have cf1' : wr.cell? ⟨fb, fo + j * 2 + 1, none⟩ = some (.slice pb bs.length cb) := cf1
      have hbA : Below wr.heap.size wr (wr.alloc (.cells #[sv nm, .slice pb bs.length cb] 66)) := (Below.refl _ _).alloc (Nat.le_refl _) _
      have HMS := hid (fun W => mayStage_any nm hfo.nl W)
      have HCF := hid (containsFile_any (RowV.mk (some ⟨fb, fo, none⟩) rc rl) _ (hrow2.keep (w' := wr.alloc (.cells #[sv nm, .slice pb bs.length cb] 66)) (T' := T) (fun b hb _ => hbA.block b hb) (fun _ _ h => h)) j (Nat.le_of_lt hlt) h8 rc nm _ wr.heap.size (CAt.made wr #[sv nm, .slice pb bs.length cb] 66))
      have hsl : ∀ W, (Instr.slice 63 (.slice (some ⟨fb, fo, none⟩) rl.length rc) none (some (.int .i64 (j : Int))) none).run Tryz.prog W = .ok (.slice (some ⟨fb, fo, none⟩) j rc) W := fun W => run_hiF _ rl.length rc j (by have := HR.out.cp; have : rl.length ≤ rc := this; omega) (by have := HR.out.cp; have : rl.length ≤ rc := this; omega) W
      have hlt' : (j : Int) < (rl.length : Int) := by omega
      have HBE := hid hbe
      have HBA := hid hbA
      have hokb : okFl [] (RowV.mk (some ⟨fb, fo, none⟩) rc rl).fl = (okSt nm && (!((names ⟨some ⟨fb, fo, none⟩, rc, rl⟩).take j).contains nm && okFl ((names ⟨some ⟨fb, fo, none⟩, rc, rl⟩).take (j + 1)) ((RowV.mk (some ⟨fb, fo, none⟩) rc rl).fl.drop (j + 1)))) := hok'
      have HOK := hid hokb
      clear cf0 cf1 hfo hbe hbA hok' hrow2 hokb hrp
      generalize ((names ⟨some ⟨fb, fo, none⟩, rc, rl⟩).take j).contains nm = dup at *
      cases hs : okSt nm
      · rw [hs] at HMS HOK
        go_wp2_with (go_at_call 147; refine (HMS.out _).mono ?_; rintro e w' ⟨rfl, hw'⟩; have hw2 := hw'.symm; subst hw2)
        go_ret
        exact ⟨by rw [HOK.out]; rfl, below_on _ _ HBE.out HBA.out⟩
      · rw [hs] at HMS HOK
        cases dup
        · go_wp2_with (first
            | (go_at_call 147; refine (HMS.out _).mono ?_; rintro e w' ⟨rfl, hw'⟩; have hw2 := hw'.symm; subst hw2)
            | (go_at_call 148; refine HCF.out.mono ?_; rintro e w5 ⟨rfl, hb5⟩; have HB5 := hid hb5; clear hb5))
          go_roundw
          case rel => exact ⟨j + 1, by omega, by go_num, below_on _ _ (below_on _ _ HBE.out HBA.out) HB5.out, by rw [HOK.out]; rfl⟩
          case measure => simp [intOf]; omega
        · go_wp2_with (first
            | (go_at_call 147; refine (HMS.out _).mono ?_; rintro e w' ⟨rfl, hw'⟩; have hw2 := hw'.symm; subst hw2)
            | (go_at_call 148; refine HCF.out.mono ?_; rintro e w5 ⟨rfl, hb5⟩; have HB5 := hid hb5; clear hb5))
          go_ret
          exact ⟨by rw [HOK.out]; rfl, below_on _ _ (below_on _ _ HBE.out HBA.out) HB5.out⟩
    · have hlt' : ¬ (j : Int) < (rl.length : Int) := by omega
      have hdn : (RowV.mk rpo rc rl).fl.drop j = [] := List.drop_eq_nil_of_le (by simp [RowV.fl]; omega)
      rw [hdn] at hok
      have HBE := hid hbe
      have HOK := hid hok
      clear hbe hok hdn
      go_wp2
      go_ret
      exact ⟨by rw [HOK.out]; rfl, HBE.out⟩
end Go.Proofs.YtklchjfkkbpipaaGreatDoor

/- What stands against a Commit, all lists. -/
namespace Go.Proofs.YtklchjfkkbpipaaGreatDoor
open Go Go.RowKit

theorem commitC1_any (po : Option Addr) (n c : Nat) (w : World) : Calls Tryz.prog 124 #[.slice po n c] w fun e w' => e = .returned (.bool (decide (8 < n))) ∧ Below w.heap.size w w' := by
  by_cases h : 8 < n
  · have h' : (8 : Int) < (n : Int) := by omega
    have e : decide (8 < n) = true := by simpa using h
    rw [e]
    clear e
    go_enter Tryz.func124, Tryz.ntmps124
    go_wp2
    go_ret
    exact ⟨by simp, Below.refl _ _⟩
  · have h' : ¬ (8 : Int) < (n : Int) := by omega
    have e : decide (8 < n) = false := by simpa using h
    rw [e]
    clear e
    go_enter Tryz.func124, Tryz.ntmps124
    go_wp2
    go_ret
    exact ⟨by simp, Below.refl _ _⟩
set_option maxHeartbeats 1000000 in
set_option maxRecDepth 100000 in
theorem indexRowL (f : FsV) {T : Nat → Prop} (w : World) (hf : f.ok w T) (hn : f.l.length ≤ 1000) (P : RowV → Bool) (hP : ∀ r ∈ f.l, ∀ W, r.ok W T → Calls Tryz.prog 124 #[r.v] W fun e w' => e = .returned (.bool (P r)) ∧ Below W.heap.size W w') :
    Calls Tryz.prog 145 #[f.v, .func (.func 124) #[] #[]] w (IdxAt w (f.l.any P)) := by
  obtain ⟨fpo, fc, fl⟩ := f
  have HF := hid hf
  have HP := hid hP
  have hn' : fl.length ≤ 1000 := hn
  clear hf hP
  show Calls Tryz.prog _ #[.slice fpo fl.length fc, _] w (IdxAt w (fl.any P))
  obtain ⟨R, hR⟩ : ∃ R, fl.any P = R := ⟨_, rfl⟩
  rw [hR]
  have HR := hid hR
  clear hR
  go_enter Tryz.func145, Tryz.ntmps145
  go_wp2
  go_loopw [8] (fun x wr => ∃ j : Nat, j ≤ fl.length ∧ x = .int .i64 (j : Int) ∧ Below w.heap.size w wr ∧ (fl.take j).any P = false) (fun x _ => (2000 - intOf x).toNat)
  case atStart => exact ⟨0, by omega, rfl, Below.refl _ _, by simp⟩
  case round =>
    obtain ⟨j, hj, rfl, hbe, hno⟩ := hrel
    by_cases hlt : j < fl.length
    · have hf2 : (FsV.mk fpo fc fl).ok wr T := HF.out.keep (fun b hb _ => hbe.block b hb) (fun _ _ h => h)
      obtain ⟨fb, fo, hfp, hfc, hrow⟩ := row_at hf2 (i := j) hlt
      have hfp' : fpo = some ⟨fb, fo, none⟩ := hfp
      subst hfp'
      have hmem : fl.getD j default ∈ fl := by rw [getD_in _ _ _ hlt]; exact List.getElem_mem hlt
      have htk : fl.take (j + 1) = fl.take j ++ [fl.getD j default] := by rw [List.take_succ_eq_append_getElem hlt, getD_in _ _ _ hlt]
      have HC := hid (HP.out _ hmem wr hrow)
      have hfc0 : wr.cell? ⟨fb, fo + j, none⟩ = some (fl.getD j default).v := hfc
      clear hfc hrow hf2
      generalize fl.getD j default = row at *
      obtain ⟨rpo, rc, rl⟩ := row
      have hfc' : wr.cell? ⟨fb, fo + j, none⟩ = some (.slice rpo rl.length rc) := hfc0
      have hlt' : (j : Int) < (fl.length : Int) := by omega
      have HBE := hid hbe
      have HNO := hid hno
      have HTK := hid htk
      have HMEM := hid hmem
      clear hfc0 htk hbe hno hfp hmem
      cases hp : P ⟨rpo, rc, rl⟩
      · rw [hp] at HC
        have HPP := hid hp
        clear hp
        go_wp2_with (go_at_call 124; refine HC.out.mono ?_; rintro e w5 ⟨rfl, hb5⟩; have HB5 := hid hb5; clear hb5)
        go_roundw
        case rel =>
          refine ⟨j + 1, by omega, by go_num, below_on _ _ HBE.out HB5.out, ?_⟩
          rw [HTK.out, List.any_append, HNO.out]; simp [HPP.out]
        case measure => simp [intOf]; omega
      · rw [hp] at HC
        have HPP := hid hp
        clear hp
        go_wp2_with (go_at_call 124; refine HC.out.mono ?_; rintro e w5 ⟨rfl, hb5⟩; have HB5 := hid hb5; clear hb5)
        go_ret
        refine ⟨⟨_, rfl, ?_⟩, below_on _ _ HBE.out HB5.out⟩
        rw [← HR.out]
        have : fl.any P = true := List.any_eq_true.2 ⟨_, HMEM.out, HPP.out⟩
        rw [this]; simp
    · have hlt' : ¬ (j : Int) < (fl.length : Int) := by omega
      have hjn : j = fl.length := by omega
      have HBE := hid hbe
      have HNO := hid hno
      have HJN := hid hjn
      clear hbe hno hjn
      go_wp2
      go_ret
      refine ⟨⟨_, rfl, ?_⟩, HBE.out⟩
      have h3 := HNO.out
      rw [HJN.out, List.take_length] at h3
      rw [← HR.out, h3]; rfl
theorem containsRowL (f : FsV) {T : Nat → Prop} (w : World) (hf : f.ok w T) (hn : f.l.length ≤ 1000) (P : RowV → Bool) (hP : ∀ r ∈ f.l, ∀ W, r.ok W T → Calls Tryz.prog 124 #[r.v] W fun e w' => e = .returned (.bool (P r)) ∧ Below W.heap.size W w') :
    Calls Tryz.prog 123 #[f.v, .func (.func 124) #[] #[]] w fun e w' => e = .returned (.bool (f.l.any P)) ∧ Below w.heap.size w w' := by
  have HI := hid (indexRowL f w hf hn P hP)
  obtain ⟨fpo, fc, fl⟩ := f
  show Calls Tryz.prog _ #[.slice fpo fl.length fc, _] w _
  have HI2 : Hid (Calls Tryz.prog 145 #[.slice fpo fl.length fc, .func (.func 124) #[] #[]] w (IdxAt w (fl.any P))) := HI.out
  generalize hbb : fl.any P = bb at *
  clear hf hP HI hbb
  go_enter Tryz.func123, Tryz.ntmps123
  go_wp2_with (go_at_call 145; refine HI2.out.mono ?_; rintro e w5 ⟨⟨q, rfl, hq⟩, hb5⟩; have HQ := hid hq; have HB5 := hid hb5; clear hb5 hq)
  go_ret
  exact ⟨by rw [← HQ.out]; simp, HB5.out⟩
set_option maxHeartbeats 1000000 in
set_option maxRecDepth 100000 in
theorem indexRowM (f : FsV) {T : Nat → Prop} (w : World) (hf : f.ok w T) (hn : f.l.length ≤ 1000) (P : RowV → Bool) (hP : ∀ r ∈ f.l, ∀ W, r.ok W T → Calls Tryz.prog 125 #[r.v] W fun e w' => e = .returned (.bool (P r)) ∧ Below W.heap.size W w') :
    Calls Tryz.prog 145 #[f.v, .func (.func 125) #[] #[]] w (IdxAt w (f.l.any P)) := by
  obtain ⟨fpo, fc, fl⟩ := f
  have HF := hid hf
  have HP := hid hP
  have hn' : fl.length ≤ 1000 := hn
  clear hf hP
  show Calls Tryz.prog _ #[.slice fpo fl.length fc, _] w (IdxAt w (fl.any P))
  obtain ⟨R, hR⟩ : ∃ R, fl.any P = R := ⟨_, rfl⟩
  rw [hR]
  have HR := hid hR
  clear hR
  go_enter Tryz.func145, Tryz.ntmps145
  go_wp2
  go_loopw [8] (fun x wr => ∃ j : Nat, j ≤ fl.length ∧ x = .int .i64 (j : Int) ∧ Below w.heap.size w wr ∧ (fl.take j).any P = false) (fun x _ => (2000 - intOf x).toNat)
  case atStart => exact ⟨0, by omega, rfl, Below.refl _ _, by simp⟩
  case round =>
    obtain ⟨j, hj, rfl, hbe, hno⟩ := hrel
    by_cases hlt : j < fl.length
    · have hf2 : (FsV.mk fpo fc fl).ok wr T := HF.out.keep (fun b hb _ => hbe.block b hb) (fun _ _ h => h)
      obtain ⟨fb, fo, hfp, hfc, hrow⟩ := row_at hf2 (i := j) hlt
      have hfp' : fpo = some ⟨fb, fo, none⟩ := hfp
      subst hfp'
      have hmem : fl.getD j default ∈ fl := by rw [getD_in _ _ _ hlt]; exact List.getElem_mem hlt
      have htk : fl.take (j + 1) = fl.take j ++ [fl.getD j default] := by rw [List.take_succ_eq_append_getElem hlt, getD_in _ _ _ hlt]
      have HC := hid (HP.out _ hmem wr hrow)
      have hfc0 : wr.cell? ⟨fb, fo + j, none⟩ = some (fl.getD j default).v := hfc
      clear hfc hrow hf2
      generalize fl.getD j default = row at *
      obtain ⟨rpo, rc, rl⟩ := row
      have hfc' : wr.cell? ⟨fb, fo + j, none⟩ = some (.slice rpo rl.length rc) := hfc0
      have hlt' : (j : Int) < (fl.length : Int) := by omega
      have HBE := hid hbe
      have HNO := hid hno
      have HTK := hid htk
      have HMEM := hid hmem
      clear hfc0 htk hbe hno hfp hmem
      cases hp : P ⟨rpo, rc, rl⟩
      · rw [hp] at HC
        have HPP := hid hp
        clear hp
        go_wp2_with (go_at_call 125; refine HC.out.mono ?_; rintro e w5 ⟨rfl, hb5⟩; have HB5 := hid hb5; clear hb5)
        go_roundw
        case rel =>
          refine ⟨j + 1, by omega, by go_num, below_on _ _ HBE.out HB5.out, ?_⟩
          rw [HTK.out, List.any_append, HNO.out]; simp [HPP.out]
        case measure => simp [intOf]; omega
      · rw [hp] at HC
        have HPP := hid hp
        clear hp
        go_wp2_with (go_at_call 125; refine HC.out.mono ?_; rintro e w5 ⟨rfl, hb5⟩; have HB5 := hid hb5; clear hb5)
        go_ret
        refine ⟨⟨_, rfl, ?_⟩, below_on _ _ HBE.out HB5.out⟩
        rw [← HR.out]
        have : fl.any P = true := List.any_eq_true.2 ⟨_, HMEM.out, HPP.out⟩
        rw [this]; simp
    · have hlt' : ¬ (j : Int) < (fl.length : Int) := by omega
      have hjn : j = fl.length := by omega
      have HBE := hid hbe
      have HNO := hid hno
      have HJN := hid hjn
      clear hbe hno hjn
      go_wp2
      go_ret
      refine ⟨⟨_, rfl, ?_⟩, HBE.out⟩
      have h3 := HNO.out
      rw [HJN.out, List.take_length] at h3
      rw [← HR.out, h3]; rfl
theorem containsRowM (f : FsV) {T : Nat → Prop} (w : World) (hf : f.ok w T) (hn : f.l.length ≤ 1000) (P : RowV → Bool) (hP : ∀ r ∈ f.l, ∀ W, r.ok W T → Calls Tryz.prog 125 #[r.v] W fun e w' => e = .returned (.bool (P r)) ∧ Below W.heap.size W w') :
    Calls Tryz.prog 123 #[f.v, .func (.func 125) #[] #[]] w fun e w' => e = .returned (.bool (f.l.any P)) ∧ Below w.heap.size w w' := by
  have HI := hid (indexRowM f w hf hn P hP)
  obtain ⟨fpo, fc, fl⟩ := f
  show Calls Tryz.prog _ #[.slice fpo fl.length fc, _] w _
  have HI2 : Hid (Calls Tryz.prog 145 #[.slice fpo fl.length fc, .func (.func 125) #[] #[]] w (IdxAt w (fl.any P))) := HI.out
  generalize hbb : fl.any P = bb at *
  clear hf hP HI hbb
  go_enter Tryz.func123, Tryz.ntmps123
  go_wp2_with (go_at_call 145; refine HI2.out.mono ?_; rintro e w5 ⟨⟨q, rfl, hq⟩, hb5⟩; have HQ := hid hq; have HB5 := hid hb5; clear hb5 hq)
  go_ret
  exact ⟨by rw [← HQ.out]; simp, HB5.out⟩

theorem comE_any (k : Nat) (rows : List RowV) (need : Int) : comE k (rows.map RowV.fl) need = if ckD k ≠ 0 then ckD k else if rows.length ≠ k ∨ need < 1 ∨ (k : Int) < need then 2 else if rows.any (fun r => decide (8 < r.l.length)) then 3 else if rows.any (fun r => !okFl [] r.fl) then 13 else 0 := by
  unfold comE
  have e1 : (rows.map RowV.fl).any (fun l => decide (8 < l.length)) = rows.any (fun r => decide (8 < r.l.length)) := by
    rw [List.any_map]; congr 1; funext r; simp [RowV.fl]
  have e2 : (rows.map RowV.fl).all (fun l => okFl [] l) = !rows.any (fun r => !okFl [] r.fl) := by
    rw [List.all_map, List.not_any_eq_all_not]; congr 1; funext r; simp
  rw [e1, e2, List.length_map]
  split
  · rfl
  · split
    · rfl
    · split
      · rfl
      · cases rows.any (fun r => !okFl [] r.fl) <;> rfl
section
variable {w w1 : World} {T : Nat → Prop} {k : Nat} {p : Nat → Nat} {d : Nat → Pd} {f : Fs} {c : Nat}
set_option maxHeartbeats 1000000 in
theorem checkCommit_any (h : FA w w1 T k p d f c) {lv : Value} (hl : LsAt w1 T lv k p) (hk : k ≤ 1000) (fv : FsV) (hf : fv.ok w1 T) (hfl : fv.l.length ≤ 1000) (h8 : ∀ r ∈ fv.l, r.l.length ≤ 1000) (need : Int) :
    Calls Tryz.prog 70 #[lv, fv.v, .int .i64 need] w1 fun e w' => e = .returned (.int .i64 (comE k (fv.l.map RowV.fl) need : Int)) ∧ Below w1.heap.size w1 w' := by
  have HCD := hid (checkDrives_fa h hl hk)
  have HLG := hid (containsRowL fv w1 hf hfl (fun r => decide (8 < r.l.length)) (fun r _ W _ => commitC1_any r.po r.l.length r.c W))
  have HMN := hid (fun W (hb : Below w1.heap.size w1 W) => containsRowM fv W (hf.keep (w' := W) (T' := T) (fun b hb' _ => hb.block b hb') (fun _ _ h => h)) hfl (fun r => !okFl [] r.fl) (fun r hr W' hrW => misnamed_any r W' hrW (h8 r hr)))
  obtain ⟨lpo, lc, rfl⟩ := hl.form
  rw [comE_any]
  obtain ⟨fpo, fc, fl⟩ := fv
  show Calls Tryz.prog _ #[_, .slice fpo fl.length fc, _] w1 _
  clear h hl hf h8
  have HLG2 : Hid (Calls Tryz.prog 123 #[.slice fpo fl.length fc, .func (.func 124) #[] #[]] w1 fun e w' => e = .returned (.bool (fl.any fun r => decide (8 < r.l.length))) ∧ Below w1.heap.size w1 w') := HLG.out
  have HMN2 : Hid (∀ W, Below w1.heap.size w1 W → Calls Tryz.prog 123 #[.slice fpo fl.length fc, .func (.func 125) #[] #[]] W fun e w' => e = .returned (.bool (fl.any fun r => !okFl [] r.fl)) ∧ Below W.heap.size W w') := HMN.out
  clear HLG HMN
  show Calls Tryz.prog _ _ _ fun e w' => e = .returned (.int .i64 ((if ckD k ≠ 0 then ckD k else if fl.length ≠ k ∨ need < 1 ∨ (k : Int) < need then 2 else if fl.any (fun r => decide (8 < r.l.length)) then 3 else if fl.any (fun r => !okFl [] r.fl) then 13 else 0 : Nat) : Int)) ∧ _
  generalize fl.any (fun r => decide (8 < r.l.length)) = b8 at *
  generalize fl.any (fun r => !okFl [] r.fl) = bm at *
  have hfl' : fl.length ≤ 1000 := hfl
  by_cases hcd : ckD k = 0
  · rw [if_neg (by omega)]
    rw [hcd] at HCD
    by_cases ha : fl.length = k
    · by_cases hb : need < 1
      · rw [if_pos (.inr (.inl hb))]
        have ha' : ((fl.length : Int) == (k : Int)) = true := by simp; omega
        clear HLG2 HMN2
        subst ha
        go_enter Tryz.func70, Tryz.ntmps70
        go_wp2_with (go_at_call 65; refine HCD.out.mono ?_; rintro e w' ⟨rfl, hw'⟩; have hw2 := hw'.symm; subst hw2)
        go_ret
        exact ⟨rfl, Below.refl _ _⟩
      · by_cases hc : (k : Int) < need
        · rw [if_pos (.inr (.inr hc))]
          clear HLG2 HMN2
          subst ha
          go_enter Tryz.func70, Tryz.ntmps70
          go_wp2_with (go_at_call 65; refine HCD.out.mono ?_; rintro e w' ⟨rfl, hw'⟩; have hw2 := hw'.symm; subst hw2)
          go_ret
          exact ⟨rfl, Below.refl _ _⟩
        · rw [if_neg (by omega)]
          subst ha
          cases b8
          · cases bm
            · go_enter Tryz.func70, Tryz.ntmps70
              go_wp2_with (first
                | (go_at_call 65; refine HCD.out.mono ?_; rintro e w' ⟨rfl, hw'⟩; have hw2 := hw'.symm; subst hw2)
                | (go_at_call 123; first | (refine HLG2.out.mono ?_; rintro e w5 ⟨rfl, hb5⟩; have HB5 := hid hb5; clear hb5 HLG2) | (refine (HMN2.out _ HB5.out).mono ?_; rintro e w6 ⟨rfl, hb6⟩; have HB6 := hid hb6; clear hb6)))
              go_ret
              exact ⟨by simp, below_on _ _ HB5.out HB6.out⟩
            · go_enter Tryz.func70, Tryz.ntmps70
              go_wp2_with (first
                | (go_at_call 65; refine HCD.out.mono ?_; rintro e w' ⟨rfl, hw'⟩; have hw2 := hw'.symm; subst hw2)
                | (go_at_call 123; first | (refine HLG2.out.mono ?_; rintro e w5 ⟨rfl, hb5⟩; have HB5 := hid hb5; clear hb5 HLG2) | (refine (HMN2.out _ HB5.out).mono ?_; rintro e w6 ⟨rfl, hb6⟩; have HB6 := hid hb6; clear hb6)))
              go_ret
              exact ⟨by simp, below_on _ _ HB5.out HB6.out⟩
          · clear HMN2
            go_enter Tryz.func70, Tryz.ntmps70
            go_wp2_with (first
              | (go_at_call 65; refine HCD.out.mono ?_; rintro e w' ⟨rfl, hw'⟩; have hw2 := hw'.symm; subst hw2)
              | (go_at_call 123; refine HLG2.out.mono ?_; rintro e w5 ⟨rfl, hb5⟩; have HB5 := hid hb5; clear hb5 HLG2))
            go_ret
            exact ⟨by simp, HB5.out⟩
    · rw [if_pos (.inl ha)]
      have ha' : ((fl.length : Int) != (k : Int)) = true := by simp; omega
      have ha2 : ¬ (fl.length : Int) = (k : Int) := by omega
      clear HLG2 HMN2
      go_enter Tryz.func70, Tryz.ntmps70
      go_wp2_with (go_at_call 65; refine HCD.out.mono ?_; rintro e w' ⟨rfl, hw'⟩; have hw2 := hw'.symm; subst hw2)
      go_ret
      exact ⟨rfl, Below.refl _ _⟩
  · rw [if_pos hcd]
    have hcd2 : (((ckD k : Nat) : Int) != 0) = true := by simp; omega
    clear HLG2 HMN2
    generalize ckD k = q at *
    go_enter Tryz.func70, Tryz.ntmps70
    go_wp2_with (go_at_call 65; refine HCD.out.mono ?_; rintro e w' ⟨rfl, hw'⟩; have hw2 := hw'.symm; subst hw2)
    go_ret
    exact ⟨rfl, Below.refl _ _⟩
end
end Go.Proofs.YtklchjfkkbpipaaGreatDoor

/- Files that are named for each drive are deleted. -/
namespace Go.Proofs.YtklchjfkkbpipaaGreatDoor
open Go Go.RowKit Go.Shelf

theorem TxtL.blk {B : Nat} {w : World} {v : Value} {ns : List Nm} (h : TxtL B w v ns) {b : Nat} (hb : v.ownBlock = some b) : ∃ cur, w.heap[b]? = some (.cells cur 9) := by
  rcases h.2 with ⟨e, _⟩ | ⟨g, cap, cur, e, _, hg, _⟩
  · rw [e] at hb; simp [Value.ownBlock] at hb
  · rw [e] at hb; simp [Value.ownBlock] at hb; subst hb; exact ⟨cur, hg⟩
theorem TxtL.kpl {B : Nat} {w w' : World} {v : Value} {ns : List Nm} (h : TxtL B w v ns) {C : Nat} (hk : KpL C w w') (hC : C = 0) : TxtL B w' v ns :=
  h.keep fun b hb => by obtain ⟨cur, hc⟩ := h.blk hb; exact (hk.same b _ (by omega) hc rfl).trans hc.symm
/-- Names that are told for a drive. -/
def NmAt (W : World) (q : Nat × List Nm) (e : Ending) (W' : World) : Prop :=
  ∃ po c, e = .returned (.tuple #[.slice po q.2.length c, brk q.1]) ∧ TxtL 0 W' (.slice po q.2.length c) q.2 ∧ Below W.heap.size W W'
/-- Drives as they are, and all that lay in w1 outside T. -/
structure Ctx (w w1 : World) (T : Nat → Prop) (k : Nat) (p : Nat → Nat) (d : Nat → Pd) (f : Fs) (W : World) : Prop where
  fa : ∃ T', FA w W T' k p d f 0
  kp : ∀ b, b < w1.heap.size → ¬ T b → W.heap[b]? = w1.heap[b]?
  sz : w1.heap.size ≤ W.heap.size
/-- What deleteEach leaves. -/
def DEat (w w1 : World) (T : Nat → Prop) (k : Nat) (p : Nat → Nat) (R : Bool × Nat × FS) (e : Ending) (w' : World) : Prop :=
  e = .returned (.tuple #[.int .i64 ((if R.1 then 0 else R.2.1 : Nat) : Int), brk (if R.1 then 11 else 0)]) ∧ (∃ T', Grows w1 T T' ∧ FA w w' T' k p R.2.2.d R.2.2.f 0) ∧ Only T w1 w'
theorem delD_err {nm : Nat → Pd → Fs → Nat × List Nm} {k i n : Nat} {X : FS} (hi : i < k) {q : Nat × List Nm} (hq : nm i (X.d i) X.f = q) (h : q.1 = 11) : delD nm (k - i) i n X = (true, n, X) := by
  rw [show k - i = (k - (i + 1)) + 1 by omega, delD, hq, if_pos h]
theorem delD_brk {nm : Nat → Pd → Fs → Nat × List Nm} {k i n : Nat} {X : FS} (hi : i < k) {q : Nat × List Nm} (hq : nm i (X.d i) X.f = q) (h : q.1 ≠ 11) {z : Bool × Nat × Pd × Fs} (hz : delL q.2 (X.d i) X.f n = z) (h1 : z.1 = true) : delD nm (k - i) i n X = (true, z.2.1, ⟨upd X.d i z.2.2.1, z.2.2.2⟩) := by
  rw [show k - i = (k - (i + 1)) + 1 by omega, delD, hq, if_neg h, hz, if_pos h1]
theorem delD_ok {nm : Nat → Pd → Fs → Nat × List Nm} {k i n : Nat} {X : FS} (hi : i < k) {q : Nat × List Nm} (hq : nm i (X.d i) X.f = q) (h : q.1 ≠ 11) {z : Bool × Nat × Pd × Fs} (hz : delL q.2 (X.d i) X.f n = z) (h1 : z.1 = false) : delD nm (k - i) i n X = delD nm (k - (i + 1)) (i + 1) z.2.1 ⟨upd X.d i z.2.2.1, z.2.2.2⟩ := by
  rw [show k - i = (k - (i + 1)) + 1 by omega, delD, hq, if_neg h, hz, if_neg (by rw [h1]; simp)]
end Go.Proofs.YtklchjfkkbpipaaGreatDoor
