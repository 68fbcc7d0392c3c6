/- Texts laid into one, cut to what is needed: the remark ahead of each part says what is proved there. -/
import Derived.Test.YtfogkegmdgbecaaGreatDoorPap
import Derived.Test.YtfogkegmdgbecaaGreatDoorPao
import Derived.Test.YtfogkegmdgbecaaGreatDoorPaj
/- What stands against a Commit. -/
namespace Go.Proofs.YtfogkegmdgbecaaGreatDoor
open Go Go.RowKit

def okSt (s : Nm) : Bool := okNm s && (!([116, 109, 112, 47] : Nm).isPrefixOf s && okNm (tmpN s))
theorem mayStage_any (s : Nm) (hs : s.length ≤ maxLen) (w : World) : Calls Tryz.prog 131 #[sv s] w fun e w' => e = .returned (.bool (okSt s)) ∧ w' = w := by
 have HN := hid (fun W => name_any s W hs)
 have HP := hid (fun W => Tryz.strings_HasPrefix ⟨s.toArray⟩ ⟨#[116, 109, 112, 47]⟩ W)
 have HPe : Hid (Lib.hasPrefix s ([116, 109, 112, 47] : Nm) = ([116, 109, 112, 47] : Nm).isPrefixOf s) := rfl
 cases h1 : okNm s
 ·have e : okSt s = false := by unfold okSt; rw [h1]; rfl
  rw [e]
  rw [h1] at HN
  go_enter Tryz.func131, Tryz.ntmps131
  go_wp2_with (go_at_call 72; refine (HN.out _).mono ?_; rintro e w' ⟨rfl, hw'⟩; have hw2 := hw'.symm; subst hw2)
  go_ret
  exact ⟨rfl, by first | rfl | trivial⟩
 ·have hl : s.length ≤ 512 := ok_len h1
  have HS := hid (fun W => staged_any s W (by omega))
  have HN2 := hid (fun W => name_any (tmpN s) W (by simp [tmpN, maxLen]; omega))
  have e : okSt s = (!([116, 109, 112, 47] : Nm).isPrefixOf s && okNm (tmpN s)) := by unfold okSt; rw [h1]; rfl
  rw [e]
  rw [h1] at HN
  have HP2 : Hid (∀ W, Calls Tryz.prog 105 #[sv s, .string ⟨#[116, 109, 112, 47]⟩] W fun e w' => e = .returned (.bool (([116, 109, 112, 47] : Nm).isPrefixOf s)) ∧ w' = W) := HP.out
  clear HP HPe e
  generalize ([116, 109, 112, 47] : Nm).isPrefixOf s = b at *
  generalize hob : okNm (tmpN s) = o at *
  cases b
  ·go_enter Tryz.func131, Tryz.ntmps131
   go_wp2_with (first
    | (go_at_call 72; first | (refine (HN.out _).mono ?_; rintro e w' ⟨rfl, hw'⟩; have hw2 := hw'.symm; subst hw2; clear HN) | (refine (HN2.out _).mono ?_; rintro e w' ⟨rfl, hw'⟩; have hw2 := hw'.symm; subst hw2))
    | (go_at_call 105; refine (HP2.out _).mono ?_; rintro e w' ⟨rfl, hw'⟩; have hw2 := hw'.symm; subst hw2)
    | (go_at_call 114; refine (HS.out _).mono ?_; rintro e w' ⟨rfl, hw'⟩; have hw2 := hw'.symm; subst hw2))
   go_ret
   exact ⟨rfl, by first | rfl | trivial⟩
  ·go_enter Tryz.func131, Tryz.ntmps131
   go_wp2_with (first
    | (go_at_call 72; refine (HN.out _).mono ?_; rintro e w' ⟨rfl, hw'⟩; have hw2 := hw'.symm; subst hw2; clear HN)
    | (go_at_call 105; refine (HP2.out _).mono ?_; rintro e w' ⟨rfl, hw'⟩; have hw2 := hw'.symm; subst hw2))
   go_ret
   exact ⟨by simp, by first | rfl | trivial⟩
theorem misnamed1_any (nm s : Nm) (v : Value) (b : Nat) (w : World) (hb : CAt w b #[sv s, v] 47) (po : Option Addr) (n c : Nat) : Calls Tryz.prog 130 #[.agg #[sv nm, .slice po n c], ptr b] w fun e w' => e = .returned (.bool (decide (nm = s))) ∧ Below w.heap.size w w' := by
 have hlt := hb.lt
 have c0 : (w.alloc (.cells #[sv nm, .slice po n c] 47)).cell? ⟨b, 0, none⟩ = some (sv s) := (hb.old _).cell 0
 have hbe : Below w.heap.size w (w.alloc (.cells #[sv nm, .slice po n c] 47)) := (Below.refl _ _).alloc (Nat.le_refl _) _
 clear hb
 by_cases h : nm = s
 ·subst h
  go_enter Tryz.func130, Tryz.ntmps130
  go_wp2
  go_ret
  exact ⟨by simp, hbe⟩
 ·have hne : (nm == s) = false := by simpa using h
  go_enter Tryz.func130, Tryz.ntmps130
  go_wp2
  go_ret
  exact ⟨by simp [h], hbe⟩
def names (r : RowV) : List Nm := r.l.map FlV.nm
def IdxAt (w : World) (b : Bool) (e : Ending) (w' : World) : Prop := (∃ q : Int, e = .returned (.int .i64 q) ∧ decide (0 ≤ q) = b) ∧ Below w.heap.size w w'
set_option maxHeartbeats 1000000 in
set_option maxRecDepth 100000 in
theorem indexFile_any (r : RowV) {T : Nat → Prop} (w : World) (hr : r.ok w T) (n : Nat) (hn : n ≤ r.l.length) (h8 : r.l.length ≤ 1000) (c : Nat) (s : Nm) (v : Value) (b : Nat) (hb : CAt w b #[sv s, v] 47) :
  Calls Tryz.prog 156 #[.slice r.po n c, .func (.func 130) #[] #[ptr b]] w (IdxAt w (((names r).take n).contains s)) := by
 have HB := hid hb
 obtain ⟨rpo, rc, rl⟩ := r
 have HR := hid hr
 clear hr hb
 go_enter Tryz.func156, Tryz.ntmps156
 go_wp2
 go_loopw [8] (fun x wr => ∃ j : Nat, j ≤ n ∧ x = .int .i64 (j : Int) ∧ Below w.heap.size w wr ∧ ((names ⟨rpo, rc, rl⟩).take j).contains s = false) (fun x _ => (2000 - intOf x).toNat)
 case atStart => exact ⟨0, by omega, rfl, Below.refl _ _, by simp⟩
 case round =>
  obtain ⟨j, hj, rfl, hbe, hno⟩ := hrel
  by_cases hlt : j < n
  ·obtain ⟨fb, fo, hrp, cf0, cf1, hfo⟩ := file_at' (HR.out.keep (w' := wr) (T' := T) (fun b hb _ => hbe.block b hb) (fun _ _ h => h)) (j := j) (by show j < rl.length; have : n ≤ rl.length := hn; omega)
   have hrp' : rpo = some ⟨fb, fo, none⟩ := hrp
   subst hrp'
   have hjl : j < rl.length := by have : n ≤ rl.length := hn; omega
   have htk : (names ⟨some ⟨fb, fo, none⟩, rc, rl⟩).take (j + 1) = (names ⟨some ⟨fb, fo, none⟩, rc, rl⟩).take j ++ [(rl.getD j default).nm] := by
    have h1 : j < (names ⟨some ⟨fb, fo, none⟩, rc, rl⟩).length := by unfold names; simpa using hjl
    rw [List.take_succ_eq_append_getElem h1, getD_in _ _ _ hjl]; simp [names]
   generalize rl.getD j default = x at *
   obtain ⟨nm, pb, cb, bs⟩ := x
   have cf0' : wr.cell? ⟨fb, fo + j * 2, none⟩ = some (sv nm) := cf0
   have cf1' : wr.cell? ⟨fb, fo + j * 2 + 1, none⟩ = some (.slice pb bs.length cb) := cf1
   have HM := hid (misnamed1_any nm s v b wr (HB.out.below hbe) pb bs.length cb)
   have htk' : (names ⟨some ⟨fb, fo, none⟩, rc, rl⟩).take (j + 1) = (names ⟨some ⟨fb, fo, none⟩, rc, rl⟩).take j ++ [nm] := htk
   have hlt' : (j : Int) < (n : Int) := by omega
   have HBE := hid hbe
   have HNO := hid hno
   have HTK := hid htk'
   clear cf0 cf1 hfo htk htk' hbe hno hrp
   by_cases he : nm = s
   ·have hde : decide (nm = s) = true := by simpa using he
    rw [hde] at HM
    have HE := hid he
    clear he hde
    go_wp2_with (go_at_call 130; refine HM.out.mono ?_; rintro e w5 ⟨rfl, hb5⟩; have HB5 := hid hb5; clear hb5)
    go_ret
    refine ⟨⟨_, rfl, ?_⟩, below_on _ _ HBE.out HB5.out⟩
    have hin : s ∈ (names ⟨some ⟨fb, fo, none⟩, rc, rl⟩).take n := by
     have : (names ⟨some ⟨fb, fo, none⟩, rc, rl⟩).take (j + 1) = ((names ⟨some ⟨fb, fo, none⟩, rc, rl⟩).take n).take (j + 1) := by rw [List.take_take, Nat.min_eq_left (by omega)]
     have h2 : s ∈ (names ⟨some ⟨fb, fo, none⟩, rc, rl⟩).take (j + 1) := by rw [HTK.out, HE.out]; simp
     rw [this] at h2
     exact List.mem_of_mem_take h2
    simp [hin]
   ·have hde : decide (nm = s) = false := by simpa using he
    rw [hde] at HM
    have HE := hid he
    clear he hde
    go_wp2_with (go_at_call 130; refine HM.out.mono ?_; rintro e w5 ⟨rfl, hb5⟩; have HB5 := hid hb5; clear hb5)
    go_roundw
    case rel =>
     refine ⟨j + 1, by omega, by go_num, below_on _ _ HBE.out HB5.out, ?_⟩
     have := HNO.out
     rw [HTK.out]
     simp at this ⊢
     exact ⟨this, fun h => HE.out h.symm⟩
    case measure => simp [intOf]; omega
  ·have hlt' : ¬ (j : Int) < (n : Int) := by omega
   have hjn : j = n := by omega
   have HBE := hid hbe
   have HNO := hid hno
   clear hbe hno
   go_wp2
   go_ret
   exact ⟨⟨_, rfl, by have h3 := HNO.out; rw [← hjn]; simp at h3 ⊢; exact h3⟩, HBE.out⟩
theorem containsFile_any (r : RowV) {T : Nat → Prop} (w : World) (hr : r.ok w T) (n : Nat) (hn : n ≤ r.l.length) (h8 : r.l.length ≤ 1000) (c : Nat) (s : Nm) (v : Value) (b : Nat) (hb : CAt w b #[sv s, v] 47) :
  Calls Tryz.prog 132 #[.slice r.po n c, .func (.func 130) #[] #[ptr b]] w fun e w' => e = .returned (.bool (((names r).take n).contains s)) ∧ Below w.heap.size w w' := by
 have HI := hid (indexFile_any r w hr n hn h8 c s v b hb)
 generalize ((names r).take n).contains s = bb at *
 clear hr hb
 go_enter Tryz.func132, Tryz.ntmps132
 go_wp2_with (go_at_call 156; refine HI.out.mono ?_; rintro e w5 ⟨⟨q, rfl, hq⟩, hb5⟩; have HQ := hid hq; have HB5 := hid hb5; clear hb5 hq)
 go_ret
 exact ⟨by rw [← HQ.out]; simp, HB5.out⟩
theorem underF : Tryz.prog.underlying 45 = some (.slice (Tryz.prog.elem 45)) := by kernel_rfl
theorem sizeF (w : World) : (sizeOf (Tryz.prog.elem 45)).run Tryz.prog w = .ok 2 w := by
 rw [show Tryz.prog.elem 45 = 47 by kernel_rfl]
 exact Tryz.sizeOf47 w
set_option maxRecDepth 100000 in
theorem run_hiF (p : Option Addr) (n c k : Nat) (hk : k ≤ c) (hc : 0 < c) (w : World) : (Instr.slice 45 (.slice p n c) none (some (.int .i64 (k : Int))) none).run Tryz.prog w = .ok (.slice p k c) w := by
 rw [run_slice_h (P := Tryz.prog) w 45 p n c underF .i64 (k : Int) (by omega) (by omega), sizeF]
 cases p with
 | none => simp [Result.andThen, sliced, Nat.pos_iff_ne_zero.1 hc]
 | some a => obtain ⟨b, o, s⟩ := a; simp [Result.andThen, sliced, Addr.add]; try (cases s <;> simp)
theorem okFl_cons (seen : List Nm) (x : Fl) (r : List Fl) : okFl seen (x :: r) = (okSt x.1 && (!seen.contains x.1 && okFl (seen ++ [x.1]) r)) := rfl
set_option maxRecDepth 100000 in
theorem misnamed_any (r : RowV) {T : Nat → Prop} (w : World) (hr : r.ok w T) (h8 : r.l.length ≤ 1000) :
  Calls Tryz.prog 110 #[r.v] w fun e w' => e = .returned (.bool (!okFl [] r.fl)) ∧ Below w.heap.size w w' := by
 obtain ⟨rpo, rc, rl⟩ := r
 have HR := hid hr
 have hmf := run_mf Tryz.prog
 have h8' : rl.length ≤ 1000 := h8
 clear hr
 show Calls Tryz.prog 110 #[.slice rpo rl.length rc] w _
 go_enter Tryz.func110, Tryz.ntmps110
 go_wp2
 go_loopw [8] (fun x wr => ∃ j : Nat, j ≤ rl.length ∧ x = .int .i64 (j : Int) ∧ Below w.heap.size w wr ∧ okFl [] (RowV.mk rpo rc rl).fl = okFl ((names ⟨rpo, rc, rl⟩).take j) ((RowV.mk rpo rc rl).fl.drop j)) (fun x _ => (2000 - intOf x).toNat)
 case atStart => exact ⟨0, by omega, rfl, Below.refl _ _, by simp⟩
 case round =>
  obtain ⟨j, hj, rfl, hbe, hok⟩ := hrel
  by_cases hlt : j < rl.length
  ·have hrow2 : (RowV.mk rpo rc rl).ok wr T := HR.out.keep (fun b hb _ => hbe.block b hb) (fun _ _ h => h)
   obtain ⟨fb, fo, hrp, cf0, cf1, hfo⟩ := file_at' hrow2 (j := j) hlt
   have hrp' : rpo = some ⟨fb, fo, none⟩ := hrp
   subst hrp'
   have htk : (names ⟨some ⟨fb, fo, none⟩, rc, rl⟩).take (j + 1) = (names ⟨some ⟨fb, fo, none⟩, rc, rl⟩).take j ++ [(rl.getD j default).nm] := by
    have h1 : j < (names ⟨some ⟨fb, fo, none⟩, rc, rl⟩).length := by unfold names; simpa using hlt
    rw [List.take_succ_eq_append_getElem h1, getD_in _ _ _ hlt]; simp [names]
   have hdr := fl_drop (r := RowV.mk (some ⟨fb, fo, none⟩) rc rl) (j := j) hlt
   rw [hdr, okFl_cons] at hok
   have htk0 : (names ⟨some ⟨fb, fo, none⟩, rc, rl⟩).take j ++ [((RowV.mk (some ⟨fb, fo, none⟩) rc rl).l.getD j default).fl.1] = (names ⟨some ⟨fb, fo, none⟩, rc, rl⟩).take (j + 1) := htk.symm
   rw [htk0] at hok
   have hok' : okFl [] (RowV.mk (some ⟨fb, fo, none⟩) rc rl).fl = (okSt (rl.getD j default).nm && (!((names ⟨some ⟨fb, fo, none⟩, rc, rl⟩).take j).contains (rl.getD j default).nm && okFl ((names ⟨some ⟨fb, fo, none⟩, rc, rl⟩).take (j + 1)) ((RowV.mk (some ⟨fb, fo, none⟩) rc rl).fl.drop (j + 1)))) := hok
   clear hok htk htk0 hdr
   generalize rl.getD j default = x at *
   obtain ⟨nm, pb, cb, bs⟩ := x
   have cf0' : wr.cell? ⟨fb, fo + j * 2, none⟩ = some (sv nm) := cf0
   have cf1' : wr.cell? ⟨fb, fo + j * 2 + 1, none⟩ = some (.slice pb bs.length cb) := cf1
   have hbA : Below wr.heap.size wr (wr.alloc (.cells #[sv nm, .slice pb bs.length cb] 47)) := (Below.refl _ _).alloc (Nat.le_refl _) _
   have HMS := hid (fun W => mayStage_any nm hfo.nl W)
   have HCF := hid (containsFile_any (RowV.mk (some ⟨fb, fo, none⟩) rc rl) _ (hrow2.keep (w' := wr.alloc (.cells #[sv nm, .slice pb bs.length cb] 47)) (T' := T) (fun b hb _ => hbA.block b hb) (fun _ _ h => h)) j (Nat.le_of_lt hlt) h8 rc nm _ wr.heap.size (CAt.made wr #[sv nm, .slice pb bs.length cb] 47))
   have hsl : ∀ W, (Instr.slice 45 (.slice (some ⟨fb, fo, none⟩) rl.length rc) none (some (.int .i64 (j : Int))) none).run Tryz.prog W = .ok (.slice (some ⟨fb, fo, none⟩) j rc) W := fun W => run_hiF _ rl.length rc j (by have := HR.out.cp; have : rl.length ≤ rc := this; omega) (by have := HR.out.cp; have : rl.length ≤ rc := this; omega) W
   have hlt' : (j : Int) < (rl.length : Int) := by omega
   have HBE := hid hbe
   have HBA := hid hbA
   have hokb : okFl [] (RowV.mk (some ⟨fb, fo, none⟩) rc rl).fl = (okSt nm && (!((names ⟨some ⟨fb, fo, none⟩, rc, rl⟩).take j).contains nm && okFl ((names ⟨some ⟨fb, fo, none⟩, rc, rl⟩).take (j + 1)) ((RowV.mk (some ⟨fb, fo, none⟩) rc rl).fl.drop (j + 1)))) := hok'
   have HOK := hid hokb
   clear cf0 cf1 hfo hbe hbA hok' hrow2 hokb hrp
   generalize ((names ⟨some ⟨fb, fo, none⟩, rc, rl⟩).take j).contains nm = dup at *
   cases hs : okSt nm
   ·rw [hs] at HMS HOK
    go_wp2_with (go_at_call 131; refine (HMS.out _).mono ?_; rintro e w' ⟨rfl, hw'⟩; have hw2 := hw'.symm; subst hw2)
    go_ret
    exact ⟨by rw [HOK.out]; rfl, below_on _ _ HBE.out HBA.out⟩
   ·rw [hs] at HMS HOK
    cases dup
    ·go_wp2_with (first
       | (go_at_call 131; refine (HMS.out _).mono ?_; rintro e w' ⟨rfl, hw'⟩; have hw2 := hw'.symm; subst hw2)
       | (go_at_call 132; refine HCF.out.mono ?_; rintro e w5 ⟨rfl, hb5⟩; have HB5 := hid hb5; clear hb5))
     go_roundw
     case rel => exact ⟨j + 1, by omega, by go_num, below_on _ _ (below_on _ _ HBE.out HBA.out) HB5.out, by rw [HOK.out]; rfl⟩
     case measure => simp [intOf]; omega
    ·go_wp2_with (first
       | (go_at_call 131; refine (HMS.out _).mono ?_; rintro e w' ⟨rfl, hw'⟩; have hw2 := hw'.symm; subst hw2)
       | (go_at_call 132; refine HCF.out.mono ?_; rintro e w5 ⟨rfl, hb5⟩; have HB5 := hid hb5; clear hb5))
     go_ret
     exact ⟨by rw [HOK.out]; rfl, below_on _ _ (below_on _ _ HBE.out HBA.out) HB5.out⟩
  ·have hlt' : ¬ (j : Int) < (rl.length : Int) := by omega
   have hdn : (RowV.mk rpo rc rl).fl.drop j = [] := List.drop_eq_nil_of_le (by simp [RowV.fl]; omega)
   rw [hdn] at hok
   have HBE := hid hbe
   have HOK := hid hok
   clear hbe hok hdn
   go_wp2
   go_ret
   exact ⟨by rw [HOK.out]; rfl, HBE.out⟩
end Go.Proofs.YtfogkegmdgbecaaGreatDoor

/- The document's begins and files: may a drive's files be? -/
namespace Go.Proofs.YtfogkegmdgbecaaGreatDoor
open Go Go.RowKit Go.Shelf

theorem rbegins_any (s : Nm) (w : World) (hs : s.length ≤ 1000) : Calls Tryz.prog 142 #[sv s, .string ⟨#[116, 109, 112, 47]⟩] w fun e w' => e = .returned (.bool (([116, 109, 112, 47] : Nm).isPrefixOf s)) ∧ w' = w := by
 by_cases h4 : 4 ≤ s.length
 ·have h4' : (4 : Int) ≤ (s.length : Int) := by omega
  have hp : (((⟨s.toArray⟩ : ByteArray).extract 0 4).toList == [116, 109, 112, 47]) = ([116, 109, 112, 47] : Nm).isPrefixOf s := by
   have h := pre_take s [116, 109, 112, 47] h4
   rw [← h]
   congr 1
   rw [Lib.toList_data]
  have hz : (⟨s.toArray⟩ : ByteArray).size = s.length := by simp [ByteArray.size]
  have HP := hid hp
  have h5 : (4 : Int) ≤ ((⟨s.toArray⟩ : ByteArray).size : Int) := by rw [hz]; omega
  have h6 : (⟨s.toArray⟩ : ByteArray).size ≤ 1000 := by rw [hz]; exact hs
  clear hz hp
  unfold sv
  generalize (⟨s.toArray⟩ : ByteArray) = X at *
  go_enter Tryz.func142, Tryz.ntmps142
  go_wp2
  go_ret
  exact ⟨by rw [← HP.out]; rfl, rfl⟩
 ·have h4' : ¬ (4 : Int) ≤ (s.length : Int) := by omega
  have hz : (⟨s.toArray⟩ : ByteArray).size = s.length := by simp [ByteArray.size]
  have hp : ([116, 109, 112, 47] : Nm).isPrefixOf s = false := by
   cases hb : ([116, 109, 112, 47] : Nm).isPrefixOf s
   ·rfl
   ·have := (List.isPrefixOf_iff_prefix.1 hb).length_le
    simp at this; omega
  rw [hp]
  have h5 : ¬ (4 : Int) ≤ ((⟨s.toArray⟩ : ByteArray).size : Int) := by rw [hz]; omega
  unfold sv
  generalize (⟨s.toArray⟩ : ByteArray) = X at *
  clear hz hp
  go_enter Tryz.func142, Tryz.ntmps142
  go_wp2
  go_ret
  exact ⟨rfl, rfl⟩
/-- Are a drive's files such as may be? -/
def filE (l : List Fl) : Nat := if okFl [] l then 0 else 13
theorem contains_at (l : List Nm) (s : Nm) (n : Nat) (h : ∀ i, i < n → l.getD i [] ≠ s) (hn : n ≤ l.length) : (l.take n).contains s = false := by
 cases hb : (l.take n).contains s
 ·rfl
 ·obtain ⟨i, hi, e⟩ := List.mem_iff_getElem.1 (List.contains_iff_mem.1 hb)
  rw [List.length_take] at hi
  rw [List.getElem_take] at e
  exact absurd (by rw [getD_in _ _ _ (by omega)]; exact e) (h i (by omega))
theorem contains_hit (l : List Nm) (s : Nm) (n i : Nat) (hi : i < n) (hn : n ≤ l.length) (e : l.getD i [] = s) : (l.take n).contains s = true := by
 rw [List.contains_iff_mem]
 rw [getD_in _ _ _ (by omega)] at e
 rw [← e]
 exact List.mem_iff_getElem.2 ⟨i, by rw [List.length_take]; omega, by rw [List.getElem_take]⟩
set_option maxHeartbeats 2000000 in
set_option maxRecDepth 100000 in
theorem rfiles_any (r : RowV) {T : Nat → Prop} (w : World) (hr : r.ok w T) (h8 : r.l.length ≤ 1000) :
  Calls Tryz.prog 119 #[r.v] w fun e w' => e = .returned (.int .i64 (filE r.fl : Int)) ∧ ∃ dn, w' = w.drewN dn := by
 obtain ⟨rpo, rc, rl⟩ := r
 have HR := hid hr
 have h8' : rl.length ≤ 1000 := h8
 clear hr
 show Calls Tryz.prog 119 #[.slice rpo rl.length rc] w _
 have HCL : Hid (∀ W, (∃ dn, W = w.drewN dn) → ∀ j, j < rl.length → ∃ b o, rpo = some ⟨b, o, none⟩ ∧ W.cell? ⟨b, o + j * 2, none⟩ = some (sv (rl.getD j default).nm)) := hid (fun W hW j hj => by
  obtain ⟨dn, rfl⟩ := hW
  rcases HR.out.at_ with h | ⟨b, o, h1, _, h3⟩
  ·rw [show rl = [] from h] at hj; exact absurd hj (Nat.not_lt_zero _)
  ·exact ⟨b, o, h1, (h3 j hj).1⟩)
 go_enter Tryz.func119, Tryz.ntmps119
 go_wp2
 go_loopw [3] (fun x wr => ∃ j : Nat, j ≤ rl.length ∧ x = .int .i64 (j : Int) ∧ (∃ dn, wr = w.drewN dn) ∧ okFl [] (RowV.mk rpo rc rl).fl = okFl ((names ⟨rpo, rc, rl⟩).take j) ((RowV.mk rpo rc rl).fl.drop j)) (fun x _ => (2000 - intOf x).toNat)
 case atStart => exact ⟨0, by omega, rfl, ⟨0, rfl⟩, by simp⟩
 case round =>
  obtain ⟨j, hj, rfl, hdw, hok⟩ := hrel
  have HDW := hid hdw
  by_cases hlt : j < rl.length
  ·obtain ⟨fb, fo, hrp', cf0⟩ := HCL.out wr hdw j hlt
   subst hrp'
   have htk : (names ⟨some ⟨fb, fo, none⟩, rc, rl⟩).take (j + 1) = (names ⟨some ⟨fb, fo, none⟩, rc, rl⟩).take j ++ [(rl.getD j default).nm] := by
    have h1 : j < (names ⟨some ⟨fb, fo, none⟩, rc, rl⟩).length := by unfold names; simpa using hlt
    rw [List.take_succ_eq_append_getElem h1, getD_in _ _ _ hlt]; simp [names]
   have hdr := fl_drop (r := RowV.mk (some ⟨fb, fo, none⟩) rc rl) (j := j) hlt
   rw [hdr, okFl_cons] at hok
   have htk0 : (names ⟨some ⟨fb, fo, none⟩, rc, rl⟩).take j ++ [((RowV.mk (some ⟨fb, fo, none⟩) rc rl).l.getD j default).fl.1] = (names ⟨some ⟨fb, fo, none⟩, rc, rl⟩).take (j + 1) := htk.symm
   rw [htk0] at hok
   have hok' : okFl [] (RowV.mk (some ⟨fb, fo, none⟩) rc rl).fl = (okSt (rl.getD j default).nm && (!((names ⟨some ⟨fb, fo, none⟩, rc, rl⟩).take j).contains (rl.getD j default).nm && okFl ((names ⟨some ⟨fb, fo, none⟩, rc, rl⟩).take (j + 1)) ((RowV.mk (some ⟨fb, fo, none⟩) rc rl).fl.drop (j + 1)))) := hok
   have hfo := HR.out.el (rl.getD j default) (by rw [getD_in _ _ _ hlt]; exact List.getElem_mem hlt)
   have hln := hfo.nl
   have HOK := hid hok'
   have hlt' : (j : Int) < (rl.length : Int) := by omega
   have hj2 : (j : Int) < 1000 := by omega
   clear hok htk htk0 hdr hfo hok' hdw
   have HNG : Hid (∀ i, i < rl.length → (names ⟨some ⟨fb, fo, none⟩, rc, rl⟩).getD i [] = (rl.getD i default).nm) := hid (fun i hi => by unfold names; rw [getD_in _ _ _ (by simpa using hi), getD_in _ _ _ hi]; simp)
   have HNL : Hid ((names ⟨some ⟨fb, fo, none⟩, rc, rl⟩).length = rl.length) := hid (by unfold names; simp)
   generalize hnm : (rl.getD j default).nm = nm at *
   have HFA : Hid (okFl [] (RowV.mk (some ⟨fb, fo, none⟩) rc rl).fl = false → ((13 : Int) = (filE (RowV.mk (some ⟨fb, fo, none⟩) rc rl).fl : Int))) := hid (fun h => by unfold filE; rw [h]; rfl)
   have HN1 := hid (fun W => rname_any nm W hln)
   have t1 : True := trivial
   cases k1 : okNm nm with
   | false =>
    rw [k1] at HN1
    have HE := hid (HFA.out (by rw [HOK.out]; unfold okSt; rw [k1]; rfl))
    go_wp2_with (go_at_call 76; refine (HN1.out _).mono ?_; rintro e w' ⟨rfl, hw'⟩; have hw2 := hw'.symm; subst hw2)
    go_ret
    exact ⟨by rw [← HE.out]; rfl, HDW.out⟩
   | true =>
    rw [k1] at HN1
    have hl5 := ok_len k1
    have HSD := hid (fun W => rstaged_any nm W (by omega))
    have HN2 := hid (fun W => rname_any (tmpN nm) W (tmp_len _ (by omega)))
    cases k2 : okNm (tmpN nm) with
    | false =>
     rw [k2] at HN2
     have HE := hid (HFA.out (by rw [HOK.out]; unfold okSt; rw [k2]; simp))
     go_wp2_with (first
      | (go_at_call 76; have _t := t1; clear t1; refine (HN1.out _).mono ?_; rintro e w' ⟨rfl, hw'⟩; have hw2 := hw'.symm; subst hw2)
      | (go_at_call 84; refine (HSD.out _).mono ?_; rintro e w' ⟨rfl, hw'⟩; have hw2 := hw'.symm; subst hw2)
      | (go_at_call 76; refine (HN2.out _).mono ?_; rintro e w' ⟨rfl, hw'⟩; have hw2 := hw'.symm; subst hw2))
     go_ret
     exact ⟨by rw [← HE.out]; rfl, HDW.out⟩
    | true =>
     rw [k2] at HN2
     have HBG := hid (fun W => rbegins_any nm W (by omega))
     cases k3 : ([116, 109, 112, 47] : Nm).isPrefixOf nm with
     | true =>
      rw [k3] at HBG
      have HE := hid (HFA.out (by rw [HOK.out]; unfold okSt; rw [k3]; simp))
      go_wp2_with (first
       | (go_at_call 76; have _t := t1; clear t1; refine (HN1.out _).mono ?_; rintro e w' ⟨rfl, hw'⟩; have hw2 := hw'.symm; subst hw2)
       | (go_at_call 84; refine (HSD.out _).mono ?_; rintro e w' ⟨rfl, hw'⟩; have hw2 := hw'.symm; subst hw2)
       | (go_at_call 142; refine (HBG.out _).mono ?_; rintro e w' ⟨rfl, hw'⟩; have hw2 := hw'.symm; subst hw2)
       | (go_at_call 76; refine (HN2.out _).mono ?_; rintro e w' ⟨rfl, hw'⟩; have hw2 := hw'.symm; subst hw2))
      go_ret
      exact ⟨by rw [← HE.out]; rfl, HDW.out⟩
     | false =>
      rw [k3] at HBG
      have hst : okSt nm = true := by unfold okSt; rw [k1, k2, k3]; rfl
      have hok2 := HOK.out
      rw [hst] at hok2
      have HOK2 := hid hok2
      have HSE := hid (fun x => sv_eq x nm)
      clear hok2 hst HOK k1 k2 k3
      go_wp2_with (first
       | (go_at_call 76; have _t := t1; clear t1; refine (HN1.out _).mono ?_; rintro e w' ⟨rfl, hw'⟩; have hw2 := hw'.symm; subst hw2)
       | (go_at_call 84; refine (HSD.out _).mono ?_; rintro e w' ⟨rfl, hw'⟩; have hw2 := hw'.symm; subst hw2)
       | (go_at_call 142; refine (HBG.out _).mono ?_; rintro e w' ⟨rfl, hw'⟩; have hw2 := hw'.symm; subst hw2)
       | (go_at_call 76; refine (HN2.out _).mono ?_; rintro e w' ⟨rfl, hw'⟩; have hw2 := hw'.symm; subst hw2))
      go_loopw [4] (fun v wk => ∃ k : Nat, k ≤ j ∧ v = .int .i64 (k : Int) ∧ (∃ dn, wk = w.drewN dn) ∧ ∀ i, i < k → (names ⟨some ⟨fb, fo, none⟩, rc, rl⟩).getD i [] ≠ nm) (fun v _ => (2000 - intOf v).toNat)
      case atStart => exact ⟨0, Nat.zero_le _, rfl, HDW.out, fun i hi => absurd hi (Nat.not_lt_zero _)⟩
      case round =>
       clear HDW
       obtain ⟨k, hk, rfl, hdw, hne⟩ := hrel
       have HDW := hid hdw
       have HNE := hid hne
       clear hdw hne cf0
       by_cases hkt : k < j
       ·have hkt' : (k : Int) < (j : Int) := by omega
        have hk2 : (k : Int) < 1000 := by omega
        have hkr : (k : Int) < (rl.length : Int) := by omega
        obtain ⟨b1, o1, e1, c1⟩ := HCL.out wr HDW.out k (by omega)
        cases e1
        obtain ⟨b2, o2, e2, c2⟩ := HCL.out wr HDW.out j hlt
        cases e2
        rw [hnm] at c2
        have hbq := HSE.out (rl.getD k default).nm
        have HGK := hid (HNG.out k (by omega))
        unfold sv at c1 c2
        generalize (rl.getD k default).nm = nk at *
        generalize (⟨nk.toArray⟩ : ByteArray) = X at *
        generalize (⟨nm.toArray⟩ : ByteArray) = Y at *
        by_cases he : nk = nm
        ·have hxy := hbq.2 he
         subst hxy
         clear hbq
         have HE := hid (HFA.out (by rw [HOK2.out, contains_hit _ nm j k hkt (by rw [HNL.out]; omega) (by rw [HGK.out]; exact he)]; rfl))
         go_wp2
         go_quiet (fail)
         go_wp2
         go_ret
         refine ⟨by rw [← HE.out]; rfl, ?_⟩
         obtain ⟨dn, rfl⟩ := HDW.out
         first | exact ⟨_, rfl⟩ | exact ⟨dn + nq, by simp [World.drewN, Nat.add_assoc]⟩
        ·have hxy : X ≠ Y := fun e => he (hbq.1 e)
         have hx2 := ba_ne hxy
         clear hbq
         go_wp2
         go_quiet (fail)
         go_wp2
         go_roundw
         case rel =>
          refine ⟨k + 1, by omega, by go_num, ?_, fun i hi => ?_⟩
          ·obtain ⟨dn, rfl⟩ := HDW.out
           first | exact ⟨_, rfl⟩ | exact ⟨dn + nq, by simp [World.drewN, Nat.add_assoc]⟩
          ·by_cases e : i = k
           ·subst e; rw [HGK.out]; exact he
           ·exact HNE.out i (by omega)
         case measure => simp [intOf]; omega
       ·have hkt' : ¬ (k : Int) < (j : Int) := by omega
        have ek : k = j := by omega
        have hdup := contains_at _ nm j (fun i hi => HNE.out i (by omega)) (by rw [HNL.out]; omega)
        have hok3 := HOK2.out
        rw [hdup] at hok3
        have HOK3 := hid hok3
        clear hok3 hdup
        go_wp2
        go_roundw
        case rel => exact ⟨j + 1, by omega, by go_num, HDW.out, by rw [HOK3.out]; rfl⟩
        case measure => simp [intOf]; omega
  ·have hlt' : ¬ (j : Int) < (rl.length : Int) := by omega
   have hdn : (RowV.mk rpo rc rl).fl.drop j = [] := List.drop_eq_nil_of_le (by simp [RowV.fl]; omega)
   rw [hdn] at hok
   have HOK := hid hok
   clear hok hdn hdw
   go_wp2
   go_ret
   exact ⟨by unfold filE; rw [HOK.out]; rfl, HDW.out⟩
end Go.Proofs.YtfogkegmdgbecaaGreatDoor

/- What stands against a Commit, all lists. -/
namespace Go.Proofs.YtfogkegmdgbecaaGreatDoor
open Go Go.RowKit

theorem commitC1_any (po : Option Addr) (n c : Nat) (w : World) : Calls Tryz.prog 109 #[.slice po n c] w fun e w' => e = .returned (.bool (decide (8 < n))) ∧ Below w.heap.size w w' := by
 by_cases h : 8 < n
 ·have h' : (8 : Int) < (n : Int) := by omega
  have e : decide (8 < n) = true := by simpa using h
  rw [e]
  clear e
  go_enter Tryz.func109, Tryz.ntmps109
  go_wp2
  go_ret
  exact ⟨by simp, Below.refl _ _⟩
 ·have h' : ¬ (8 : Int) < (n : Int) := by omega
  have e : decide (8 < n) = false := by simpa using h
  rw [e]
  clear e
  go_enter Tryz.func109, Tryz.ntmps109
  go_wp2
  go_ret
  exact ⟨by simp, Below.refl _ _⟩
set_option maxHeartbeats 1000000 in
set_option maxRecDepth 100000 in
theorem indexRowL (f : FsV) {T : Nat → Prop} (w : World) (hf : f.ok w T) (hn : f.l.length ≤ 1000) (P : RowV → Bool) (hP : ∀ r ∈ f.l, ∀ W, r.ok W T → Calls Tryz.prog 109 #[r.v] W fun e w' => e = .returned (.bool (P r)) ∧ Below W.heap.size W w') :
  Calls Tryz.prog 129 #[f.v, .func (.func 109) #[] #[]] w (IdxAt w (f.l.any P)) := by
 obtain ⟨fpo, fc, fl⟩ := f
 have HF := hid hf
 have HP := hid hP
 have hn' : fl.length ≤ 1000 := hn
 clear hf hP
 show Calls Tryz.prog _ #[.slice fpo fl.length fc, _] w (IdxAt w (fl.any P))
 obtain ⟨R, hR⟩ : ∃ R, fl.any P = R := ⟨_, rfl⟩
 rw [hR]
 have HR := hid hR
 clear hR
 go_enter Tryz.func129, Tryz.ntmps129
 go_wp2
 go_loopw [8] (fun x wr => ∃ j : Nat, j ≤ fl.length ∧ x = .int .i64 (j : Int) ∧ Below w.heap.size w wr ∧ (fl.take j).any P = false) (fun x _ => (2000 - intOf x).toNat)
 case atStart => exact ⟨0, by omega, rfl, Below.refl _ _, by simp⟩
 case round =>
  obtain ⟨j, hj, rfl, hbe, hno⟩ := hrel
  by_cases hlt : j < fl.length
  ·have hf2 : (FsV.mk fpo fc fl).ok wr T := HF.out.keep (fun b hb _ => hbe.block b hb) (fun _ _ h => h)
   obtain ⟨fb, fo, hfp, hfc, hrow⟩ := row_at hf2 (i := j) hlt
   have hfp' : fpo = some ⟨fb, fo, none⟩ := hfp
   subst hfp'
   have hmem : fl.getD j default ∈ fl := by rw [getD_in _ _ _ hlt]; exact List.getElem_mem hlt
   have htk : fl.take (j + 1) = fl.take j ++ [fl.getD j default] := by rw [List.take_succ_eq_append_getElem hlt, getD_in _ _ _ hlt]
   have HC := hid (HP.out _ hmem wr hrow)
   have hfc0 : wr.cell? ⟨fb, fo + j, none⟩ = some (fl.getD j default).v := hfc
   clear hfc hrow hf2
   generalize fl.getD j default = row at *
   obtain ⟨rpo, rc, rl⟩ := row
   have hfc' : wr.cell? ⟨fb, fo + j, none⟩ = some (.slice rpo rl.length rc) := hfc0
   have hlt' : (j : Int) < (fl.length : Int) := by omega
   have HBE := hid hbe
   have HNO := hid hno
   have HTK := hid htk
   have HMEM := hid hmem
   clear hfc0 htk hbe hno hfp hmem
   cases hp : P ⟨rpo, rc, rl⟩
   ·rw [hp] at HC
    have HPP := hid hp
    clear hp
    go_wp2_with (go_at_call 109; refine HC.out.mono ?_; rintro e w5 ⟨rfl, hb5⟩; have HB5 := hid hb5; clear hb5)
    go_roundw
    case rel =>
     refine ⟨j + 1, by omega, by go_num, below_on _ _ HBE.out HB5.out, ?_⟩
     rw [HTK.out, List.any_append, HNO.out]; simp [HPP.out]
    case measure => simp [intOf]; omega
   ·rw [hp] at HC
    have HPP := hid hp
    clear hp
    go_wp2_with (go_at_call 109; refine HC.out.mono ?_; rintro e w5 ⟨rfl, hb5⟩; have HB5 := hid hb5; clear hb5)
    go_ret
    refine ⟨⟨_, rfl, ?_⟩, below_on _ _ HBE.out HB5.out⟩
    rw [← HR.out]
    have : fl.any P = true := List.any_eq_true.2 ⟨_, HMEM.out, HPP.out⟩
    rw [this]; simp
  ·have hlt' : ¬ (j : Int) < (fl.length : Int) := by omega
   have hjn : j = fl.length := by omega
   have HBE := hid hbe
   have HNO := hid hno
   have HJN := hid hjn
   clear hbe hno hjn
   go_wp2
   go_ret
   refine ⟨⟨_, rfl, ?_⟩, HBE.out⟩
   have h3 := HNO.out
   rw [HJN.out, List.take_length] at h3
   rw [← HR.out, h3]; rfl
theorem containsRowL (f : FsV) {T : Nat → Prop} (w : World) (hf : f.ok w T) (hn : f.l.length ≤ 1000) (P : RowV → Bool) (hP : ∀ r ∈ f.l, ∀ W, r.ok W T → Calls Tryz.prog 109 #[r.v] W fun e w' => e = .returned (.bool (P r)) ∧ Below W.heap.size W w') :
  Calls Tryz.prog 108 #[f.v, .func (.func 109) #[] #[]] w fun e w' => e = .returned (.bool (f.l.any P)) ∧ Below w.heap.size w w' := by
 have HI := hid (indexRowL f w hf hn P hP)
 obtain ⟨fpo, fc, fl⟩ := f
 show Calls Tryz.prog _ #[.slice fpo fl.length fc, _] w _
 have HI2 : Hid (Calls Tryz.prog 129 #[.slice fpo fl.length fc, .func (.func 109) #[] #[]] w (IdxAt w (fl.any P))) := HI.out
 generalize hbb : fl.any P = bb at *
 clear hf hP HI hbb
 go_enter Tryz.func108, Tryz.ntmps108
 go_wp2_with (go_at_call 129; refine HI2.out.mono ?_; rintro e w5 ⟨⟨q, rfl, hq⟩, hb5⟩; have HQ := hid hq; have HB5 := hid hb5; clear hb5 hq)
 go_ret
 exact ⟨by rw [← HQ.out]; simp, HB5.out⟩
set_option maxHeartbeats 1000000 in
set_option maxRecDepth 100000 in
theorem indexRowM (f : FsV) {T : Nat → Prop} (w : World) (hf : f.ok w T) (hn : f.l.length ≤ 1000) (P : RowV → Bool) (hP : ∀ r ∈ f.l, ∀ W, r.ok W T → Calls Tryz.prog 110 #[r.v] W fun e w' => e = .returned (.bool (P r)) ∧ Below W.heap.size W w') :
  Calls Tryz.prog 129 #[f.v, .func (.func 110) #[] #[]] w (IdxAt w (f.l.any P)) := by
 obtain ⟨fpo, fc, fl⟩ := f
 have HF := hid hf
 have HP := hid hP
 have hn' : fl.length ≤ 1000 := hn
 clear hf hP
 show Calls Tryz.prog _ #[.slice fpo fl.length fc, _] w (IdxAt w (fl.any P))
 obtain ⟨R, hR⟩ : ∃ R, fl.any P = R := ⟨_, rfl⟩
 rw [hR]
 have HR := hid hR
 clear hR
 go_enter Tryz.func129, Tryz.ntmps129
 go_wp2
 go_loopw [8] (fun x wr => ∃ j : Nat, j ≤ fl.length ∧ x = .int .i64 (j : Int) ∧ Below w.heap.size w wr ∧ (fl.take j).any P = false) (fun x _ => (2000 - intOf x).toNat)
 case atStart => exact ⟨0, by omega, rfl, Below.refl _ _, by simp⟩
 case round =>
  obtain ⟨j, hj, rfl, hbe, hno⟩ := hrel
  by_cases hlt : j < fl.length
  ·have hf2 : (FsV.mk fpo fc fl).ok wr T := HF.out.keep (fun b hb _ => hbe.block b hb) (fun _ _ h => h)
   obtain ⟨fb, fo, hfp, hfc, hrow⟩ := row_at hf2 (i := j) hlt
   have hfp' : fpo = some ⟨fb, fo, none⟩ := hfp
   subst hfp'
   have hmem : fl.getD j default ∈ fl := by rw [getD_in _ _ _ hlt]; exact List.getElem_mem hlt
   have htk : fl.take (j + 1) = fl.take j ++ [fl.getD j default] := by rw [List.take_succ_eq_append_getElem hlt, getD_in _ _ _ hlt]
   have HC := hid (HP.out _ hmem wr hrow)
   have hfc0 : wr.cell? ⟨fb, fo + j, none⟩ = some (fl.getD j default).v := hfc
   clear hfc hrow hf2
   generalize fl.getD j default = row at *
   obtain ⟨rpo, rc, rl⟩ := row
   have hfc' : wr.cell? ⟨fb, fo + j, none⟩ = some (.slice rpo rl.length rc) := hfc0
   have hlt' : (j : Int) < (fl.length : Int) := by omega
   have HBE := hid hbe
   have HNO := hid hno
   have HTK := hid htk
   have HMEM := hid hmem
   clear hfc0 htk hbe hno hfp hmem
   cases hp : P ⟨rpo, rc, rl⟩
   ·rw [hp] at HC
    have HPP := hid hp
    clear hp
    go_wp2_with (go_at_call 110; refine HC.out.mono ?_; rintro e w5 ⟨rfl, hb5⟩; have HB5 := hid hb5; clear hb5)
    go_roundw
    case rel =>
     refine ⟨j + 1, by omega, by go_num, below_on _ _ HBE.out HB5.out, ?_⟩
     rw [HTK.out, List.any_append, HNO.out]; simp [HPP.out]
    case measure => simp [intOf]; omega
   ·rw [hp] at HC
    have HPP := hid hp
    clear hp
    go_wp2_with (go_at_call 110; refine HC.out.mono ?_; rintro e w5 ⟨rfl, hb5⟩; have HB5 := hid hb5; clear hb5)
    go_ret
    refine ⟨⟨_, rfl, ?_⟩, below_on _ _ HBE.out HB5.out⟩
    rw [← HR.out]
    have : fl.any P = true := List.any_eq_true.2 ⟨_, HMEM.out, HPP.out⟩
    rw [this]; simp
  ·have hlt' : ¬ (j : Int) < (fl.length : Int) := by omega
   have hjn : j = fl.length := by omega
   have HBE := hid hbe
   have HNO := hid hno
   have HJN := hid hjn
   clear hbe hno hjn
   go_wp2
   go_ret
   refine ⟨⟨_, rfl, ?_⟩, HBE.out⟩
   have h3 := HNO.out
   rw [HJN.out, List.take_length] at h3
   rw [← HR.out, h3]; rfl
theorem containsRowM (f : FsV) {T : Nat → Prop} (w : World) (hf : f.ok w T) (hn : f.l.length ≤ 1000) (P : RowV → Bool) (hP : ∀ r ∈ f.l, ∀ W, r.ok W T → Calls Tryz.prog 110 #[r.v] W fun e w' => e = .returned (.bool (P r)) ∧ Below W.heap.size W w') :
  Calls Tryz.prog 108 #[f.v, .func (.func 110) #[] #[]] w fun e w' => e = .returned (.bool (f.l.any P)) ∧ Below w.heap.size w w' := by
 have HI := hid (indexRowM f w hf hn P hP)
 obtain ⟨fpo, fc, fl⟩ := f
 show Calls Tryz.prog _ #[.slice fpo fl.length fc, _] w _
 have HI2 : Hid (Calls Tryz.prog 129 #[.slice fpo fl.length fc, .func (.func 110) #[] #[]] w (IdxAt w (fl.any P))) := HI.out
 generalize hbb : fl.any P = bb at *
 clear hf hP HI hbb
 go_enter Tryz.func108, Tryz.ntmps108
 go_wp2_with (go_at_call 129; refine HI2.out.mono ?_; rintro e w5 ⟨⟨q, rfl, hq⟩, hb5⟩; have HQ := hid hq; have HB5 := hid hb5; clear hb5 hq)
 go_ret
 exact ⟨by rw [← HQ.out]; simp, HB5.out⟩

theorem comE_any (k : Nat) (rows : List RowV) (need : Int) : comE k (rows.map RowV.fl) need = if ckD k ≠ 0 then ckD k else if rows.length ≠ k ∨ need < 1 ∨ (k : Int) < need then 2 else if rows.any (fun r => decide (8 < r.l.length)) then 3 else if rows.any (fun r => !okFl [] r.fl) then 13 else 0 := by
 unfold comE
 have e1 : (rows.map RowV.fl).any (fun l => decide (8 < l.length)) = rows.any (fun r => decide (8 < r.l.length)) := by
  rw [List.any_map]; congr 1; funext r; simp [RowV.fl]
 have e2 : (rows.map RowV.fl).all (fun l => okFl [] l) = !rows.any (fun r => !okFl [] r.fl) := by
  rw [List.all_map, List.not_any_eq_all_not]; congr 1; funext r; simp
 rw [e1, e2, List.length_map]
 split
 ·rfl
 ·split
  ·rfl
  ·split
   ·rfl
   ·cases rows.any (fun r => !okFl [] r.fl) <;> rfl
section
variable {w w1 : World} {T : Nat → Prop} {k : Nat} {p : Nat → Nat} {d : Nat → Pd} {f : Fs} {c : Nat}
set_option maxHeartbeats 1000000 in
theorem checkCommit_any (h : FA w w1 T k p d f c) {lv : Value} (hl : LsAt w1 T lv k p) (hk : k ≤ 1000) (fv : FsV) (hf : fv.ok w1 T) (hfl : fv.l.length ≤ 1000) (h8 : ∀ r ∈ fv.l, r.l.length ≤ 1000) (need : Int) :
  Calls Tryz.prog 54 #[lv, fv.v, .int .i64 need] w1 fun e w' => e = .returned (.int .i64 (comE k (fv.l.map RowV.fl) need : Int)) ∧ Below w1.heap.size w1 w' := by
 have HCD := hid (checkDrives_fa h hl hk)
 have HLG := hid (containsRowL fv w1 hf hfl (fun r => decide (8 < r.l.length)) (fun r _ W _ => commitC1_any r.po r.l.length r.c W))
 have HMN := hid (fun W (hb : Below w1.heap.size w1 W) => containsRowM fv W (hf.keep (w' := W) (T' := T) (fun b hb' _ => hb.block b hb') (fun _ _ h => h)) hfl (fun r => !okFl [] r.fl) (fun r hr W' hrW => misnamed_any r W' hrW (h8 r hr)))
 obtain ⟨lpo, lc, rfl⟩ := hl.form
 rw [comE_any]
 obtain ⟨fpo, fc, fl⟩ := fv
 show Calls Tryz.prog _ #[_, .slice fpo fl.length fc, _] w1 _
 clear h hl hf h8
 have HLG2 : Hid (Calls Tryz.prog 108 #[.slice fpo fl.length fc, .func (.func 109) #[] #[]] w1 fun e w' => e = .returned (.bool (fl.any fun r => decide (8 < r.l.length))) ∧ Below w1.heap.size w1 w') := HLG.out
 have HMN2 : Hid (∀ W, Below w1.heap.size w1 W → Calls Tryz.prog 108 #[.slice fpo fl.length fc, .func (.func 110) #[] #[]] W fun e w' => e = .returned (.bool (fl.any fun r => !okFl [] r.fl)) ∧ Below W.heap.size W w') := HMN.out
 clear HLG HMN
 show Calls Tryz.prog _ _ _ fun e w' => e = .returned (.int .i64 ((if ckD k ≠ 0 then ckD k else if fl.length ≠ k ∨ need < 1 ∨ (k : Int) < need then 2 else if fl.any (fun r => decide (8 < r.l.length)) then 3 else if fl.any (fun r => !okFl [] r.fl) then 13 else 0 : Nat) : Int)) ∧ _
 generalize fl.any (fun r => decide (8 < r.l.length)) = b8 at *
 generalize fl.any (fun r => !okFl [] r.fl) = bm at *
 have hfl' : fl.length ≤ 1000 := hfl
 by_cases hcd : ckD k = 0
 ·rw [if_neg (by omega)]
  rw [hcd] at HCD
  by_cases ha : fl.length = k
  ·by_cases hb : need < 1
   ·rw [if_pos (.inr (.inl hb))]
    have ha' : ((fl.length : Int) == (k : Int)) = true := by simp; omega
    clear HLG2 HMN2
    subst ha
    go_enter Tryz.func54, Tryz.ntmps54
    go_wp2_with (go_at_call 71; refine HCD.out.mono ?_; rintro e w' ⟨rfl, hw'⟩; have hw2 := hw'.symm; subst hw2)
    go_ret
    exact ⟨rfl, Below.refl _ _⟩
   ·by_cases hc : (k : Int) < need
    ·rw [if_pos (.inr (.inr hc))]
     clear HLG2 HMN2
     subst ha
     go_enter Tryz.func54, Tryz.ntmps54
     go_wp2_with (go_at_call 71; refine HCD.out.mono ?_; rintro e w' ⟨rfl, hw'⟩; have hw2 := hw'.symm; subst hw2)
     go_ret
     exact ⟨rfl, Below.refl _ _⟩
    ·rw [if_neg (by omega)]
     subst ha
     cases b8
     ·cases bm
      ·go_enter Tryz.func54, Tryz.ntmps54
       go_wp2_with (first
        | (go_at_call 71; refine HCD.out.mono ?_; rintro e w' ⟨rfl, hw'⟩; have hw2 := hw'.symm; subst hw2)
        | (go_at_call 108; first | (refine HLG2.out.mono ?_; rintro e w5 ⟨rfl, hb5⟩; have HB5 := hid hb5; clear hb5 HLG2) | (refine (HMN2.out _ HB5.out).mono ?_; rintro e w6 ⟨rfl, hb6⟩; have HB6 := hid hb6; clear hb6)))
       go_ret
       exact ⟨by simp, below_on _ _ HB5.out HB6.out⟩
      ·go_enter Tryz.func54, Tryz.ntmps54
       go_wp2_with (first
        | (go_at_call 71; refine HCD.out.mono ?_; rintro e w' ⟨rfl, hw'⟩; have hw2 := hw'.symm; subst hw2)
        | (go_at_call 108; first | (refine HLG2.out.mono ?_; rintro e w5 ⟨rfl, hb5⟩; have HB5 := hid hb5; clear hb5 HLG2) | (refine (HMN2.out _ HB5.out).mono ?_; rintro e w6 ⟨rfl, hb6⟩; have HB6 := hid hb6; clear hb6)))
       go_ret
       exact ⟨by simp, below_on _ _ HB5.out HB6.out⟩
     ·clear HMN2
      go_enter Tryz.func54, Tryz.ntmps54
      go_wp2_with (first
       | (go_at_call 71; refine HCD.out.mono ?_; rintro e w' ⟨rfl, hw'⟩; have hw2 := hw'.symm; subst hw2)
       | (go_at_call 108; refine HLG2.out.mono ?_; rintro e w5 ⟨rfl, hb5⟩; have HB5 := hid hb5; clear hb5 HLG2))
      go_ret
      exact ⟨by simp, HB5.out⟩
  ·rw [if_pos (.inl ha)]
   have ha' : ((fl.length : Int) != (k : Int)) = true := by simp; omega
   have ha2 : ¬ (fl.length : Int) = (k : Int) := by omega
   clear HLG2 HMN2
   go_enter Tryz.func54, Tryz.ntmps54
   go_wp2_with (go_at_call 71; refine HCD.out.mono ?_; rintro e w' ⟨rfl, hw'⟩; have hw2 := hw'.symm; subst hw2)
   go_ret
   exact ⟨rfl, Below.refl _ _⟩
 ·rw [if_pos hcd]
  have hcd2 : (((ckD k : Nat) : Int) != 0) = true := by simp; omega
  clear HLG2 HMN2
  generalize ckD k = q at *
  go_enter Tryz.func54, Tryz.ntmps54
  go_wp2_with (go_at_call 71; refine HCD.out.mono ?_; rintro e w' ⟨rfl, hw'⟩; have hw2 := hw'.symm; subst hw2)
  go_ret
  exact ⟨rfl, Below.refl _ _⟩
end
end Go.Proofs.YtfogkegmdgbecaaGreatDoor
