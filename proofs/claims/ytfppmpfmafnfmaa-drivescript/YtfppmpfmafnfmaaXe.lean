/- Texts laid into one: the remark ahead of each part says what is proved there. -/
import Derived.Test.YtfppmpfmafnfmaaXd
import Derived.Laws.BitsAllLaws
import Derived.Laws.Closers25b
/- The walk of DriveKeeps. -/
namespace Go.Proofs.Ytfppmpfmafnfmaa
open Go Go.RowKit

section
variable {w wk : World} {S : Nat → Prop} {p : Nat} {d : Pd}
theorem AW.base {w0 : World} (h : AW w wk S p d) (hb : Below w0.heap.size w0 w) : AW w0 wk S p d := ⟨h.dr, fun b hS => Nat.le_trans hb.size (h.ge b hS), below_on _ _ hb h.be⟩
theorem AW.lt (h : AW w wk S p d) : ∀ b, S b → b < wk.heap.size := by obtain ⟨m, L, hd⟩ := h.dr; exact hd.lt
/-- Another drive's call. -/
theorem AW.other {T : Nat → Prop} {w' : World} (h : AW w wk S p d) (ho : Only T wk w') (hT : ∀ b, T b → w.heap.size ≤ b) (hd : ∀ b, S b → ¬ T b) : AW w w' S p d := by
  have hl := h.lt
  exact ⟨h.dr.keep ho.size fun b hb => ho.block b (hl b hb) (hd b hb), h.ge, ⟨ho.os.trans h.be.os, ho.tape.trans h.be.tape, ho.output.trans h.be.output, Nat.le_trans h.be.size ho.size, fun k hk => (ho.block k (Nat.lt_of_lt_of_le hk h.be.size) (fun e => by have := hT k e; omega)).trans (h.be.block k hk)⟩⟩
theorem AW.crash (h : AW w wk S p d) (po : Option Addr) (c : Nat) (ks : List Bool) (hk : KAt wk S po ks) (hkn : ks.length ≤ 1000000000) (hl : d.F.length < 1000000000000) :
    Calls Try.prog 30 #[ptr p, .slice po ks.length c] wk fun e w' => e = .returned (.int .i64 0) ∧ AW w w' S p (d.crash ks) ∧ Only S wk w' := by
  obtain ⟨m, L, hd⟩ := h.dr
  refine (crash_any hd po c ks hk hkn hl).mono fun e w' ⟨h1, h2, h3⟩ => ?_
  have ho : Only S wk w' := h3.mono fun b hb => hb.elim (fun e => e ▸ hd.sp) (fun e => e ▸ hd.sm)
  exact ⟨h1, ⟨h2, h.ge, ⟨ho.os.trans h.be.os, ho.tape.trans h.be.tape, ho.output.trans h.be.output, Nat.le_trans h.be.size ho.size, fun k hk => (ho.block k (Nat.lt_of_lt_of_le hk h.be.size) (fun e => by have := h.ge k e; omega)).trans (h.be.block k hk)⟩⟩, ho⟩
theorem AW.clone (h : AW w wk S p d) (hl : d.F.length < 1000000000000) {d2 : Pd} (hd : { d with out := d.isOut none } = d2) :
    Calls Try.prog 12 #[ptr p] wk fun e w' => ∃ pc, e = .returned (ptr pc) ∧ AW w w' (fun b => wk.heap.size ≤ b ∧ b < w'.heap.size) pc d2 ∧ Below wk.heap.size wk w' := by
  obtain ⟨m, L, hdr⟩ := h.dr
  subst hd
  refine (dclone_any hdr (f := none) trivial hl).mono fun e w' ⟨pc, h1, h2, h3⟩ => ⟨pc, h1, ⟨h2, fun b hb => Nat.le_trans h.be.size hb.1, below_on _ _ h.be h3⟩, h3⟩
theorem AW.names (h : AW w wk S p d) (hl : d.F.length < 1000000000000) {ns : List Nm} (hr : d.list none [] = ns) :
    Calls Try.prog 36 #[ptr p] wk (NamesAt wk ns) := by
  obtain ⟨m, L, hd⟩ := h.dr
  subst hr
  exact lnames_any hd (f := none) trivial hl
theorem AW.loose' (h : AW w wk S p d) (hl : d.F.length < 1000000000000) {ns : List Nm} (hr : d.loose = ns) : Calls Try.prog 32 #[ptr p] wk (NamesAt wk ns) := by
  obtain ⟨m, L, hd⟩ := h.dr
  subst hr
  exact loose_any hd hl
theorem AW.read (h : AW w wk S p d) (s : Nm) (hs : s.length ≤ maxLen) {er : Nat} {bs : List Nat} (h1 : d.readE none s = er) (h2 : d.readB none s = bs) : Calls Try.prog 21 #[ptr p, sv s] wk (ReadAt wk er bs) := by
  obtain ⟨m, L, hd⟩ := h.dr
  subst h1 h2
  exact read_any hd (f := none) trivial s hs
theorem AW.srt (h : AW w wk S p d) : Srt d.F := by obtain ⟨m, L, hd⟩ := h.dr; exact hd.srtF
theorem AW.okn (h : AW w wk S p d) : ∀ x ∈ d.F, okNm x.1 = true := by
  obtain ⟨m, L, hd⟩ := h.dr
  intro x hx
  rw [hd.fs] at hx
  obtain ⟨y, hy, rfl⟩ := List.mem_map.1 hx
  exact hd.nm y hy
end
theorem same_out (d : Pd) : ({ d with out := d.isOut none } : Pd) = d := by
  have : d.isOut none = d.out := by unfold Pd.isOut goneF; simp
  rw [this]
theorem read_some {d : Pd} {s : Nm} {x : Fi} (ha : d.ans none [s] = 0) (hg : gget d.F s = some x) : d.readE none s = 0 ∧ d.readB none s = x.1 := by
  unfold Pd.readE Pd.readB; rw [if_neg (by simp [ha]), if_neg (by simp [ha]), hg]; exact ⟨rfl, rfl⟩
theorem read_none' {d : Pd} {s : Nm} (ha : d.ans none [s] = 0) (hg : gget d.F s = none) : d.readE none s = 6 ∧ d.readB none s = [] := by
  unfold Pd.readE Pd.readB; rw [if_neg (by simp [ha]), if_neg (by simp [ha]), hg]; exact ⟨rfl, rfl⟩
theorem ans_crash {d : Pd} {n : Nat} (h : d.calm n) (ks : List Bool) (ns : List Nm) (hn : ∀ s ∈ ns, okNm s = true) : (d.crash ks).ans none ns = 0 := by
  unfold Pd.ans Pd.isOut Pd.crash; rw [h.offl]; simp [goneF, List.all_eq_true.2 hn]
/-- Two drives, two lists of texts and some bools: what loop two carries. -/
structure K2 (w wr : World) (S S' : Nat → Prop) (p pc : Nat) (dc d : Pd) (vl vn : Value) (po : Option Addr) (ks : List Bool) : Prop where
  a : AW w wr S p dc
  b : AW w wr S' pc d
  tl : TxtAt wr vl (looseN d.F)
  tn : TxtAt wr vn (d.F.map (·.1))
  kp : KAt wr (fun _ => False) po ks
theorem K2.on {w wr w2 : World} {S S' : Nat → Prop} {p pc : Nat} {dc d : Pd} {vl vn : Value} {po : Option Addr} {ks : List Bool} (h : K2 w wr S S' p pc dc d vl vn po ks) (hb : Below wr.heap.size wr w2) : K2 w w2 S S' p pc dc d vl vn po ks :=
  ⟨h.a.below hb, h.b.below hb, h.tl.below hb, h.tn.below hb, h.kp.only (T := fun _ => False) ⟨hb.os, hb.tape, hb.output, hb.size, fun k hk _ => hb.block k hk⟩ (fun _ _ h => h)⟩
theorem act_at {w wr : World} {b o len i : Nat} (h : ∀ i, i < len → ∃ x : AV, x.ok w ∧ ∀ j, j < 9 → w.cell? ⟨b, o + i * 9 + j, none⟩ = x.val[j]?) (hi : i < len) (hb : Below w.heap.size w wr) : ∃ x : AV, x.ok wr ∧ ∀ j, j < 9 → wr.cell? ⟨b, o + i * 9 + j, none⟩ = x.val[j]? := by
  obtain ⟨x, hx, hc⟩ := h i hi
  refine ⟨x, hx.below hb, fun j hj => ?_⟩
  have hl : b < w.heap.size := cell_lt' (a := ⟨b, o + i * 9 + j, none⟩) (by
    rw [hc j hj]
    have : j = 0 ∨ j = 1 ∨ j = 2 ∨ j = 3 ∨ j = 4 ∨ j = 5 ∨ j = 6 ∨ j = 7 ∨ j = 8 := by omega
    rcases this with rfl | rfl | rfl | rfl | rfl | rfl | rfl | rfl | rfl <;> simp [AV.val])
  exact (World.cell?_of_block (hb.block b hl)).trans (hc j hj)
set_option maxHeartbeats 2000000 in
set_option maxRecDepth 100000 in
theorem driveKeeps_walk (pa : Option Addr) (na ca : Nat) (po : Option Addr) (ck : Nat) (ks : List Bool) (w : World) (hA : IsActs w pa na) (hK : KAt w (fun _ => False) po ks) :
    Calls Try.prog 6 #[.slice pa na ca, .slice po ks.length ck] w fun e w' => e = .returned (.bool true) ∧ Below w.heap.size w w' := by
  have HAW := hid (awake_any w)
  have HNW := hid (fun W => new_ok 100000 (by omega) (by omega) W)
  have HA := hid hA
  have HK := hid hK
  clear hA hK
  by_cases h40 : 40 < na
  · have h40' : (40 : Int) < (na : Int) := by omega
    go_enter Try.func6, Try.ntmps6
    go_wp2_with (first
      | (go_at_call 20; refine HAW.out.mono ?_; rintro e w1 ⟨rfl, hb1⟩; have HB1 := hid hb1; clear hb1)
      | (go_at_call 9; refine (HNW.out w1).mono ?_; rintro e w2 ⟨p, rfl, hd2, hb2⟩; have HD := hid ((AW.made hd2 hb2).base HB1.out); clear hd2 hb2))
    go_ret
    exact ⟨rfl, HD.out.be⟩
  by_cases h100 : 100 < ks.length
  · have h40' : ¬ (40 : Int) < (na : Int) := by omega
    have h100' : (100 : Int) < (ks.length : Int) := by omega
    go_enter Try.func6, Try.ntmps6
    go_wp2_with (first
      | (go_at_call 20; refine HAW.out.mono ?_; rintro e w1 ⟨rfl, hb1⟩; have HB1 := hid hb1; clear hb1)
      | (go_at_call 9; refine (HNW.out w1).mono ?_; rintro e w2 ⟨p, rfl, hd2, hb2⟩; have HD := hid ((AW.made hd2 hb2).base HB1.out); clear hd2 hb2))
    go_ret
    exact ⟨rfl, HD.out.be⟩
  have h40' : ¬ (40 : Int) < (na : Int) := by omega
  have h100' : ¬ (100 : Int) < (ks.length : Int) := by omega
  go_enter Try.func6, Try.ntmps6
  go_wp2_with (first
    | (go_at_call 20; refine HAW.out.mono ?_; rintro e w1 ⟨rfl, hb1⟩; have HB1 := hid hb1; clear hb1)
    | (go_at_call 9; refine (HNW.out w1).mono ?_; rintro e w2 ⟨p, rfl, hd2, hb2⟩; have HD := hid ((AW.made hd2 hb2).base HB1.out); clear hd2 hb2))
  go_loopw [8] (fun v wr => ∃ i : Nat, i ≤ na ∧ v = .int .i64 (i : Int) ∧ ∃ S d, AW w wr S p d ∧ d.calm i) (fun v _ => (na - intOf v).toNat)
  case atStart => exact ⟨0, by omega, rfl, _, _, HD.out, ⟨rfl, rfl, Nat.le_refl _, Nat.le_refl _⟩⟩
  case round =>
    obtain ⟨i, hi, rfl, S, d, hAw, hcalm⟩ := hrel
    have HD := hid hAw
    have HC := hid hcalm
    clear hAw hcalm
    by_cases hlt : i < na
    · have hlt' : (i : Int) < (na : Int) := by omega
      rcases HA.out with h0 | ⟨ba, oa, rfl, hx⟩
      · omega
      obtain ⟨x, hxo, hxc⟩ := act_at hx hlt HD.out.be
      have HX := hid hxo
      have x0 : wr.cell? ⟨ba, oa + i * 9, none⟩ = some (.int .i64 x.kind) := hxc 0 (by omega)
      have x1 : wr.cell? ⟨ba, oa + i * 9 + 1, none⟩ = some (.int .i64 x.which) := hxc 1 (by omega)
      have x2 : wr.cell? ⟨ba, oa + i * 9 + 2, none⟩ = some (.int .i64 x.at_) := hxc 2 (by omega)
      have x3 : wr.cell? ⟨ba, oa + i * 9 + 3, none⟩ = some (sv x.A) := hxc 3 (by omega)
      have x4 : wr.cell? ⟨ba, oa + i * 9 + 4, none⟩ = some (sv x.C) := hxc 4 (by omega)
      have x5 : wr.cell? ⟨ba, oa + i * 9 + 5, none⟩ = some (.slice x.pb x.bs.length x.cb) := hxc 5 (by omega)
      have x6 : wr.cell? ⟨ba, oa + i * 9 + 6, none⟩ = some (.bool x.is_) := hxc 6 (by omega)
      have x7 : wr.cell? ⟨ba, oa + i * 9 + 7, none⟩ = some (.int .u8 x.mask) := hxc 7 (by omega)
      have x8 : wr.cell? ⟨ba, oa + i * 9 + 8, none⟩ = some (.slice x.pk x.ks.length x.ck) := hxc 8 (by omega)
      clear hxo hxc hx
      by_cases h500 : 500 < x.bs.length
      · have h5' : (500 : Int) < (x.bs.length : Int) := by omega
        go_wp2
        go_ret
        exact ⟨rfl, HD.out.be⟩
      · have h5' : ¬ (500 : Int) < (x.bs.length : Int) := by omega
        have HST := hid (HD.out.stepA x HX.out (by omega) (by have := HC.out.ops; omega) (by have := HC.out.ops; have := HC.out.len; omega))
        unfold AV.val at HST
        go_wp2_with (go_at_call 35; refine HST.out.mono ?_; rintro e w2 ⟨rfl, S2, hA2⟩; have HD2 := hid hA2; clear hA2)
        go_roundw
        case rel => exact ⟨i + 1, by omega, by go_num, S2, _, HD2.out, step_calm HC.out none x⟩
        case measure => simp [intOf]; omega
    · have hlt' : ¬ (i : Int) < (na : Int) := by omega
      have hl12 : d.F.length < 1000000000000 := by have := HC.out.ops; have := HC.out.len; omega
      have HCL := hid (HD.out.clone hl12 (same_out d))
      have hlc : (d.crash ks).F.length < 1000000000000 := by have : (d.crash ks).F.length ≤ d.F.length := crash_len d.F ks _; omega
      have HN : Hid (d.list none [] = d.F.map (·.1)) := hid (list_all d none (ans_calm HC.out [] (by simp)))
      have t1 : True := trivial
      go_wp2_with (first
        | (go_at_call 12; refine HCL.out.mono ?_; rintro e w3 ⟨pc, rfl, hP, hb3⟩; have HP := hid hP; have HD3 := hid (HD.out.below hb3); have hw3 := hb3.size; have HLO := hid (HD3.out.loose' hl12 (ns := looseN d.F) rfl); clear hP hb3)
        | (go_at_call 32; have _t := t1; refine HLO.out.mono ?_; rintro e w4 ⟨pl, cl, rfl, htl, hb4⟩; have HD4 := hid (HD3.out.below hb4); have HP4 := hid (HP.out.below hb4); have HTL := hid htl; have hw4 := hb4.size
           have HK4 : Hid (KAt w4 S po ks) := hid ((HK.out.only (T := fun _ => False) ⟨HD4.out.be.os, HD4.out.be.tape, HD4.out.be.output, HD4.out.be.size, fun k hk _ => HD4.out.be.block k hk⟩ (fun _ _ h => h)).under (B := w.heap.size) (fun b o i e hi => by
             rcases HK.out with h0 | ⟨b', o', e', _, hc⟩
             · rw [h0] at hi; simp at hi
             · rw [e] at e'; cases e'
               exact cell_lt' (a := ⟨b, o + i, none⟩) (by rw [hc i hi]; simp)) HD4.out.ge)
           clear htl hb4 t1)
        | (go_at_call 30; refine (HD4.out.crash po ck ks HK4.out (by omega) hl12).mono ?_; rintro e w5 ⟨rfl, hA5, ho5⟩; have HD5 := hid hA5; have HP5 := hid (HP4.out.other ho5 HD4.out.ge (fun b hb hS => by have := HD.out.lt b hS; omega))
           have HTL5 := hid (HTL.out.keep (w' := w5) (fun b hb => ho5.block b (own_ge HTL.out b hb).2 (fun hS => by have := HD.out.lt b hS; have := (own_ge HTL.out b hb).1; omega)))
           clear hA5 ho5)
        | (go_at_call 32; refine (HD5.out.loose' hlc (ns := []) (crashAll_loose d.F ks)).mono ?_; rintro e w6 ⟨pl2, cl2, rfl, _, hb6⟩; have HD6 := hid (HD5.out.below hb6); have HP6 := hid (HP5.out.below hb6); have HTL6 := hid (HTL5.out.at.below hb6); clear hb6)
        | (go_at_call 36; refine (HP6.out.names hl12 HN.out).mono ?_; rintro e w7 ⟨pn, cn, rfl, htn, hb7⟩
           have HI : Hid (K2 w w7 S _ p pc (d.crash ks) d _ _ po ks) := hid ⟨HD6.out.below hb7, HP6.out.below hb7, HTL6.out.below hb7, htn.at, HK.out.only (T := fun _ => False) (by have hbe := (HD6.out.below hb7).be; exact ⟨hbe.os, hbe.tape, hbe.output, hbe.size, fun k hk _ => hbe.block k hk⟩) (fun _ _ h => h)⟩
           clear htn hb7))
      have hN : d.F.length ≤ 40 := by have := HC.out.ops; have := HC.out.len; omega
      have hnl : (looseN d.F).length ≤ 40 := by unfold looseN namesOf; rw [List.length_map]; exact Nat.le_trans (List.length_filter_le _ _) hN
      go_loopw [12, 13, 14] (fun v12 v13 v14 wz => ∃ i2 : Nat, i2 ≤ d.F.length ∧ v12 = .int .i64 (cntL d.F i2 : Int) ∧ v13 = .int .i64 (stayN d.F ks i2 : Int) ∧ v14 = .int .i64 (i2 : Int) ∧ K2 w wz S (fun b => wr.heap.size ≤ b ∧ b < w3.heap.size) p pc (d.crash ks) d (.slice pl (looseN d.F).length cl) (.slice pn (List.map (fun x => x.fst) d.F).length cn) po ks) (fun _ _ v _ => (d.F.length - intOf v).toNat)
      case atStart => exact ⟨0, by omega, rfl, rfl, rfl, HI.out⟩
      case round =>
        obtain ⟨i2, hi2, rfl, rfl, rfl, hI⟩ := hrel
        have HI := hid hI
        clear hI
        by_cases hlt2 : i2 < d.F.length
        · have hlt2' : (i2 : Int) < (d.F.length : Int) := by omega
          have hmem := atF_mem hlt2
          have HOKN := hid (HI.out.b.okn _ hmem)
          have HG := hid (gget_of_mem HI.out.b.srt (s := (atF d.F i2).1) (a := (atF d.F i2).2) hmem)
          have HCG := hid (crashAll_get HI.out.b.srt ks i2 hlt2)
          have HTH := hid (thereL_get d.F ks i2 hlt2)
          have HIN0 := hid (loose_mem HI.out.b.srt hlt2)
          have HNS0 := hid (cntL_succ hlt2)
          have HTS0 := hid (stayN_succ (ks := ks) hlt2)
          have hcn := cntL_le d.F i2
          have hst := stayN_le d.F ks i2
          have htn := HI.out.tn
          rcases htn with ⟨h0, _⟩ | ⟨gn, cn2, hvn, hcell⟩
          · have := congrArg List.length h0; simp at this; rw [this] at hlt2; simp at hlt2
          obtain ⟨rfl, rfl⟩ : pn = some ⟨gn, 0, none⟩ ∧ cn = cn2 := by cases hvn; exact ⟨rfl, rfl⟩
          have cnm := hcell i2 (by simpa using hlt2)
          have enm : (List.map (fun x => x.fst) d.F).getD i2 [] = (atF d.F i2).1 := by unfold atF; rw [getD_in _ _ _ (by simpa using hlt2), getD_in _ _ _ hlt2]; simp
          rw [enm] at cnm
          clear hvn hcell enm hmem
          generalize hAT : atF d.F i2 = at2 at *
          obtain ⟨s, bb, lo⟩ := at2
          simp only at cnm
          have HOKS : Hid (okNm s = true) := hid HOKN.out
          have hsl : s.length ≤ maxLen := by have := ok_len HOKS.out; unfold maxLen; omega
          have HA1 := hid (ans_calm HC.out [s] (by simpa using HOKS.out))
          have HA2 := hid (ans_crash HC.out ks [s] (by simpa using HOKS.out))
          have HE1 : Hid (d.readE none s = 0 ∧ d.readB none s = bb) := hid (read_some HA1.out HG.out)
          have HR1 := hid (HI.out.b.read s hsl HE1.out.1 HE1.out.2)
          generalize cntL d.F i2 = n at *
          generalize stayN d.F ks i2 = t at *
          have t2 : True := trivial
          have HGL : Hid (gn < wr.heap.size) := hid (cell_lt' (a := ⟨gn, i2, none⟩) (by rw [cnm]; simp))
          clear hAT
          cases lo
          · have HIN : Hid (decide (s ∈ looseN d.F) = false) := hid (decide_eq_false fun h => by have := HIN0.out.1 h; cases this)
            have HTH1 : Hid ((thereL d.F ks).getD i2 false = true) := hid HTH.out
            have HE2 : Hid ((d.crash ks).readE none s = 0 ∧ (d.crash ks).readB none s = bb) := hid (read_some HA2.out (x := (bb, false)) (by have := HCG.out; rw [HTH1.out] at this; exact this))
            have HNS : Hid (cntL d.F (i2 + 1) = n) := hid HNS0.out
            have HTS : Hid (stayN d.F ks (i2 + 1) = t + 1) := hid (by rw [HTS0.out, HTH1.out]; rfl)
            go_wp2_with (first
              | (go_at_call 21; have _t := t2; refine HR1.out.mono ?_; rintro e z1 ⟨p1, c1, rfl, ho1, hb1⟩; have HI := hid (HI.out.on hb1); have HO1 := hid ho1; have HC1 := hid ((World.cell?_of_block (hb1.block gn HGL.out)).trans cnm); have cnm1 := HC1.out; have HGL1 : Hid (gn < z1.heap.size) := hid (Nat.lt_of_lt_of_le HGL.out hb1.size); clear ho1 hb1 t2
                 have HR2 := hid (HI.out.a.read s hsl HE2.out.1 HE2.out.2))
              | (go_at_call 21; refine HR2.out.mono ?_; rintro e z2 ⟨p2, c2, rfl, ho2, hb2⟩; have HI := hid (HI.out.on hb2); have HQ1 := hid (ownsRow_keep (w' := z2) HO1.out fun b hb => hb2.block b (own_ge HO1.out b hb).2); have HQ2 := hid ho2; have cnm2 := (World.cell?_of_block (hb2.block gn HGL1.out)).trans HC1.out; clear ho2 hb2)
              | (go_at_call 37; refine (in_any _ (looseN d.F) s _ (by have := hnl; omega) HI.out.tl).mono ?_; rintro e w' ⟨rfl, hw'⟩; rw [HIN.out]; have hw2 := hw'.symm; subst hw2)
              | (go_at_call 38; refine (sameBytes_true ⟨_, HQ1.out⟩ ⟨_, HQ2.out⟩).mono ?_; rintro e w' ⟨rfl, hw'⟩; have hw2 := hw'.symm; subst hw2))
            go_roundw
            case rel => exact ⟨i2 + 1, by omega, by rw [HNS.out], by rw [HTS.out]; go_num, by go_num, HI.out⟩
            case measure => simp [intOf]; omega
          · cases hkb : ks.getD n false
            · have HIN : Hid (decide (s ∈ looseN d.F) = true) := hid (decide_eq_true (HIN0.out.2 rfl))
              have HTH1 : Hid ((thereL d.F ks).getD i2 false = false) := hid (by have h := HTH.out; simp only [if_true] at h; rw [h]; exact hkb)
              have HE2 : Hid ((d.crash ks).readE none s = 6 ∧ (d.crash ks).readB none s = []) := hid (read_none' HA2.out (by have := HCG.out; rw [HTH1.out] at this; exact this))
              have HNS : Hid (cntL d.F (i2 + 1) = n + 1) := hid HNS0.out
              have HTS : Hid (stayN d.F ks (i2 + 1) = t) := hid (by rw [HTS0.out, HTH1.out]; rfl)
              by_cases hik : n < ks.length
              · have hik' : (n : Int) < (ks.length : Int) := by omega
                rcases HK.out with h0 | ⟨bk, ok, hpo, _, _⟩
                · rw [h0] at hik; simp at hik
                subst hpo
                go_wp2_with (first
                  | (go_at_call 21; have _t := t2; refine HR1.out.mono ?_; rintro e z1 ⟨p1, c1, rfl, ho1, hb1⟩; have HI := hid (HI.out.on hb1); have HO1 := hid ho1; have HC1 := hid ((World.cell?_of_block (hb1.block gn HGL.out)).trans cnm); have cnm1 := HC1.out; have HGL1 : Hid (gn < z1.heap.size) := hid (Nat.lt_of_lt_of_le HGL.out hb1.size); clear ho1 hb1 t2
                     have HR2 := hid (HI.out.a.read s hsl HE2.out.1 HE2.out.2))
                  | (go_at_call 21; refine HR2.out.mono ?_; rintro e z2 ⟨p2, c2, rfl, ho2, hb2⟩; have HI := hid (HI.out.on hb2); have HQ1 := hid (ownsRow_keep (w' := z2) HO1.out fun b hb => hb2.block b (own_ge HO1.out b hb).2); have HQ2 := hid ho2; have cnm2 := (World.cell?_of_block (hb2.block gn HGL1.out)).trans HC1.out; clear ho2 hb2)
                  | (go_at_call 37; refine (in_any _ (looseN d.F) s _ (by have := hnl; omega) HI.out.tl).mono ?_; rintro e w' ⟨rfl, hw'⟩; rw [HIN.out]; have hw2 := hw'.symm; subst hw2
                     have ckk : z2.cell? ⟨bk, ok + n, none⟩ = some (.bool false) := kat_at HI.out.kp hik hkb)
                  | (go_at_call 38; refine (sameBytes_true ⟨_, HQ1.out⟩ ⟨_, HQ2.out⟩).mono ?_; rintro e w' ⟨rfl, hw'⟩; have hw2 := hw'.symm; subst hw2))
                go_roundw
                case rel => exact ⟨i2 + 1, by omega, by rw [HNS.out]; go_num, by rw [HTS.out], by go_num, HI.out⟩
                case measure => simp [intOf]; omega
              · have hik' : ¬ (n : Int) < (ks.length : Int) := by omega
                go_wp2_with (first
                  | (go_at_call 21; have _t := t2; refine HR1.out.mono ?_; rintro e z1 ⟨p1, c1, rfl, ho1, hb1⟩; have HI := hid (HI.out.on hb1); have HO1 := hid ho1; have HC1 := hid ((World.cell?_of_block (hb1.block gn HGL.out)).trans cnm); have cnm1 := HC1.out; have HGL1 : Hid (gn < z1.heap.size) := hid (Nat.lt_of_lt_of_le HGL.out hb1.size); clear ho1 hb1 t2
                     have HR2 := hid (HI.out.a.read s hsl HE2.out.1 HE2.out.2))
                  | (go_at_call 21; refine HR2.out.mono ?_; rintro e z2 ⟨p2, c2, rfl, ho2, hb2⟩; have HI := hid (HI.out.on hb2); have HQ1 := hid (ownsRow_keep (w' := z2) HO1.out fun b hb => hb2.block b (own_ge HO1.out b hb).2); have HQ2 := hid ho2; have cnm2 := (World.cell?_of_block (hb2.block gn HGL1.out)).trans HC1.out; clear ho2 hb2)
                  | (go_at_call 37; refine (in_any _ (looseN d.F) s _ (by have := hnl; omega) HI.out.tl).mono ?_; rintro e w' ⟨rfl, hw'⟩; rw [HIN.out]; have hw2 := hw'.symm; subst hw2)
                  | (go_at_call 38; refine (sameBytes_true ⟨_, HQ1.out⟩ ⟨_, HQ2.out⟩).mono ?_; rintro e w' ⟨rfl, hw'⟩; have hw2 := hw'.symm; subst hw2))
                go_roundw
                case rel => exact ⟨i2 + 1, by omega, by rw [HNS.out]; go_num, by rw [HTS.out], by go_num, HI.out⟩
                case measure => simp [intOf]; omega
            · have HIN : Hid (decide (s ∈ looseN d.F) = true) := hid (decide_eq_true (HIN0.out.2 rfl))
              have HTH1 : Hid ((thereL d.F ks).getD i2 false = true) := hid (by have h := HTH.out; simp only [if_true] at h; rw [h]; exact hkb)
              have HE2 : Hid ((d.crash ks).readE none s = 0 ∧ (d.crash ks).readB none s = bb) := hid (read_some HA2.out (x := (bb, false)) (by have := HCG.out; rw [HTH1.out] at this; exact this))
              have HNS : Hid (cntL d.F (i2 + 1) = n + 1) := hid HNS0.out
              have HTS : Hid (stayN d.F ks (i2 + 1) = t + 1) := hid (by rw [HTS0.out, HTH1.out]; rfl)
              have hik : n < ks.length := by
                rcases Nat.lt_or_ge n ks.length with h | h
                · exact h
                · rw [List.getD_eq_getElem?_getD, List.getElem?_eq_none h] at hkb; cases hkb
              have hik' : (n : Int) < (ks.length : Int) := by omega
              rcases HK.out with h0 | ⟨bk, ok, hpo, _, _⟩
              · rw [h0] at hik; simp at hik
              subst hpo
              go_wp2_with (first
                | (go_at_call 21; have _t := t2; refine HR1.out.mono ?_; rintro e z1 ⟨p1, c1, rfl, ho1, hb1⟩; have HI := hid (HI.out.on hb1); have HO1 := hid ho1; have HC1 := hid ((World.cell?_of_block (hb1.block gn HGL.out)).trans cnm); have cnm1 := HC1.out; have HGL1 : Hid (gn < z1.heap.size) := hid (Nat.lt_of_lt_of_le HGL.out hb1.size); clear ho1 hb1 t2
                   have HR2 := hid (HI.out.a.read s hsl HE2.out.1 HE2.out.2))
                | (go_at_call 21; refine HR2.out.mono ?_; rintro e z2 ⟨p2, c2, rfl, ho2, hb2⟩; have HI := hid (HI.out.on hb2); have HQ1 := hid (ownsRow_keep (w' := z2) HO1.out fun b hb => hb2.block b (own_ge HO1.out b hb).2); have HQ2 := hid ho2; have cnm2 := (World.cell?_of_block (hb2.block gn HGL1.out)).trans HC1.out; clear ho2 hb2)
                | (go_at_call 37; refine (in_any _ (looseN d.F) s _ (by have := hnl; omega) HI.out.tl).mono ?_; rintro e w' ⟨rfl, hw'⟩; rw [HIN.out]; have hw2 := hw'.symm; subst hw2
                   have ckk : z2.cell? ⟨bk, ok + n, none⟩ = some (.bool true) := kat_at HI.out.kp hik hkb)
                | (go_at_call 38; refine (sameBytes_true ⟨_, HQ1.out⟩ ⟨_, HQ2.out⟩).mono ?_; rintro e w' ⟨rfl, hw'⟩; have hw2 := hw'.symm; subst hw2))
              go_roundw
              case rel => exact ⟨i2 + 1, by omega, by rw [HNS.out]; go_num, by rw [HTS.out]; go_num, by go_num, HI.out⟩
              case measure => simp [intOf]; omega
        · have hlt2' : ¬ (i2 : Int) < (d.F.length : Int) := by omega
          obtain rfl : i2 = d.F.length := by omega
          have HFN := hid (HI.out.a.names hlc (ns := (d.crash ks).F.map (·.1)) (list_all _ none (ans_crash HC.out ks [] (by simp))))
          have hst : stayN d.F ks d.F.length = ((d.crash ks).F.map (·.1)).length := by rw [stayN_all, List.length_map]; rfl
          have hstl : ((d.crash ks).F.map (·.1)).length ≤ 40 := by rw [← hst]; exact Nat.le_trans (stayN_le _ _ _) hN
          rw [hst]
          generalize (d.crash ks).F.map (·.1) = ns at *
          clear hst
          go_wp2_with (go_at_call 36; refine HFN.out.mono ?_; rintro e z9 ⟨p9, c9, rfl, _, hb9⟩; have HI := hid (HI.out.on hb9); clear hb9)
          go_ret
          exact ⟨rfl, HI.out.a.be⟩
#print axioms driveKeeps_walk
end Go.Proofs.Ytfppmpfmafnfmaa

/- Drives beside one another, some of them with one fuse together. -/
namespace Go.Proofs.Ytfppmpfmafnfmaa
open Go Go.RowKit

structure Dv where
  p : Nat
  S : Nat → Prop
  fu : Option Nat
  d : Pd
def fsOf (Z : Nat → Nat × Bool) (x : Dv) : Fs := x.fu.map Z
structure Sys (w wr : World) (k : Nat) (D : Nat → Dv) (Z : Nat → Nat × Bool) : Prop where
  dr : ∀ i, i < k → DrAt wr (D i).S (D i).p (D i).fu (D i).d
  fz : ∀ i, i < k → ∀ q, (D i).fu = some q → CAt wr q #[.int .i64 ((Z q).1 : Int), .bool (Z q).2] 81 ∧ (Z q).1 ≤ 9223372036854775807 ∧ w.heap.size ≤ q ∧ ∀ j, j < k → ¬ (D j).S q
  dj : ∀ i j, i < k → j < k → i ≠ j → ∀ b, (D i).S b → ¬ (D j).S b
  ge : ∀ i, i < k → ∀ b, (D i).S b → w.heap.size ≤ b
  be : Below w.heap.size w wr
def setD (D : Nat → Dv) (i : Nat) (x : Dv) : Nat → Dv := fun j => if j = i then x else D j
theorem setD_same (D : Nat → Dv) (i : Nat) (x : Dv) : setD D i x i = x := by simp [setD]
theorem setD_ne (D : Nat → Dv) {i j : Nat} (x : Dv) (h : j ≠ i) : setD D i x j = D j := by simp [setD, h]
def setZ (Z : Nat → Nat × Bool) (fu : Option Nat) (f : Fs) : Nat → Nat × Bool := fun b => if fu = some b then f.getD (0, false) else Z b
section
variable {w wr : World} {k : Nat} {D : Nat → Dv} {Z : Nat → Nat × Bool}
theorem Sys.lt (h : Sys w wr k D Z) {i : Nat} (hi : i < k) : ∀ b, (D i).S b → b < wr.heap.size := by obtain ⟨m, L, hd⟩ := h.dr i hi; exact hd.lt
theorem Sys.fu (h : Sys w wr k D Z) {i : Nat} (hi : i < k) : FuAt wr (D i).S (D i).fu (fsOf Z (D i)) := by
  unfold fsOf
  cases hq : (D i).fu with
  | none => exact trivial
  | some q =>
    obtain ⟨h1, h2, _, h4⟩ := h.fz i hi q hq
    exact ⟨h1, h4 i hi, h2⟩
theorem Sys.below (h : Sys w wr k D Z) {w' : World} (hb : Below wr.heap.size wr w') : Sys w w' k D Z :=
  ⟨fun i hi => by obtain ⟨m, L, hd⟩ := h.dr i hi; exact ⟨m, L, hd.below hb⟩, fun i hi q hq => by obtain ⟨h1, h2⟩ := h.fz i hi q hq; exact ⟨h1.below hb, h2⟩, h.dj, h.ge, below_on _ _ h.be hb⟩
/-- A call of one drive that may turn its own blocks and its fuse alone. -/
theorem Sys.turn (h : Sys w wr k D Z) {i : Nat} (hi : i < k) {w' : World} {S2 : Nat → Prop} {d2 : Pd} {fu2 : Option Nat} {f2 : Fs} (hg : Grows wr (D i).S S2) (hd : DrAt w' S2 (D i).p fu2 d2) (hfu : fu2 = (D i).fu ∨ fu2 = none)
    (hf : FuAt w' S2 (D i).fu f2) (ho : Only (fun b => (D i).S b ∨ (D i).fu = some b) wr w') : Sys w w' k (setD D i ⟨(D i).p, S2, fu2, d2⟩) (setZ Z (D i).fu f2) := by
  have hq : ∀ j, j < k → ∀ q, (D j).fu = some q → q < wr.heap.size := fun j hj q e => (h.fz j hj q e).1.lt
  have hS : ∀ j, j < k → ∀ b, b < wr.heap.size → (setD D i ⟨(D i).p, S2, fu2, d2⟩ j).S b → (D j).S b := fun j _ b hb hs => by
    by_cases e : j = i
    · subst e; rw [setD_same] at hs; exact (hg.2 b hs).elim id (fun hle => by omega)
    · rw [setD_ne D _ e] at hs; exact hs
  refine ⟨fun j hj => ?_, fun j hj q e => ?_, fun a b ha hb hab c hc hc2 => ?_, fun j hj b hb => ?_, ?_⟩
  · by_cases e : j = i
    · subst e; rw [setD_same]; exact hd
    · rw [setD_ne D _ e]
      refine (h.dr j hj).keep ho.size fun b hb => ho.block b (h.lt hj b hb) fun e2 => ?_
      rcases e2 with e2 | e2
      · exact h.dj j i hj hi e b hb e2
      · exact (h.fz i hi b e2).2.2.2 j hj hb
  · have hje : ∃ j', j' < k ∧ (D j').fu = some q := by
      by_cases ej : j = i
      · subst ej
        rw [setD_same] at e
        rcases hfu with hfu | hfu
        · exact ⟨j, hj, by rw [← hfu]; exact e⟩
        · rw [hfu] at e; cases e
      · rw [setD_ne D _ ej] at e; exact ⟨j, hj, e⟩
    obtain ⟨j', hj', e'⟩ := hje
    obtain ⟨h1, h2, h3, h4⟩ := h.fz j' hj' q e'
    have hns : ∀ j2, j2 < k → ¬ (setD D i ⟨(D i).p, S2, fu2, d2⟩ j2).S q := fun j2 hj2 hs => h4 j2 hj2 (hS j2 hj2 q h1.lt hs)
    by_cases eq : (D i).fu = some q
    · have hz : setZ Z (D i).fu f2 q = f2.getD (0, false) := by unfold setZ; rw [if_pos eq]
      rw [hz]
      rw [eq] at hf
      match f2, hf with
      | some (n, g), hf => exact ⟨hf.1, hf.2.2, h3, hns⟩
    · have hz : setZ Z (D i).fu f2 q = Z q := by unfold setZ; rw [if_neg eq]
      rw [hz]
      exact ⟨h1.keep (ho.block q h1.lt fun e2 => e2.elim (h4 i hi) eq), h2, h3, hns⟩
  · by_cases e1 : a = i
    · subst e1
      have hc' := hc
      rw [setD_same] at hc'
      rw [setD_ne D _ (Ne.symm hab)] at hc2
      exact h.dj b a hb ha (Ne.symm hab) c hc2 (hS a ha c (h.lt hb c hc2) hc)
    · rw [setD_ne D _ e1] at hc
      exact h.dj a b ha hb hab c hc (hS b hb c (h.lt ha c hc) hc2)
  · by_cases e : j = i
    · subst e; rw [setD_same] at hb
      rcases hg.2 b hb with hb | hb
      · exact h.ge j hj b hb
      · exact Nat.le_trans h.be.size hb
    · rw [setD_ne D _ e] at hb; exact h.ge j hj b hb
  · exact ⟨ho.os.trans h.be.os, ho.tape.trans h.be.tape, ho.output.trans h.be.output, Nat.le_trans h.be.size ho.size, fun b hb => (ho.block b (Nat.lt_of_lt_of_le hb h.be.size) (fun e => by
      rcases e with e | e
      · have := h.ge i hi b e; omega
      · have := (h.fz i hi b e).2.2.1; omega)).trans (h.be.block b hb)⟩
def stD (D : Nat → Dv) (i : Nat) (S2 : Nat → Prop) (r : Nat × Pd × Fs) : Nat → Dv := setD D i ⟨(D i).p, S2, (D i).fu, r.2.1⟩
/-- What a call of drive i leaves that answers r. -/
def Stepped (w : World) (k : Nat) (D : Nat → Dv) (Z : Nat → Nat × Bool) (i : Nat) (r : Nat × Pd × Fs) (e : Ending) (w' : World) : Prop :=
  e = .returned (.int .i64 (r.1 : Int)) ∧ ∃ S2, Sys w w' k (stD D i S2 r) (setZ Z (D i).fu r.2.2)
theorem Sys.done (h : Sys w wr k D Z) {i : Nat} (hi : i < k) {r : Nat × Pd × Fs} {e : Ending} {w' : World} (hD : Done wr (D i).S (D i).p (D i).fu r e w') : Stepped w k D Z i r e w' := by
  obtain ⟨h1, S2, hg, hd, hf, ho⟩ := hD
  exact ⟨h1, S2, h.turn hi hg hd (Or.inl rfl) hf ho⟩
theorem Sys.step (h : Sys w wr k D Z) {i : Nat} (hi : i < k) (x : AV) (hx : x.ok wr) (hn : x.bs.length ≤ 140737488355328) (ho : (D i).d.ops < 1000000000000) (hl : (D i).d.F.length < 1000000000000) :
    Calls Try.prog 35 #[ptr (D i).p, .agg x.val] wr (Stepped w k D Z i ((D i).d.step (fsOf Z (D i)) x)) := by
  obtain ⟨m, L, hd⟩ := h.dr i hi
  exact (step_any hd (h.fu hi) x hx hn ho hl).mono fun e w' hD => h.done hi hD
theorem Sys.up (h : Sys w wr k D Z) {i : Nat} (hi : i < k) : Calls Try.prog 34 #[ptr (D i).p] wr fun e w' => e = .returned (.bool ((D i).d.up (fsOf Z (D i)))) ∧ w' = wr := by
  obtain ⟨m, L, hd⟩ := h.dr i hi
  exact up_any hd (h.fu hi)
theorem Sys.ops (h : Sys w wr k D Z) {i : Nat} (hi : i < k) : Calls Try.prog 33 #[ptr (D i).p] wr fun e w' => e = .returned (.int .i64 ((D i).d.ops : Int)) ∧ w' = wr := by
  obtain ⟨m, L, hd⟩ := h.dr i hi
  exact ops_any hd
theorem Sys.crash (h : Sys w wr k D Z) {i : Nat} (hi : i < k) (po : Option Addr) (c : Nat) (ks : List Bool) (hk : KAt wr (D i).S po ks) (hkn : ks.length ≤ 1000000000) (hl : (D i).d.F.length < 1000000000000) :
    Calls Try.prog 30 #[ptr (D i).p, .slice po ks.length c] wr fun e w' => e = .returned (.int .i64 0) ∧ Sys w w' k (setD D i ⟨(D i).p, (D i).S, none, (D i).d.crash ks⟩) (setZ Z (D i).fu (fsOf Z (D i))) ∧ Only (D i).S wr w' := by
  obtain ⟨m, L, hd⟩ := h.dr i hi
  refine (crash_any hd po c ks hk hkn hl).mono fun e w' ⟨h1, h2, h3⟩ => ?_
  have ho : Only (D i).S wr w' := h3.mono fun b hb => hb.elim (fun e => e ▸ hd.sp) (fun e => e ▸ hd.sm)
  exact ⟨h1, h.turn hi (Grows.refl _ _) h2 (Or.inr rfl) ((h.fu hi).kept ho (fun q hq => (h.fu hi).ne q hq)) (ho.mono fun b hb => Or.inl hb), ho⟩
theorem setZ_same (Z : Nat → Nat × Bool) (x : Dv) : setZ Z x.fu (fsOf Z x) = Z := by
  funext b
  unfold setZ fsOf
  split
  · rename_i e; rw [e]; rfl
  · rfl
end
#print axioms Sys.turn
end Go.Proofs.Ytfppmpfmafnfmaa

/- Contract of Fuse of package drive, of two drives and of one. -/
namespace Go.Proofs.Ytfppmpfmafnfmaa
open Go Go.RowKit

def Pd.lit (d : Pd) (f : Fs) : Pd := { d with out := d.isOut f }
/-- What a fuse of two drives leaves. -/
def Fu2At (w : World) (S1 S2 : Nat → Prop) (p1 p2 : Nat) (d1 d2 : Pd) (n : Nat) (e : Ending) (w' : World) : Prop :=
  e = .returned (.int .i64 0) ∧ ∃ q, w.heap.size ≤ q ∧ DrAt w' S1 p1 (some q) d1 ∧ DrAt w' S2 p2 (some q) d2 ∧ CAt w' q #[.int .i64 (n : Int), .bool false] 81 ∧ Only (fun b => b = p1 ∨ b = p2) w w'
def Fu1At (w : World) (S1 : Nat → Prop) (p1 : Nat) (d1 : Pd) (n : Nat) (e : Ending) (w' : World) : Prop :=
  e = .returned (.int .i64 0) ∧ ∃ q, w.heap.size ≤ q ∧ DrAt w' S1 p1 (some q) d1 ∧ CAt w' q #[.int .i64 (n : Int), .bool false] 81 ∧ Only (fun b => b = p1) w w'
section
variable {w : World} {S1 S2 : Nat → Prop} {p1 m1 p2 m2 : Nat} {fu1 fu2 : Option Nat} {d1 d2 : Pd} {L1 L2 : List (Nm × Ent)}
/-- A fuse is no drive. -/
theorem FuAt.ne_drive {f : Fs} (hf : FuAt w S1 fu1 f) {p : Nat} {cs : Array Value} (hc : CAt w p cs 51) : ∀ q, fu1 = some q → q ≠ p := by
  intro q hq e
  match fu1, f, hf with
  | some q', some (n, g), hf =>
    cases hq
    have h1 : w.heap[q]? = _ := hf.1
    have h2 : w.heap[p]? = _ := hc
    rw [e, h2] at h1
    have ht := (Obj.cells.inj (Option.some.inj h1)).2.1
    revert ht; decide
theorem DrC.litC (h : DrC w S1 p1 m1 fu1 d1 L1) (o : Bool) (q : Nat) : DrC ((w.setCell ⟨p1, 7, none⟩ (.bool o)).setCell ⟨p1, 8, none⟩ (ptr q)) S1 p1 m1 (some q) { d1 with out := o } L1 :=
  (h.setC 7 (.bool o) (d2 := { d1 with out := o }) (fu2 := fu1) rfl rfl rfl).setC 8 (ptr q) (d2 := { d1 with out := o }) (fu2 := some q) rfl rfl rfl
set_option maxHeartbeats 1000000 in
set_option maxRecDepth 100000 in
theorem fuse2_any (h1 : DrC w S1 p1 m1 fu1 d1 L1) {f1 : Fs} (hf1 : FuAt w S1 fu1 f1) (h2 : DrC w S2 p2 m2 fu2 d2 L2) {f2 : Fs} (hf2 : FuAt w S2 fu2 f2) (hdj : ∀ b, S1 b → ¬ S2 b) (bl c : Nat) (hc : CAt w bl #[ptr p1, ptr p2] 23) (n : Nat) (hn : n ≤ 9223372036854775807) :
    Calls Try.prog 14 #[.slice (some ⟨bl, 0, none⟩) 2 c, .int .i64 (n : Int)] w (Fu2At w S1 S2 p1 p2 (d1.lit f1) (d2.lit f2) n) := by
  have H1 := hid h1
  have H2 := hid h2
  have HF1 := hid hf1
  have HF2 := hid hf2
  have HDJ := hid hdj
  have HM1 := hid (made_any h1)
  have HM2 := hid (made_any h2)
  have HBL := hid hc
  have b0 : w.cell? ⟨bl, 0, none⟩ = some (ptr p1) := hc.cell 0
  have b1 : w.cell? ⟨bl, 1, none⟩ = some (ptr p2) := hc.cell 1
  have hbl := hc.lt
  have hp1 := h1.c.lt
  have hp2 := h2.c.lt
  have hne : p1 ≠ p2 := fun e => hdj p1 h1.sp (e ▸ h2.sp)
  have hb1 := (h1.box_ne hc (by decide)).1
  have hb2 := (h2.box_ne hc (by decide)).1
  have HNE := hid (And.intro hne (And.intro hb1 hb2))
  have hn0 : ¬ (n : Int) < 0 := by omega
  have t1 : True := trivial
  have t2 : True := trivial
  clear h1 h2 hf1 hf2 hdj hc hne hb1 hb2
  go_enter Try.func14, Try.ntmps14
  go_wp2
  refine wp_loop_rounds 3 ?_
  rw [rounds_succ]
  go_wp2_with (go_at_call 40; refine HM1.out.mono ?_; rintro e w' ⟨rfl, hw'⟩; have hw2 := hw'.symm; subst hw2)
  rw [rounds_succ]
  go_wp2_with (go_at_call 40; refine HM2.out.mono ?_; rintro e w' ⟨rfl, hw'⟩; have hw2 := hw'.symm; subst hw2)
  rw [rounds_succ]
  go_wp2
  have HQ := hid (CAt.made w #[.int .i64 (n : Int), .bool false] 81)
  have HD1 := hid (H1.out.alloc (.cells #[.int .i64 (n : Int), .bool false] 81))
  have HD2 := hid (H2.out.alloc (.cells #[.int .i64 (n : Int), .bool false] 81))
  have HG1 := hid (HF1.out.alloc (.cells #[.int .i64 (n : Int), .bool false] 81))
  have HG2 := hid (HF2.out.alloc (.cells #[.int .i64 (n : Int), .bool false] 81))
  have HB := hid (HBL.out.old (.cells #[.int .i64 (n : Int), .bool false] 81))
  have HO := hid (Only.alloc (S := fun b => b = p1 ∨ b = p2) w (.cells #[.int .i64 (n : Int), .bool false] 81))
  clear HBL b0 b1
  generalize w.alloc (.cells #[.int .i64 (n : Int), .bool false] 81) = w0 at *
  have k0 : w0.cell? ⟨bl, 0, none⟩ = some (ptr p1) := HB.out.cell 0
  have a7 : w0.cell? ⟨p1, 7, none⟩ = some (.bool d1.out) := HD1.out.c.cell 7
  have a8 : w0.cell? ⟨p1, 8, none⟩ = some (fuV fu1) := HD1.out.c.cell 8
  have y7 : w0.frozen? ⟨p1, 7, none⟩ = false := HD1.out.c.free 7
  have y8 : w0.frozen? ⟨p1, 8, none⟩ = false := HD1.out.c.free 8
  have HIO1 := hid (isOut_any HD1.out HG1.out)
  refine wp_loop_rounds 3 ?_
  rw [rounds_succ]
  go_wp2_with (go_at_call 42; refine HIO1.out.mono ?_; rintro e w' ⟨rfl, hw'⟩; have hw2 := hw'.symm; subst hw2)
  have hk1 : ∀ b, b ≠ p1 → ((w0.setCell ⟨p1, 7, none⟩ (.bool (d1.isOut f1))).setCell ⟨p1, 8, none⟩ (ptr w.heap.size)).heap[b]? = w0.heap[b]? := fun b hb => (heap_setCell_ne _ _ _ _ hb).trans (heap_setCell_ne _ _ _ _ hb)
  have hz1 : ((w0.setCell ⟨p1, 7, none⟩ (.bool (d1.isOut f1))).setCell ⟨p1, 8, none⟩ (ptr w.heap.size)).heap.size = w0.heap.size := (setCell_size _ _ _).trans (setCell_size _ _ _)
  have HE1 := hid (HD1.out.litC (d1.isOut f1) w.heap.size)
  have HE2 := hid (HD2.out.keep (w' := (w0.setCell ⟨p1, 7, none⟩ (.bool (d1.isOut f1))).setCell ⟨p1, 8, none⟩ (ptr w.heap.size)) (Nat.le_of_eq hz1.symm) (fun b hb => hk1 b (fun e => HDJ.out p1 H1.out.sp (e ▸ hb))))
  have HH2 := hid (HG2.out.keep (w' := (w0.setCell ⟨p1, 7, none⟩ (.bool (d1.isOut f1))).setCell ⟨p1, 8, none⟩ (ptr w.heap.size)) (fun q hq => hk1 q (HG2.out.ne_drive HD1.out.c q hq)))
  have HQ1 := hid (HQ.out.keep (hk1 _ (by omega)))
  have HB1 := hid (HB.out.keep (hk1 _ HNE.out.2.1))
  have HO1 := hid ((HO.out.then (Only.set (S := fun b => b = p1 ∨ b = p2) w0 ⟨p1, 7, none⟩ (.bool (d1.isOut f1)) (Or.inl rfl)) (fun _ _ h => h)).then (Only.set (S := fun b => b = p1 ∨ b = p2) _ ⟨p1, 8, none⟩ (ptr w.heap.size) (Or.inl rfl)) (fun _ _ h => h))
  clear hk1 hz1 k0 a7 a8 y7 y8
  generalize ((w0.setCell ⟨p1, 7, none⟩ (.bool (d1.isOut f1))).setCell ⟨p1, 8, none⟩ (ptr w.heap.size)) = w1 at *
  have k1 : w1.cell? ⟨bl, 1, none⟩ = some (ptr p2) := HB1.out.cell 1
  have a7 : w1.cell? ⟨p2, 7, none⟩ = some (.bool d2.out) := HE2.out.c.cell 7
  have a8 : w1.cell? ⟨p2, 8, none⟩ = some (fuV fu2) := HE2.out.c.cell 8
  have y7 : w1.frozen? ⟨p2, 7, none⟩ = false := HE2.out.c.free 7
  have y8 : w1.frozen? ⟨p2, 8, none⟩ = false := HE2.out.c.free 8
  have HIO2 := hid (isOut_any HE2.out HH2.out)
  rw [rounds_succ]
  go_wp2_with (go_at_call 42; refine HIO2.out.mono ?_; rintro e w' ⟨rfl, hw'⟩; have hw2 := hw'.symm; subst hw2)
  have hk2 : ∀ b, b ≠ p2 → ((w1.setCell ⟨p2, 7, none⟩ (.bool (d2.isOut f2))).setCell ⟨p2, 8, none⟩ (ptr w.heap.size)).heap[b]? = w1.heap[b]? := fun b hb => (heap_setCell_ne _ _ _ _ hb).trans (heap_setCell_ne _ _ _ _ hb)
  have hz2 : ((w1.setCell ⟨p2, 7, none⟩ (.bool (d2.isOut f2))).setCell ⟨p2, 8, none⟩ (ptr w.heap.size)).heap.size = w1.heap.size := (setCell_size _ _ _).trans (setCell_size _ _ _)
  have HZ2 := hid (HE2.out.litC (d2.isOut f2) w.heap.size)
  have HZ1 := hid (HE1.out.keep (w' := (w1.setCell ⟨p2, 7, none⟩ (.bool (d2.isOut f2))).setCell ⟨p2, 8, none⟩ (ptr w.heap.size)) (Nat.le_of_eq hz2.symm) (fun b hb => hk2 b (fun e => HDJ.out b hb (e ▸ H2.out.sp))))
  have HQ2 := hid (HQ1.out.keep (hk2 _ (by omega)))
  have HO2 := hid ((HO1.out.then (Only.set (S := fun b => b = p1 ∨ b = p2) w1 ⟨p2, 7, none⟩ (.bool (d2.isOut f2)) (Or.inr rfl)) (fun _ _ h => h)).then (Only.set (S := fun b => b = p1 ∨ b = p2) _ ⟨p2, 8, none⟩ (ptr w.heap.size) (Or.inr rfl)) (fun _ _ h => h))
  clear hk2 hz2 k1 a7 a8 y7 y8
  generalize ((w1.setCell ⟨p2, 7, none⟩ (.bool (d2.isOut f2))).setCell ⟨p2, 8, none⟩ (ptr w.heap.size)) = w2 at *
  rw [rounds_succ]
  go_wp2
  go_ret
  exact ⟨rfl, w.heap.size, Nat.le_refl _, ⟨m1, L1, HZ1.out⟩, ⟨m2, L2, HZ2.out⟩, HQ2.out, HO2.out⟩
#print axioms fuse2_any
end
section
variable {w wr : World} {k : Nat} {D : Nat → Dv} {Z : Nat → Nat × Bool}
/-- Two drives have a fuse together. -/
theorem Sys.lit2 (h : Sys w wr k D Z) {i j : Nat} (hi : i < k) (hj : j < k) (hij : i ≠ j) {n : Nat} (hn : n ≤ 9223372036854775807) {w' : World} {q : Nat} {d1 d2 : Pd} (hq : wr.heap.size ≤ q) (h1 : DrAt w' (D i).S (D i).p (some q) d1) (h2 : DrAt w' (D j).S (D j).p (some q) d2) (hc : CAt w' q #[.int .i64 (n : Int), .bool false] 81)
    (ho : Only (fun b => b = (D i).p ∨ b = (D j).p) wr w') : Sys w w' k (setD (setD D i ⟨(D i).p, (D i).S, some q, d1⟩) j ⟨(D j).p, (D j).S, some q, d2⟩) (fun b => if b = q then (n, false) else Z b) := by
  have hS : ∀ a, (setD (setD D i ⟨(D i).p, (D i).S, some q, d1⟩) j ⟨(D j).p, (D j).S, some q, d2⟩ a).S = (D a).S := fun a => by
    by_cases e1 : a = j
    · subst e1; rw [setD_same]
    · rw [setD_ne _ _ e1]
      by_cases e2 : a = i
      · subst e2; rw [setD_same]
      · rw [setD_ne _ _ e2]
  have hSp : ∀ a, a < k → (D a).S (D a).p := fun a ha => by obtain ⟨m, L, hd⟩ := h.dr a ha; exact hd.sp
  have hnp : ∀ a b, a < k → b = (D i).p ∨ b = (D j).p → a ≠ i → a ≠ j → ¬ (D a).S b := fun a b ha e h1 h2 hs => by
    rcases e with rfl | rfl
    · exact h.dj a i ha hi h1 _ hs (hSp i hi)
    · exact h.dj a j ha hj h2 _ hs (hSp j hj)
  have hfp : ∀ a, a < k → ∀ q2, (D a).fu = some q2 → q2 ≠ (D i).p ∧ q2 ≠ (D j).p := fun a ha q2 e => ⟨fun e2 => (h.fz a ha q2 e).2.2.2 i hi (e2 ▸ hSp i hi), fun e2 => (h.fz a ha q2 e).2.2.2 j hj (e2 ▸ hSp j hj)⟩
  have hold : ∀ a, a < k → ∀ q2, (D a).fu = some q2 → CAt w' q2 #[.int .i64 (((if q2 = q then (n, false) else Z q2 : Nat × Bool)).1 : Int), .bool (if q2 = q then (n, false) else Z q2 : Nat × Bool).2] 81 ∧ (if q2 = q then (n, false) else Z q2 : Nat × Bool).1 ≤ 9223372036854775807 ∧ w.heap.size ≤ q2 ∧ ∀ b, b < k → ¬ (D b).S q2 := fun a ha q2 e => by
    obtain ⟨g1, g2, g3, g4⟩ := h.fz a ha q2 e
    have hl := g1.lt
    rw [if_neg (by omega)]
    exact ⟨g1.keep (ho.block q2 hl (fun e2 => e2.elim (hfp a ha q2 e).1 (hfp a ha q2 e).2)), g2, g3, g4⟩
  have hnew : CAt w' q #[.int .i64 (((if q = q then (n, false) else Z q : Nat × Bool)).1 : Int), .bool (if q = q then (n, false) else Z q : Nat × Bool).2] 81 ∧ (if q = q then (n, false) else Z q : Nat × Bool).1 ≤ 9223372036854775807 ∧ w.heap.size ≤ q ∧ ∀ b, b < k → ¬ (D b).S q := by
    rw [if_pos rfl]
    exact ⟨hc, hn, Nat.le_trans h.be.size hq, fun b hb hs => by have := h.lt hb q hs; omega⟩
  refine ⟨fun a ha => ?_, fun a ha q2 e => ?_, fun a b ha hb hab c hc1 hc2 => ?_, fun a ha b hb => ?_, ?_⟩
  · by_cases e1 : a = j
    · subst e1; rw [setD_same]; exact h2
    · rw [setD_ne _ _ e1]
      by_cases e2 : a = i
      · subst e2; rw [setD_same]; exact h1
      · rw [setD_ne _ _ e2]
        exact (h.dr a ha).keep ho.size fun b hb => ho.block b (h.lt ha b hb) fun e => hnp a b ha e e2 e1 hb
  · have hx : (∀ b, b < k → ¬ (setD (setD D i ⟨(D i).p, (D i).S, some q, d1⟩) j ⟨(D j).p, (D j).S, some q, d2⟩ b).S q2) ↔ ∀ b, b < k → ¬ (D b).S q2 := by simp only [hS]
    rw [hx]
    by_cases e1 : a = j
    · subst e1; rw [setD_same] at e; cases e; exact hnew
    · rw [setD_ne _ _ e1] at e
      by_cases e2 : a = i
      · subst e2; rw [setD_same] at e; cases e; exact hnew
      · rw [setD_ne _ _ e2] at e; exact hold a ha q2 e
  · rw [hS] at hc1 hc2; exact h.dj a b ha hb hab c hc1 hc2
  · rw [hS] at hb; exact h.ge a ha b hb
  · exact ⟨ho.os.trans h.be.os, ho.tape.trans h.be.tape, ho.output.trans h.be.output, Nat.le_trans h.be.size ho.size, fun b hb => (ho.block b (Nat.lt_of_lt_of_le hb h.be.size) (fun e => by
      rcases e with rfl | rfl
      · have := h.ge i hi _ (hSp i hi); omega
      · have := h.ge j hj _ (hSp j hj); omega)).trans (h.be.block b hb)⟩
#print axioms Sys.lit2
end
end Go.Proofs.Ytfppmpfmafnfmaa

/- Contract of Turn of package drive. -/
namespace Go.Proofs.Ytfppmpfmafnfmaa
open Go Go.RowKit

/-- A byte turned. -/
def turnB (bs : List Nat) (i : Nat) (mask : Nat) : List Nat := bs.set i (bs.getD i 0 ^^^ mask)
def gmod (F : List (Nm × Fi)) (s : Nm) (i mask : Nat) : List (Nm × Fi) := F.map fun p => if p.1 = s then (p.1, (turnB p.2.1 i mask, p.2.2)) else p
def Pd.turn (d : Pd) (s : Nm) (a : Int) (mask : Nat) : Nat × Pd :=
  match gget d.F s with
  | none => (6, d)
  | some x => if a < 0 ∨ (x.1.length : Int) ≤ a then (5, d) else (0, { d with F := gmod d.F s a.toNat mask })
def TurnAt (w : World) (S : Nat → Prop) (p : Nat) (fu : Option Nat) (r : Nat × Pd) (e : Ending) (w' : World) : Prop :=
  e = .returned (.int .i64 (r.1 : Int)) ∧ DrAt w' S p fu r.2 ∧ Only S w w'
def emod (s : Nm) (i mask : Nat) (p : Nm × Ent) : Nm × Ent := if p.1 = s then (p.1, ⟨p.2.v, turnB p.2.b i mask, p.2.l⟩) else p
section
variable {w : World} {S : Nat → Prop} {p m : Nat} {fu : Option Nat} {d : Pd} {L : List (Nm × Ent)}
theorem turnB_len (bs : List Nat) (i mask : Nat) : (turnB bs i mask).length = bs.length := by simp [turnB]
theorem emod_fst (s : Nm) (i mask : Nat) (q : Nm × Ent) : (emod s i mask q).1 = q.1 := by unfold emod; split <;> rfl
theorem emod_v (s : Nm) (i mask : Nat) (q : Nm × Ent) : (emod s i mask q).2.v = q.2.v := by unfold emod; split <;> rfl
theorem emod_l (s : Nm) (i mask : Nat) (q : Nm × Ent) : (emod s i mask q).2.l = q.2.l := by unfold emod; split <;> rfl
theorem emod_enc (s : Nm) (i mask : Nat) (L : List (Nm × Ent)) : mapD (L.map (emod s i mask)) = mapD L := by
  unfold mapD; rw [List.map_map]; congr 1
  refine List.map_congr_left fun q _ => ?_
  unfold Function.comp encE; rw [emod_fst, emod_v, emod_l]
theorem gmod_used (F : List (Nm × Fi)) (s : Nm) (i mask : Nat) : usedOf (gmod F s i mask) = usedOf F := by
  unfold usedOf gmod; rw [List.map_map]; congr 1
  refine List.map_congr_left fun q _ => ?_
  by_cases hq : q.1 = s <;> simp [hq, turnB_len]
theorem xor_lt {a b : Nat} (ha : a < 256) (hb : b < 256) : a ^^^ b < 256 := Nat.xor_lt_two_pow (n := 8) ha hb
/-- One byte of a file's row is written. -/
theorem DrC.turned1 (h : DrC w S p m fu d L) {s : Nm} {e : Ent} (hg : gget L s = some e) {g c : Nat} (hv : e.v = .slice (some ⟨g, 0, none⟩) e.b.length c) (i mask : Nat) (_hi : i < e.b.length) (hm : mask < 256) :
    DrC (w.setCell ⟨g, i, none⟩ (u8 (e.b.getD i 0 ^^^ mask))) S p m fu { d with F := gmod d.F s i mask } (L.map (emod s i mask)) := by
  have hmem := gget_mem hg
  have hgb : e.v.ownBlock = some g := by rw [hv]; rfl
  have hne := h.file_ne hmem hgb
  have hother : ∀ x ∈ L, x.1 ≠ s → x.2.v.ownBlock ≠ some g := fun x hx hxs hb => by
    have := h.apOf hg x (mem_del.2 ⟨hx, hxs⟩)
    rcases this with h1 | h1
    · rw [h1] at hb; cases hb
    · exact h1 (by rw [hb, hgb])
  have hk : ∀ b, b ≠ g → (w.setCell ⟨g, i, none⟩ (u8 (e.b.getD i 0 ^^^ mask))).heap[b]? = w.heap[b]? := fun b hb => heap_setCell_ne _ _ _ _ hb
  refine { c := ?_, mp := ?_, fs := ?_, ow := fun x hx => ?_, ap := ?_, by8 := fun x hx y hy => ?_, so := ?_, nm := fun x hx => ?_, sp := h.sp, sm := h.sm, sf := fun x hx b hb => ?_, lt := fun b hb => by rw [setCell_size]; exact h.lt b hb, us := ?_, sz := h.sz }
  · have := h.c.keep (hk p hne.1.symm)
    have e1 : dcells p m fu { d with F := gmod d.F s i mask } (usedOf (gmod d.F s i mask) : Int) = dcells p m fu d (usedOf d.F : Int) := by rw [gmod_used]; rfl
    rw [e1]; exact this
  · rw [emod_enc, List.length_map]; exact ownsMap_keep h.mp (hk m hne.2.symm)
  · show gmod d.F s i mask = _
    rw [h.fs]; unfold gmod gmap; rw [List.map_map, List.map_map]
    refine List.map_congr_left fun q _ => ?_
    by_cases hq : q.1 = s <;> simp [emod, hq, Ent.fi]
  · obtain ⟨y, hy, rfl⟩ := List.mem_map.1 hx
    by_cases hys : y.1 = s
    · have hye : y.2 = e := by
        have := pw_key h.so.apart hy hmem hys
        rw [this]
      have e1 : (emod s i mask y).2 = ⟨y.2.v, turnB y.2.b i mask, y.2.l⟩ := by unfold emod; rw [if_pos hys]
      rw [e1, hye]
      have ho := h.ow y hy
      rw [hye] at ho
      simp only [turnB_len]
      rw [hv] at ho ⊢
      obtain ⟨h1, h2⟩ := ho
      refine ⟨by simp [turnB], ?_⟩
      rcases h2 with ⟨h3, _⟩ | ⟨g', cap, cur, h3, h4, h5, h6, h7, h8, h9⟩
      · cases h3
      · cases h3
        have hca : CAt w g cur 5 := h5
        refine Or.inr ⟨g, c, cur.setIfInBounds i (u8 (e.b.getD i 0 ^^^ mask)), rfl, h4, hca.set i _, h6, h7, by simpa using h8, ?_⟩
        rw [Array.toList_setIfInBounds, List.take_set, h9]
        unfold turnB
        rw [List.map_set]
    · have e1 : emod s i mask y = y := by unfold emod; rw [if_neg hys]
      rw [e1]
      exact ownsRow_keep (h.ow y hy) fun b hb => hk b fun e => hother y hy hys (by rw [hb, e])
  · refine List.pairwise_map.2 (h.ap.imp fun {a b} hab => ?_)
    rw [emod_v, emod_v]; exact hab
  · obtain ⟨z, hz, rfl⟩ := List.mem_map.1 hx
    unfold emod at hy
    split at hy
    · simp only [turnB] at hy
      rcases List.mem_or_eq_of_mem_set hy with h1 | h1
      · exact h.by8 z hz y h1
      · rw [h1]
        refine xor_lt ?_ hm
        by_cases hl : i < z.2.b.length
        · rw [getD_in _ _ _ hl]; exact h.by8 z hz _ (List.getElem_mem hl)
        · have : z.2.b.getD i 0 = 0 := by simp [List.getD, List.getElem?_eq_none (Nat.le_of_not_lt hl)]
          rw [this]; omega
    · exact h.by8 z hz y hy
  · refine List.pairwise_map.2 (h.so.imp fun {a b} hab => ?_)
    rw [emod_fst, emod_fst]; exact hab
  · obtain ⟨z, hz, rfl⟩ := List.mem_map.1 hx
    rw [emod_fst]; exact h.nm z hz
  · obtain ⟨z, hz, rfl⟩ := List.mem_map.1 hx
    rw [emod_v] at hb; exact h.sf z hz b hb
  · show usedOf (gmod d.F s i mask) ≤ d.size
    rw [gmod_used]; exact h.us
set_option maxHeartbeats 1000000 in
set_option maxRecDepth 100000 in
theorem turn_any (h : DrC w S p m fu d L) (s : Nm) (hs : s.length ≤ maxLen) (a : Int) (ha : -9223372036854775808 ≤ a ∧ a ≤ 9223372036854775807) (mask : Nat) (hm : mask < 256) :
    Calls Try.prog 29 #[ptr p, sv s, .int .i64 a, .int .u8 (mask : Int)] w (TurnAt w S p fu (d.turn s a mask)) := by
  have H := hid h
  have hmade := made_any h
  have c2 : w.cell? ⟨p, 2, none⟩ = some (.map (some m)) := h.c.cell 2
  have hp := h.c.lt
  clear h
  cases hg : gget L s with
  | none =>
    have HE : Hid (d.turn s a mask = (6, d)) := hid (by unfold Pd.turn; rw [H.out.fs, gget_map, hg]; rfl)
    go_enter Try.func29, Try.ntmps29
    go_wp2_with (first
      | (go_at_call 40; refine hmade.mono ?_; rintro e w' ⟨rfl, hw'⟩; have hw2 := hw'.symm; subst hw2)
      | (at_lookup; refine wpList_look _ rfl _ _ true rfl H.out.mp hs rfl rfl (r := .tuple #[.agg #[.slice none 0 0, .bool false], .bool false]) (by rw [hg]; rfl) ?_))
    go_ret
    rw [HE.out]
    exact ⟨rfl, ⟨m, L, H.out.alloc _⟩, Only.alloc _ _⟩
  | some e =>
    obtain ⟨po, cc, hev⟩ := own_form (H.out.ow _ (gget_mem hg))
    simp only at hev
    have HEV := hid hev
    clear hev
    have HGF : Hid (gget d.F s = some (e.b, e.l)) := hid (by rw [H.out.fs, gget_map, hg]; rfl)
    by_cases hr : a < 0 ∨ (e.b.length : Int) ≤ a
    · have HE : Hid (d.turn s a mask = (5, d)) := hid (by unfold Pd.turn; rw [HGF.out]; simp only; rw [if_pos hr])
      by_cases h0 : a < 0
      · go_enter Try.func29, Try.ntmps29
        go_wp2_with (first
          | (go_at_call 40; refine hmade.mono ?_; rintro e w' ⟨rfl, hw'⟩; have hw2 := hw'.symm; subst hw2)
          | (at_lookup; refine wpList_look _ rfl _ _ true rfl H.out.mp hs rfl rfl (r := .tuple #[.agg #[.slice po e.b.length cc, .bool e.l], .bool true]) (by rw [hg, ← HEV.out]; rfl) ?_))
        go_ret
        rw [HE.out]
        exact ⟨rfl, ⟨m, L, H.out.alloc _⟩, Only.alloc _ _⟩
      · have h1 : (e.b.length : Int) ≤ a := by omega
        go_enter Try.func29, Try.ntmps29
        go_wp2_with (first
          | (go_at_call 40; refine hmade.mono ?_; rintro e w' ⟨rfl, hw'⟩; have hw2 := hw'.symm; subst hw2)
          | (at_lookup; refine wpList_look _ rfl _ _ true rfl H.out.mp hs rfl rfl (r := .tuple #[.agg #[.slice po e.b.length cc, .bool e.l], .bool true]) (by rw [hg, ← HEV.out]; rfl) ?_))
        go_ret
        rw [HE.out]
        exact ⟨rfl, ⟨m, L, H.out.alloc _⟩, Only.alloc _ _⟩
    · obtain ⟨i, rfl⟩ : ∃ i : Nat, a = (i : Int) := ⟨a.toNat, by omega⟩
      have hi : i < e.b.length := by omega
      have HE : Hid (d.turn s (i : Int) mask = (0, { d with F := gmod d.F s i mask })) := hid (by unfold Pd.turn; rw [HGF.out]; simp only; rw [if_neg hr]; rfl)
      have hrow : ∃ g, po = some ⟨g, 0, none⟩ := by
        rcases (H.out.ow _ (gget_mem hg)).2 with ⟨h1, h2⟩ | ⟨g, cap, cur, h1, _⟩
        · simp only at h2; omega
        · simp only at h1; rw [HEV.out] at h1; cases h1; exact ⟨g, rfl⟩
      obtain ⟨g, rfl⟩ := hrow
      have HD := hid (H.out.turned1 hg HEV.out i mask hi hm)
      have hgb : e.v.ownBlock = some g := by rw [HEV.out]; rfl
      have hgl : g < w.heap.size := H.out.lt g (H.out.sf _ (gget_mem hg) g hgb)
      have hcell : w.cell? ⟨g, i, none⟩ = some (.int .u8 ((e.b.getD i 0 : Nat) : Int)) := by
        have := H.out.ow _ (gget_mem hg)
        simp only at this
        rw [HEV.out] at this
        rcases own_BAt this with ⟨h1, _⟩ | ⟨a', h1, h2⟩
        · cases h1
        · cases h1
          have h3 := h2 i hi
          rw [add_none] at h3
          rw [Nat.zero_add] at h3; exact h3
      have hfr : w.frozen? ⟨g, i, none⟩ = false := by
        obtain ⟨cur, hc⟩ := H.out.file_at (gget_mem hg) hgb
        exact CAt.free (cs := cur) (t := 5) hc i
      have hx8 : e.b.getD i 0 < 256 := by rw [getD_in _ _ _ hi]; exact H.out.by8 _ (gget_mem hg) _ (List.getElem_mem hi)
      have hxor : bits .xor .u8 ((e.b.getD i 0 : Nat) : Int) (mask : Int) = (((e.b.getD i 0 ^^^ mask : Nat)) : Int) := u8_xor_nat _ _ hx8 hm
      have HS := hid (H.out.sf _ (gget_mem hg) g hgb)
      have h1 : ¬ (i : Int) < 0 := by omega
      have h2 : ¬ (e.b.length : Int) ≤ (i : Int) := by omega
      unfold u8 at HD
      generalize e.b.getD i 0 ^^^ mask = y at *
      generalize e.b.getD i 0 = z at *
      clear hr hgb
      go_enter Try.func29, Try.ntmps29
      go_wp2_with (first
        | (go_at_call 40; refine hmade.mono ?_; rintro e w' ⟨rfl, hw'⟩; have hw2 := hw'.symm; subst hw2)
        | (at_lookup; refine wpList_look _ rfl _ _ true rfl H.out.mp hs rfl rfl (r := .tuple #[.agg #[.slice (some ⟨g, 0, none⟩) e.b.length cc, .bool e.l], .bool true]) (by rw [hg, ← HEV.out]; rfl) ?_))
      go_ret
      rw [HE.out]
      exact ⟨rfl, ⟨m, _, HD.out.alloc _⟩, (Only.set (S := S) w ⟨g, i, none⟩ _ HS.out).then (Only.alloc (S := S) _ _) (fun _ _ h => h)⟩
#print axioms turn_any
end
end Go.Proofs.Ytfppmpfmafnfmaa

/- Four drives, two of them with a fuse: what the statement on fuses carries. -/
namespace Go.Proofs.Ytfppmpfmafnfmaa
open Go Go.RowKit

section
variable (d : Pd) (x : AV)
theorem ans_fs (l : Nat) (ns : List Nm) : d.ans (some (l, false)) ns = d.ans none ns := by unfold Pd.ans Pd.isOut goneF; simp
theorem ans_gone (l : Nat) (ns : List Nm) : d.ans (some (l, true)) ns = 11 := by unfold Pd.ans Pd.isOut goneF; simp
theorem chg_none (F : List (Nm × Fi)) : d.chg none F = (0, { d with F := F, ops := d.ops + 1 }, none) := rfl
theorem chg_zero (F : List (Nm × Fi)) : d.chg (some (0, false)) F = (11, d, some (0, true)) := rfl
theorem chg_succ (l : Nat) (F : List (Nm × Fi)) : d.chg (some (l + 1, false)) F = (0, { d with F := F, ops := d.ops + 1 }, some (l, false)) := rfl
/-- A step with a fuse beside one without. -/
structure StepRel (r0 : Nat × Pd × Fs) (rf : Nat → Nat × Pd × Fs) : Prop where
  ok : r0.1 = 0 → rf 0 = (11, d, some (0, true)) ∧ (∀ l, rf (l + 1) = (0, r0.2.1, some (l, false))) ∧ r0.2.1.ops = d.ops + 1
  no : r0.1 ≠ 0 → r0.2.1 = d ∧ ∀ l, rf l = (r0.1, d, some (l, false))
theorem rel_chg (F : List (Nm × Fi)) : StepRel d (d.chg none F) (fun l => d.chg (some (l, false)) F) :=
  ⟨fun _ => ⟨rfl, fun _ => rfl, rfl⟩, fun h => absurd rfl h⟩
theorem rel_err {e : Nat} (he : e ≠ 0) : StepRel d (e, d, none) (fun l => (e, d, some (l, false))) := ⟨fun h => absurd h he, fun _ => ⟨rfl, fun _ => rfl⟩⟩
theorem step_rel : StepRel d (d.step none x) (fun l => d.step (some (l, false)) x) := by
  unfold Pd.step
  split
  · unfold Pd.write
    simp only [ans_fs]
    by_cases h1 : d.ans none [x.A] ≠ 0
    · simp only [if_pos h1]; exact rel_err d h1
    · simp only [if_neg h1]
      by_cases h2 : (d.full || decide (d.size < usedOf (gdel d.F x.A) + x.bs.length)) = true
      · simp only [if_pos h2]; exact rel_err d (by decide)
      · simp only [if_neg h2]; exact rel_chg d _
  · unfold Pd.sync
    simp only [ans_fs]
    by_cases h1 : d.ans none [x.A] ≠ 0
    · simp only [if_pos h1]; exact rel_err d h1
    · simp only [if_neg h1]
      cases gget d.F x.A with
      | none => exact rel_err d (by decide)
      | some y => exact rel_chg d _
  · unfold Pd.rename
    simp only [ans_fs]
    by_cases h1 : d.ans none [x.A, x.C] ≠ 0
    · simp only [if_pos h1]; exact rel_err d h1
    · simp only [if_neg h1]
      cases gget d.F x.A with
      | none => exact rel_err d (by decide)
      | some y => exact rel_chg d _
  · unfold Pd.delete
    simp only [ans_fs]
    by_cases h1 : d.ans none [x.A] ≠ 0
    · simp only [if_pos h1]; exact rel_err d h1
    · simp only [if_neg h1]
      cases gget d.F x.A with
      | none => exact rel_err d (by decide)
      | some y => exact rel_chg d _
theorem step_gone (l : Nat) : d.step (some (l, true)) x = (11, d, some (l, true)) := by
  unfold Pd.step Pd.write Pd.sync Pd.rename Pd.delete
  simp only [ans_gone]
  split <;> rfl
end
def D4 (pa pb pc pd q : Nat) (Sa Sb Sc Sd : Nat → Prop) (da db dc dd : Pd) : Nat → Dv
  | 0 => ⟨pa, Sa, some q, da⟩
  | 1 => ⟨pb, Sb, some q, db⟩
  | 2 => ⟨pc, Sc, none, dc⟩
  | _ => ⟨pd, Sd, none, dd⟩
theorem Sys.congr {w wr : World} {k : Nat} {D D' : Nat → Dv} {Z : Nat → Nat × Bool} (h : Sys w wr k D Z) (e : ∀ i, i < k → D' i = D i) : Sys w wr k D' Z :=
  ⟨fun i hi => by rw [e i hi]; exact h.dr i hi, fun i hi q hq => by
    rw [e i hi] at hq
    obtain ⟨h1, h2, h3, h4⟩ := h.fz i hi q hq
    exact ⟨h1, h2, h3, fun j hj => by rw [e j hj]; exact h4 j hj⟩, fun i j hi hj hij => by rw [e i hi, e j hj]; exact h.dj i j hi hj hij, fun i hi => by rw [e i hi]; exact h.ge i hi, h.be⟩
/-- Four drives; the first two have the fuse at q, which stands at z. -/
def FZ (w wr : World) (pa pb pc pd q : Nat) (da db dc dd : Pd) (z : Nat × Bool) : Prop := ∃ Sa Sb Sc Sd Z, Sys w wr 4 (D4 pa pb pc pd q Sa Sb Sc Sd da db dc dd) Z ∧ Z q = z
section
variable {w wr : World} {pa pb pc pd q : Nat} {da db dc dd : Pd} {z : Nat × Bool}
theorem FZ.below (h : FZ w wr pa pb pc pd q da db dc dd z) {w' : World} (hb : Below wr.heap.size wr w') : FZ w w' pa pb pc pd q da db dc dd z := by
  obtain ⟨Sa, Sb, Sc, Sd, Z, hs, hz⟩ := h
  exact ⟨Sa, Sb, Sc, Sd, Z, hs.below hb, hz⟩
theorem FZ.be (h : FZ w wr pa pb pc pd q da db dc dd z) : Below w.heap.size w wr := by obtain ⟨_, _, _, _, _, hs, _⟩ := h; exact hs.be
theorem FZ.step0 (h : FZ w wr pa pb pc pd q da db dc dd z) (x : AV) (hx : x.ok wr) (hn : x.bs.length ≤ 140737488355328) (ho : da.ops < 1000000000000) (hl : da.F.length < 1000000000000) :
    Calls Try.prog 35 #[ptr pa, .agg x.val] wr fun e w' => e = .returned (.int .i64 ((da.step (some z) x).1 : Int)) ∧ FZ w w' pa pb pc pd q (da.step (some z) x).2.1 db dc dd ((da.step (some z) x).2.2.getD (0, false)) := by
  obtain ⟨Sa, Sb, Sc, Sd, Z, hs, rfl⟩ := h
  refine (hs.step (i := 0) (by omega) x hx hn ho hl).mono fun e w' ⟨h1, S2, h2⟩ => ⟨h1, S2, Sb, Sc, Sd, setZ Z (some q) (da.step (some (Z q)) x).2.2, ?_, ?_⟩
  · refine h2.congr fun i hi => ?_
    have : i = 0 ∨ i = 1 ∨ i = 2 ∨ i = 3 := by omega
    rcases this with rfl | rfl | rfl | rfl <;> rfl
  · unfold setZ; rw [if_pos rfl]
theorem FZ.step1 (h : FZ w wr pa pb pc pd q da db dc dd z) (x : AV) (hx : x.ok wr) (hn : x.bs.length ≤ 140737488355328) (ho : db.ops < 1000000000000) (hl : db.F.length < 1000000000000) :
    Calls Try.prog 35 #[ptr pb, .agg x.val] wr fun e w' => e = .returned (.int .i64 ((db.step (some z) x).1 : Int)) ∧ FZ w w' pa pb pc pd q da (db.step (some z) x).2.1 dc dd ((db.step (some z) x).2.2.getD (0, false)) := by
  obtain ⟨Sa, Sb, Sc, Sd, Z, hs, rfl⟩ := h
  refine (hs.step (i := 1) (by omega) x hx hn ho hl).mono fun e w' ⟨h1, S2, h2⟩ => ⟨h1, Sa, S2, Sc, Sd, setZ Z (some q) (db.step (some (Z q)) x).2.2, ?_, ?_⟩
  · refine h2.congr fun i hi => ?_
    have : i = 0 ∨ i = 1 ∨ i = 2 ∨ i = 3 := by omega
    rcases this with rfl | rfl | rfl | rfl <;> rfl
  · unfold setZ; rw [if_pos rfl]
theorem FZ.step2 (h : FZ w wr pa pb pc pd q da db dc dd z) (x : AV) (hx : x.ok wr) (hn : x.bs.length ≤ 140737488355328) (ho : dc.ops < 1000000000000) (hl : dc.F.length < 1000000000000) :
    Calls Try.prog 35 #[ptr pc, .agg x.val] wr fun e w' => e = .returned (.int .i64 ((dc.step none x).1 : Int)) ∧ FZ w w' pa pb pc pd q da db (dc.step none x).2.1 dd z := by
  obtain ⟨Sa, Sb, Sc, Sd, Z, hs, rfl⟩ := h
  refine (hs.step (i := 2) (by omega) x hx hn ho hl).mono fun e w' ⟨h1, S2, h2⟩ => ⟨h1, Sa, Sb, S2, Sd, setZ Z none (dc.step none x).2.2, ?_, ?_⟩
  · refine h2.congr fun i hi => ?_
    have : i = 0 ∨ i = 1 ∨ i = 2 ∨ i = 3 := by omega
    rcases this with rfl | rfl | rfl | rfl <;> rfl
  · unfold setZ; rw [if_neg (by simp)]
theorem FZ.step3 (h : FZ w wr pa pb pc pd q da db dc dd z) (x : AV) (hx : x.ok wr) (hn : x.bs.length ≤ 140737488355328) (ho : dd.ops < 1000000000000) (hl : dd.F.length < 1000000000000) :
    Calls Try.prog 35 #[ptr pd, .agg x.val] wr fun e w' => e = .returned (.int .i64 ((dd.step none x).1 : Int)) ∧ FZ w w' pa pb pc pd q da db dc (dd.step none x).2.1 z := by
  obtain ⟨Sa, Sb, Sc, Sd, Z, hs, rfl⟩ := h
  refine (hs.step (i := 3) (by omega) x hx hn ho hl).mono fun e w' ⟨h1, S2, h2⟩ => ⟨h1, Sa, Sb, Sc, S2, setZ Z none (dd.step none x).2.2, ?_, ?_⟩
  · refine h2.congr fun i hi => ?_
    have : i = 0 ∨ i = 1 ∨ i = 2 ∨ i = 3 := by omega
    rcases this with rfl | rfl | rfl | rfl <;> rfl
  · unfold setZ; rw [if_neg (by simp)]
theorem FZ.up0 (h : FZ w wr pa pb pc pd q da db dc dd z) : Calls Try.prog 34 #[ptr pa] wr fun e w' => e = .returned (.bool (da.up (some z))) ∧ w' = wr := by
  obtain ⟨Sa, Sb, Sc, Sd, Z, hs, rfl⟩ := h; exact hs.up (i := 0) (by omega)
theorem FZ.up1 (h : FZ w wr pa pb pc pd q da db dc dd z) : Calls Try.prog 34 #[ptr pb] wr fun e w' => e = .returned (.bool (db.up (some z))) ∧ w' = wr := by
  obtain ⟨Sa, Sb, Sc, Sd, Z, hs, rfl⟩ := h; exact hs.up (i := 1) (by omega)
theorem FZ.ops0 (h : FZ w wr pa pb pc pd q da db dc dd z) : Calls Try.prog 33 #[ptr pa] wr fun e w' => e = .returned (.int .i64 (da.ops : Int)) ∧ w' = wr := by
  obtain ⟨Sa, Sb, Sc, Sd, Z, hs, rfl⟩ := h; exact hs.ops (i := 0) (by omega)
theorem FZ.ops1 (h : FZ w wr pa pb pc pd q da db dc dd z) : Calls Try.prog 33 #[ptr pb] wr fun e w' => e = .returned (.int .i64 (db.ops : Int)) ∧ w' = wr := by
  obtain ⟨Sa, Sb, Sc, Sd, Z, hs, rfl⟩ := h; exact hs.ops (i := 1) (by omega)
theorem FZ.ops2 (h : FZ w wr pa pb pc pd q da db dc dd z) : Calls Try.prog 33 #[ptr pc] wr fun e w' => e = .returned (.int .i64 (dc.ops : Int)) ∧ w' = wr := by
  obtain ⟨Sa, Sb, Sc, Sd, Z, hs, rfl⟩ := h; exact hs.ops (i := 2) (by omega)
theorem FZ.ops3 (h : FZ w wr pa pb pc pd q da db dc dd z) : Calls Try.prog 33 #[ptr pd] wr fun e w' => e = .returned (.int .i64 (dd.ops : Int)) ∧ w' = wr := by
  obtain ⟨Sa, Sb, Sc, Sd, Z, hs, rfl⟩ := h; exact hs.ops (i := 3) (by omega)
end
#print axioms step_rel
end Go.Proofs.Ytfppmpfmafnfmaa

/- Two drives beside one another, each with a fuse, with one together, or with none. -/
namespace Go.Proofs.Ytfppmpfmafnfmaa
open Go Go.RowKit

structure Dl where
  p : Nat
  fu : Option Nat
  d : Pd
def D2 (a b : Dl) (S0 S1 : Nat → Prop) : Nat → Dv
  | 0 => ⟨a.p, S0, a.fu, a.d⟩
  | _ => ⟨b.p, S1, b.fu, b.d⟩
def SZ (w wr : World) (a b : Dl) (Z : Nat → Nat × Bool) : Prop := ∃ S0 S1, Sys w wr 2 (D2 a b S0 S1) Z
theorem lt2 {i : Nat} (h : i < 2) : i = 0 ∨ i = 1 := by omega
section
variable {w wr : World} {a b : Dl} {Z : Nat → Nat × Bool}
theorem SZ.be (h : SZ w wr a b Z) : Below w.heap.size w wr := by obtain ⟨_, _, hs⟩ := h; exact hs.be
theorem SZ.below (h : SZ w wr a b Z) {w' : World} (hb : Below wr.heap.size wr w') : SZ w w' a b Z := by obtain ⟨S0, S1, hs⟩ := h; exact ⟨S0, S1, hs.below hb⟩
theorem SZ.swap (h : SZ w wr a b Z) : SZ w wr b a Z := by
  obtain ⟨S0, S1, hs⟩ := h
  refine ⟨S1, S0, fun i hi => ?_, fun i hi q e => ?_, fun i j hi hj hij => ?_, fun i hi => ?_, hs.be⟩
  · rcases lt2 hi with rfl | rfl
    · exact hs.dr 1 (by omega)
    · exact hs.dr 0 (by omega)
  · rcases lt2 hi with rfl | rfl
    · obtain ⟨h1, h2, h3, h4⟩ := hs.fz 1 (by omega) q e
      exact ⟨h1, h2, h3, fun j hj => by rcases lt2 hj with rfl | rfl; exact h4 1 (by omega); exact h4 0 (by omega)⟩
    · obtain ⟨h1, h2, h3, h4⟩ := hs.fz 0 (by omega) q e
      exact ⟨h1, h2, h3, fun j hj => by rcases lt2 hj with rfl | rfl; exact h4 1 (by omega); exact h4 0 (by omega)⟩
  · rcases lt2 hi with rfl | rfl <;> rcases lt2 hj with rfl | rfl
    · exact absurd rfl hij
    · exact hs.dj 1 0 (by omega) (by omega) (by omega)
    · exact hs.dj 0 1 (by omega) (by omega) (by omega)
    · exact absurd rfl hij
  · rcases lt2 hi with rfl | rfl
    · exact hs.ge 1 (by omega)
    · exact hs.ge 0 (by omega)
/-- A call of the first drive that only looks. -/
theorem SZ.look (h : SZ w wr a b Z) {f : FuncId} {args : Array Value} {R : Ending → World → Prop} (hc : ∀ S m L, DrC wr S a.p m a.fu a.d L → FuAt wr S a.fu (a.fu.map Z) → Calls Try.prog f args wr R) : Calls Try.prog f args wr R := by
  obtain ⟨S0, S1, hs⟩ := h
  obtain ⟨m, L, hd⟩ := hs.dr 0 (by omega)
  exact hc S0 m L hd (hs.fu (i := 0) (by omega))
/-- A call of the first drive that may change it. -/
theorem SZ.run (h : SZ w wr a b Z) {f : FuncId} {args : Array Value} {r : Nat × Pd × Fs} (hc : ∀ S m L, DrC wr S a.p m a.fu a.d L → FuAt wr S a.fu (a.fu.map Z) → Calls Try.prog f args wr (Done wr S a.p a.fu r)) :
    Calls Try.prog f args wr fun e w' => e = .returned (.int .i64 (r.1 : Int)) ∧ SZ w w' ⟨a.p, a.fu, r.2.1⟩ b (setZ Z a.fu r.2.2) := by
  obtain ⟨S0, S1, hs⟩ := h
  obtain ⟨m, L, hd⟩ := hs.dr 0 (by omega)
  refine (hc S0 m L hd (hs.fu (i := 0) (by omega))).mono fun e w' hD => ?_
  obtain ⟨h1, S2, h2⟩ := hs.done (i := 0) (by omega) hD
  exact ⟨h1, S2, S1, h2.congr fun i hi => by rcases lt2 hi with rfl | rfl <;> rfl⟩
theorem SZ.turned (h : SZ w wr a b Z) {f : FuncId} {args : Array Value} {r : Nat × Pd} (hc : ∀ S m L, DrC wr S a.p m a.fu a.d L → Calls Try.prog f args wr (TurnAt wr S a.p a.fu r)) :
    Calls Try.prog f args wr fun e w' => e = .returned (.int .i64 (r.1 : Int)) ∧ SZ w w' ⟨a.p, a.fu, r.2⟩ b Z := by
  obtain ⟨S0, S1, hs⟩ := h
  obtain ⟨m, L, hd⟩ := hs.dr 0 (by omega)
  refine (hc S0 m L hd).mono fun e w' ⟨h1, h2, h3⟩ => ⟨h1, S0, S1, ?_⟩
  have hf := hs.fu (i := 0) (by omega)
  have := hs.turn (i := 0) (by omega) (Grows.refl _ _) h2 (Or.inl rfl) (hf.kept h3 (fun q hq => hf.ne q hq)) (h3.mono fun b hb => Or.inl hb)
  rw [setZ_same] at this
  exact this.congr fun i hi => by rcases lt2 hi with rfl | rfl <;> rfl
theorem SZ.setA (h : SZ w wr a b Z) {f : FuncId} {args : Array Value} {d2 : Pd} (hc : ∀ S m L, DrC wr S a.p m a.fu a.d L → Calls Try.prog f args wr (SetAt wr S a.p m a.fu d2 L)) :
    Calls Try.prog f args wr fun e w' => e = .returned (.int .i64 0) ∧ SZ w w' ⟨a.p, a.fu, d2⟩ b Z := by
  refine (h.turned (r := (0, d2)) fun S m L hd => (hc S m L hd).mono fun e w' ⟨h1, h2, h3, _⟩ => ?_)
  exact ⟨h1, ⟨m, L, h2⟩, h3.mono fun b hb => by rw [hb]; exact hd.sp⟩
theorem SZ.crash (h : SZ w wr a b Z) (po : Option Addr) (c : Nat) (ks : List Bool) (hk : ∀ S : Nat → Prop, (∀ b, S b → b < wr.heap.size) → (∀ b, S b → w.heap.size ≤ b) → DrAt wr S a.p a.fu a.d → KAt wr S po ks) (hkn : ks.length ≤ 1000000000) (hl : a.d.F.length < 1000000000000) :
    Calls Try.prog 30 #[ptr a.p, .slice po ks.length c] wr fun e w' => e = .returned (.int .i64 0) ∧ SZ w w' ⟨a.p, none, a.d.crash ks⟩ b Z := by
  obtain ⟨S0, S1, hs⟩ := h
  refine (hs.crash (i := 0) (by omega) po c ks (hk S0 (hs.lt (i := 0) (by omega)) (hs.ge 0 (by omega)) (hs.dr 0 (by omega))) hkn hl).mono fun e w' ⟨h1, h2, _⟩ => ?_
  rw [setZ_same] at h2
  exact ⟨h1, S0, S1, h2.congr fun i hi => by rcases lt2 hi with rfl | rfl <;> rfl⟩
/-- Both have a fuse together. -/
theorem SZ.fuse2 (h : SZ w wr a b Z) (bl c : Nat) (hc : CAt wr bl #[ptr a.p, ptr b.p] 23) (n : Nat) (hn : n ≤ 9223372036854775807) :
    Calls Try.prog 14 #[.slice (some ⟨bl, 0, none⟩) 2 c, .int .i64 (n : Int)] wr fun e w' => e = .returned (.int .i64 0) ∧ ∃ q, (∀ i, a.fu = some i → i ≠ q) ∧ (∀ i, b.fu = some i → i ≠ q) ∧ SZ w w' ⟨a.p, some q, a.d.lit (a.fu.map Z)⟩ ⟨b.p, some q, b.d.lit (b.fu.map Z)⟩ (fun x => if x = q then (n, false) else Z x) := by
  obtain ⟨S0, S1, hs⟩ := h
  obtain ⟨m1, L1, h1⟩ := hs.dr 0 (by omega)
  obtain ⟨m2, L2, h2⟩ := hs.dr 1 (by omega)
  refine (fuse2_any h1 (hs.fu (i := 0) (by omega)) h2 (hs.fu (i := 1) (by omega)) (hs.dj 0 1 (by omega) (by omega) (by omega)) bl c hc n hn).mono fun e w' ⟨e1, q, hq, k1, k2, k3, k4⟩ => ⟨e1, q, fun i hi => ?_, fun i hi => ?_, S0, S1, ?_⟩
  · have := (hs.fz 0 (by omega) i hi).1.lt; omega
  · have := (hs.fz 1 (by omega) i hi).1.lt; omega
  · exact (hs.lit2 (i := 0) (j := 1) (by omega) (by omega) (by omega) hn hq k1 k2 k3 k4).congr fun i hi => by rcases lt2 hi with rfl | rfl <;> rfl
theorem sz_of {p1 p2 : Nat} {S1 S2 : Nat → Prop} {d1 d2 : Pd} (h1 : AW w wr S1 p1 d1) (h2 : AW w wr S2 p2 d2) (hd : ∀ b, S1 b → ¬ S2 b) (Z : Nat → Nat × Bool) : SZ w wr ⟨p1, none, d1⟩ ⟨p2, none, d2⟩ Z := by
  refine ⟨S1, S2, fun i hi => ?_, fun i hi q e => ?_, fun i j hi hj hij => ?_, fun i hi => ?_, h1.be⟩
  · rcases lt2 hi with rfl | rfl
    · exact h1.dr
    · exact h2.dr
  · rcases lt2 hi with rfl | rfl <;> cases e
  · rcases lt2 hi with rfl | rfl <;> rcases lt2 hj with rfl | rfl
    · exact absurd rfl hij
    · exact hd
    · exact fun b k1 k2 => hd b k2 k1
    · exact absurd rfl hij
  · rcases lt2 hi with rfl | rfl
    · exact h1.ge
    · exact h2.ge
end
#print axioms SZ.fuse2
end Go.Proofs.Ytfppmpfmafnfmaa

/- The walk of DriveKnown. -/
namespace Go.Proofs.Ytfppmpfmafnfmaa
open Go Go.RowKit

/-- Two drives that have a fuse together, or none. -/
def S2 (w wr : World) (p1 p2 : Nat) (d1 d2 : Pd) (f : Fs) : Prop := ∃ fu Z, SZ w wr ⟨p1, fu, d1⟩ ⟨p2, fu, d2⟩ Z ∧ fu.map Z = f
section
variable {w wr : World} {p1 p2 : Nat} {d1 d2 : Pd} {f : Fs}
theorem S2.be (h : S2 w wr p1 p2 d1 d2 f) : Below w.heap.size w wr := by obtain ⟨_, _, hs, _⟩ := h; exact hs.be
theorem S2.below (h : S2 w wr p1 p2 d1 d2 f) {w' : World} (hb : Below wr.heap.size wr w') : S2 w w' p1 p2 d1 d2 f := by obtain ⟨fu, Z, hs, e⟩ := h; exact ⟨fu, Z, hs.below hb, e⟩
theorem S2.alloc (h : S2 w wr p1 p2 d1 d2 f) (o : Obj) : S2 w (wr.alloc o) p1 p2 d1 d2 f := h.below ((Below.refl _ _).alloc (Nat.le_refl _) _)
theorem S2.swap (h : S2 w wr p1 p2 d1 d2 f) : S2 w wr p2 p1 d2 d1 f := by obtain ⟨fu, Z, hs, e⟩ := h; exact ⟨fu, Z, hs.swap, e⟩
theorem S2.look (h : S2 w wr p1 p2 d1 d2 f) {g : FuncId} {args : Array Value} {R : Ending → World → Prop} (hc : ∀ fu S m L, DrC wr S p1 m fu d1 L → FuAt wr S fu f → Calls Try.prog g args wr R) : Calls Try.prog g args wr R := by
  obtain ⟨fu, Z, hs, rfl⟩ := h
  exact hs.look fun S m L hd hf => hc fu S m L hd hf
theorem S2.run (h : S2 w wr p1 p2 d1 d2 f) {g : FuncId} {args : Array Value} {r0 r : Nat × Pd × Fs} (hc : ∀ fu S m L, DrC wr S p1 m fu d1 L → FuAt wr S fu f → Calls Try.prog g args wr (Done wr S p1 fu r0)) (hr : r0 = r) (hi : r.2.2.isSome = f.isSome) :
    Calls Try.prog g args wr fun e w' => e = .returned (.int .i64 (r.1 : Int)) ∧ S2 w w' p1 p2 r.2.1 d2 r.2.2 := by
  obtain ⟨fu, Z, hs, rfl⟩ := h
  subst hr
  refine (hs.run (r := r0) fun S m L hd hf => hc fu S m L hd hf).mono fun e w' ⟨h1, h2⟩ => ⟨h1, fu, _, h2, ?_⟩
  cases fu with
  | none => cases hz : r0.2.2 with
    | none => rfl
    | some z => rw [hz] at hi; cases hi
  | some q => cases hz : r0.2.2 with
    | none => rw [hz] at hi; cases hi
    | some z => simp [setZ]
theorem S2.turned (h : S2 w wr p1 p2 d1 d2 f) {g : FuncId} {args : Array Value} {r0 r : Nat × Pd} (hc : ∀ fu S m L, DrC wr S p1 m fu d1 L → Calls Try.prog g args wr (TurnAt wr S p1 fu r0)) (hr : r0 = r) :
    Calls Try.prog g args wr fun e w' => e = .returned (.int .i64 (r.1 : Int)) ∧ S2 w w' p1 p2 r.2 d2 f := by
  obtain ⟨fu, Z, hs, rfl⟩ := h
  subst hr
  exact (hs.turned (r := r0) fun S m L hd => hc fu S m L hd).mono fun e w' ⟨h1, h2⟩ => ⟨h1, fu, _, h2, rfl⟩
theorem S2.offline (h : S2 w wr p1 p2 d1 d2 f) (b : Bool) {d3 : Pd} (hr : { d1 with offl := b } = d3) :
    Calls Try.prog 27 #[ptr p1, .bool b] wr fun e w' => e = .returned (.int .i64 0) ∧ S2 w w' p1 p2 d3 d2 f := by
  obtain ⟨fu, Z, hs, rfl⟩ := h
  subst hr
  exact (hs.setA fun S m L hd => offline_any hd b).mono fun e w' ⟨h1, h2⟩ => ⟨h1, fu, _, h2, rfl⟩
theorem S2.write (h : S2 w wr p1 p2 d1 d2 f) (s : Nm) (hs : s.length ≤ maxLen) (po : Option Addr) (c : Nat) (bs : List Nat) (h8 : ∀ y ∈ bs, y < 256) (hx : BAt wr po bs) (hn : bs.length ≤ 140737488355328) (ho : d1.ops < 1000000000000) (hl : d1.F.length < 1000000000000) {r : Nat × Pd × Fs} (hr : d1.write f s bs = r) (hi : r.2.2.isSome = f.isSome) :
    Calls Try.prog 23 #[ptr p1, sv s, .slice po bs.length c] wr fun e w' => e = .returned (.int .i64 (r.1 : Int)) ∧ S2 w w' p1 p2 r.2.1 d2 r.2.2 :=
  h.run (fun _ _ _ _ hd hf => write_any hd hf s hs po c bs h8 hx hn ho hl) hr hi
theorem S2.sync (h : S2 w wr p1 p2 d1 d2 f) (s : Nm) (hs : s.length ≤ maxLen) (ho : d1.ops < 1000000000000) (hl : d1.F.length < 1000000000000) {r : Nat × Pd × Fs} (hr : d1.sync f s = r) (hi : r.2.2.isSome = f.isSome) :
    Calls Try.prog 24 #[ptr p1, sv s] wr fun e w' => e = .returned (.int .i64 (r.1 : Int)) ∧ S2 w w' p1 p2 r.2.1 d2 r.2.2 :=
  h.run (fun _ _ _ _ hd hf => sync_any hd hf s hs ho hl) hr hi
theorem S2.rename (h : S2 w wr p1 p2 d1 d2 f) (s t : Nm) (hs : s.length ≤ maxLen) (ht : t.length ≤ maxLen) (ho : d1.ops < 1000000000000) (hl : d1.F.length < 1000000000000) {r : Nat × Pd × Fs} (hr : d1.rename f s t = r) (hi : r.2.2.isSome = f.isSome) :
    Calls Try.prog 25 #[ptr p1, sv s, sv t] wr fun e w' => e = .returned (.int .i64 (r.1 : Int)) ∧ S2 w w' p1 p2 r.2.1 d2 r.2.2 :=
  h.run (fun _ _ _ _ hd hf => rename_any hd hf s t hs ht ho hl) hr hi
theorem S2.delete (h : S2 w wr p1 p2 d1 d2 f) (s : Nm) (hs : s.length ≤ maxLen) (ho : d1.ops < 1000000000000) {r : Nat × Pd × Fs} (hr : d1.delete f s = r) (hi : r.2.2.isSome = f.isSome) :
    Calls Try.prog 26 #[ptr p1, sv s] wr fun e w' => e = .returned (.int .i64 (r.1 : Int)) ∧ S2 w w' p1 p2 r.2.1 d2 r.2.2 :=
  h.run (fun _ _ _ _ hd hf => delete_any hd hf s hs ho) hr hi
theorem S2.turn (h : S2 w wr p1 p2 d1 d2 f) (s : Nm) (hs : s.length ≤ maxLen) (a : Int) (ha : -9223372036854775808 ≤ a ∧ a ≤ 9223372036854775807) (mask : Nat) (hm : mask < 256) {r : Nat × Pd} (hr : d1.turn s a mask = r) :
    Calls Try.prog 29 #[ptr p1, sv s, .int .i64 a, .int .u8 (mask : Int)] wr fun e w' => e = .returned (.int .i64 (r.1 : Int)) ∧ S2 w w' p1 p2 r.2 d2 f :=
  h.turned (fun _ _ _ _ hd => turn_any hd s hs a ha mask hm) hr
theorem S2.read (h : S2 w wr p1 p2 d1 d2 f) (s : Nm) (hs : s.length ≤ maxLen) {er : Nat} {bs : List Nat} (h1 : d1.readE f s = er) (h2 : d1.readB f s = bs) :
    Calls Try.prog 21 #[ptr p1, sv s] wr fun e w' => ∃ po c, e = .returned (.tuple #[.slice po bs.length c, .int .i64 (er : Int)]) ∧ S2 w w' p1 p2 d1 d2 f := by
  subst h1 h2
  exact (h.look fun _ _ _ _ hd hf => read_any hd hf s hs).mono fun e w' ⟨po, c, e1, _, hb⟩ => ⟨po, c, e1, h.below hb⟩
theorem S2.up (h : S2 w wr p1 p2 d1 d2 f) {b : Bool} (hr : d1.up f = b) : Calls Try.prog 34 #[ptr p1] wr fun e w' => e = .returned (.bool b) ∧ w' = wr := by
  subst hr
  exact h.look fun _ _ _ _ hd hf => up_any hd hf
theorem S2.names (h : S2 w wr p1 p2 d1 d2 f) (hl : d1.F.length < 1000000000000) {ns : List Nm} (hr : d1.list f [] = ns) :
    Calls Try.prog 36 #[ptr p1] wr fun e w' => ∃ po c, e = .returned (.slice po ns.length c) ∧ TxtAt w' (.slice po ns.length c) ns ∧ S2 w w' p1 p2 d1 d2 f := by
  subst hr
  exact (h.look fun _ _ _ _ hd hf => lnames_any hd hf hl).mono fun e w' ⟨po, c, e1, h2, h3⟩ => ⟨po, c, e1, h2.at, h.below h3⟩
theorem S2.crash (h : S2 w wr p1 p2 d1 d2 none) (ks : List Bool) (po : Option Addr) (c : Nat) (hk : ∀ S : Nat → Prop, (∀ b, S b → b < wr.heap.size) → (∀ b, S b → w.heap.size ≤ b) → DrAt wr S p1 none d1 → KAt wr S po ks) (hkn : ks.length ≤ 1000000000) (hl : d1.F.length < 1000000000000) {d3 : Pd} (hr : d1.crash ks = d3) :
    Calls Try.prog 30 #[ptr p1, .slice po ks.length c] wr fun e w' => e = .returned (.int .i64 0) ∧ S2 w w' p1 p2 d3 d2 none := by
  obtain ⟨fu, Z, hs, e⟩ := h
  have : fu = none := by cases fu <;> simp at e; rfl
  subst this hr
  exact (hs.crash po c ks hk hkn hl).mono fun e w' ⟨h1, h2⟩ => ⟨h1, none, _, h2, rfl⟩
theorem S2.fuse (h : S2 w wr p1 p2 d1 d2 f) (bl c : Nat) (hc : CAt wr bl #[ptr p1, ptr p2] 23) (n : Nat) (hn : n ≤ 9223372036854775807) {d3 d4 : Pd} (h3 : d1.lit f = d3) (h4 : d2.lit f = d4) :
    Calls Try.prog 14 #[.slice (some ⟨bl, 0, none⟩) 2 c, .int .i64 (n : Int)] wr fun e w' => e = .returned (.int .i64 0) ∧ S2 w w' p1 p2 d3 d4 (some (n, false)) := by
  obtain ⟨fu, Z, hs, rfl⟩ := h
  subst h3 h4
  exact (hs.fuse2 bl c hc n hn).mono fun e w' ⟨h1, q, _, _, h2⟩ => ⟨h1, some q, _, h2, by simp⟩
/-- The last crash: but the first drive is looked at behind it. -/
theorem S2.crash1 (h : S2 w wr p1 p2 d1 d2 f) (ks : List Bool) (o : Obj) (bl c : Nat) (hbl : bl = wr.heap.size) (hk : ∀ i, i < ks.length → (wr.alloc o).cell? ⟨bl, i, none⟩ = some (.bool (ks.getD i false))) (hkn : ks.length ≤ 1000000000) (hl : d1.F.length < 1000000000000) {d3 : Pd} (hr : d1.crash ks = d3) (hl3 : d3.F.length < 1000000000000) {ns : List Nm} (hn : d3.list none [] = ns) :
    Calls Try.prog 30 #[ptr p1, .slice (some ⟨bl, 0, none⟩) ks.length c] (wr.alloc o) fun e w' => e = .returned (.int .i64 0) ∧ Below w.heap.size w w' ∧
      Calls Try.prog 36 #[ptr p1] w' fun e w2 => ∃ po c, e = .returned (.slice po ns.length c) ∧ TxtAt w2 (.slice po ns.length c) ns ∧ Below w'.heap.size w' w2 := by
  obtain ⟨fu, Z, hs, rfl⟩ := h
  subst hbl hr hn
  have hkk : ∀ S : Nat → Prop, (∀ b, S b → b < wr.heap.size) → KAt (wr.alloc o) S (some ⟨wr.heap.size, 0, none⟩) ks := fun S hlt => Or.inr ⟨wr.heap.size, 0, rfl, fun hS => by have := hlt _ hS; omega, fun i hi => by rw [Nat.zero_add]; exact hk i hi⟩
  obtain ⟨S0, S1, hs⟩ := hs
  have hlt := hs.lt (i := 0) (by omega)
  have hs' := hs.below (((Below.refl _ _).alloc (Nat.le_refl _) o))
  refine (hs'.crash (i := 0) (by omega) (some ⟨wr.heap.size, 0, none⟩) c ks (hkk _ hlt) hkn hl).mono fun e w' ⟨h1, h2, _⟩ => ⟨h1, h2.be, ?_⟩
  obtain ⟨m, L, hd⟩ := h2.dr 0 (by omega)
  exact (lnames_any (f := none) hd trivial hl3).mono fun e w2 ⟨po, c, e1, k2, k3⟩ => ⟨po, c, e1, k2.at, k3⟩
end
theorem kbit (w : World) (b : Bool) (t : TypeId) : ∀ i, i < [b].length → (w.alloc (.cells #[.bool b] t)).cell? ⟨w.heap.size, i, none⟩ = some (.bool ([b].getD i false)) := fun i hi => by
  have : i = 0 := by simpa using hi
  subst this
  exact (CAt.made w #[.bool b] t).cell 0
def kn3 : Pd := ⟨10, 3, false, false, false, [([97], ([97, 98, 99, 100], false)), ([98], ([49, 50], true))]⟩
def kn4 : Pd := ⟨10, 4, false, false, false, [([97], ([97, 98, 99, 100], false)), ([99], ([49, 50], true))]⟩
def kn5 : Pd := ⟨10, 4, false, false, false, [([97], ([97, 98, 99, 100], false))]⟩
def kn6 : Pd := ⟨10, 4, true, false, false, [([97], ([97, 98, 99, 100], false))]⟩
def kn7 : Pd := ⟨10, 5, false, false, false, [([97], ([97, 98, 99, 100], false)), ([100], ([1], true))]⟩
def kn8 : Pd := ⟨10, 5, false, false, false, [([97], ([97, 98, 99, 100], false)), ([100], ([1], false))]⟩
theorem kn_w : aw2.write none [98] [49, 50] = (0, kn3, none) := rfl
theorem kn_r : kn3.rename none [98] [99] = (0, kn4, none) := rfl
theorem kn_c : kn4.crash [] = kn5 := rfl
theorem kn_d : kn5.write (some (1, false)) [100] [1] = (0, kn7, some (0, false)) := rfl
theorem kn_x : kn7.delete (some (0, false)) [97] = (11, kn7, some (0, true)) := rfl
theorem kn_o : (fresh 10).write (some (0, true)) [100] [] = (11, fresh 10, some (0, true)) := rfl
theorem kn_k : kn7.crash [true] = kn8 := rfl
set_option maxHeartbeats 4000000 in
set_option maxRecDepth 100000 in
theorem driveKnown_walk (w : World) : Calls Try.prog 8 #[] w fun e w' => e = .returned (.bool true) ∧ Below w.heap.size w w' := by
  have HNW := hid (fun W => new_ok 10 (by omega) (by omega) W)
  have hcv := fun (w : World) (C : Array Value) (n c : Nat) => Lib.run_convert_bytes_const (P := Try.prog) w 33 5 C n c Try.underlying33 Try.underlying5
  have HAW := hid awake_any
  have t1 : True := trivial
  have t2 : True := trivial
  have t3 : True := trivial
  have t4 : True := trivial
  have t5 : True := trivial
  have t6 : True := trivial
  have t7 : True := trivial
  have t8 : True := trivial
  have t9 : True := trivial
  have ta : True := trivial
  have tb : True := trivial
  have tc : True := trivial
  have td : True := trivial
  have te : True := trivial
  go_enter Try.func8, Try.ntmps8
  go_wp2_with (first
    | (go_at_call 9; have _t := t1; refine (HNW.out w).mono ?_; rintro e w1 ⟨pa, rfl, hd2, hb2⟩; have HDA := hid (AW.made hd2 hb2); have HB1 := hid hb2; have s1 := hb2.size; clear hd2 hb2 t1)
    | (go_at_call 9; refine (HNW.out w1).mono ?_; rintro e w2 ⟨pb, rfl, hd3, hb3⟩; have HDB := hid ((AW.made hd3 hb3).base HB1.out); have HDA := hid (HDA.out.below hb3); have s2 := hb3.size
       have HS : Hid (S2 w w2 pa pb (fresh 10) (fresh 10) none) := hid ⟨none, fun _ => (0, false), sz_of HDA.out HDB.out (fun b h1 h2 => by have := h1.2; have := h2.1; omega) _, rfl⟩
       clear hd3 hb3 HDA HDB s1 s2)
    | (go_at_call 23; have _t := t2; refine ((HS.out.alloc _).write [97] (by unfold maxLen; simp) _ _ [97, 98, 99, 100] (by decide) (lit_at _ _ rfl [97, 98, 99, 100] _) (by decide) (by decide) (by decide) aw_w rfl).mono ?_; rintro e w3 ⟨rfl, hs3⟩; have HS := hid hs3; clear hs3 t2)
    | (go_at_call 24; refine (HS.out.sync [97] (by unfold maxLen; simp) (by decide) (by decide) aw_s rfl).mono ?_; rintro e w4 ⟨rfl, hs4⟩; have HS := hid hs4; clear hs4)
    | (go_at_call 23; have _t := t3; refine ((HS.out.alloc _).write [98] (by unfold maxLen; simp) _ _ [49, 50] (by decide) (lit_at _ _ rfl [49, 50] _) (by decide) (by decide) (by decide) kn_w rfl).mono ?_; rintro e w5 ⟨rfl, hs5⟩; have HS := hid hs5; clear hs5 t3)
    | (go_at_call 25; refine (HS.out.rename [98] [99] (by unfold maxLen; simp) (by unfold maxLen; simp) (by decide) (by decide) kn_r rfl).mono ?_; rintro e w6 ⟨rfl, hs6⟩; have HS := hid hs6; clear hs6)
    | (go_at_call 30; have _t := t4; refine (HS.out.crash [] none 0 (fun _ _ _ _ => Or.inl rfl) (by decide) (by decide) kn_c).mono ?_; rintro e w7 ⟨rfl, hs7⟩; have HS := hid hs7; clear hs7 t4)
    | (go_at_call 36; have _t := t5; refine (HS.out.names (by decide) (ns := [[97]]) rfl).mono ?_; rintro e w8 ⟨pn, cn, rfl, htx, hs8⟩; have HS := hid hs8; have HTX := hid htx; clear htx hs8 t5)
    | (go_at_call 39; have _t := t6; refine (sameTexts_true _ _ [[97]] _ (by decide) (HTX.out.below ((Below.refl _ _).alloc (Nat.le_refl _) _)) (txt_one _ _ _ _ _ rfl)).mono ?_; rintro e w9 ⟨rfl, k9, hw9⟩; have HS : Hid (S2 w w9 pa pb kn5 (fresh 10) none) := hid (by rw [hw9]; exact (HS.out.alloc _).below (below_drewN _ k9)); clear hw9 HTX t6)
    | (go_at_call 21; have _t := t7; refine (HS.out.read [97] (by unfold maxLen; simp) (er := 0) (bs := [97, 98, 99, 100]) rfl rfl).mono ?_; rintro e w10 ⟨pr1, cr1, rfl, hs10⟩; have HS := hid hs10; clear hs10 t7)
    | (go_at_call 27; have _t := t8; refine (HS.out.offline true (d3 := kn6) rfl).mono ?_; rintro e w11 ⟨rfl, hs11⟩; have HS := hid hs11; clear hs11 t8)
    | (go_at_call 21; have _t := t9; refine (HS.out.read [97] (by unfold maxLen; simp) (er := 12) (bs := []) rfl rfl).mono ?_; rintro e w12 ⟨pr2, cr2, rfl, hs12⟩; have HS := hid hs12; clear hs12 t9)
    | (go_at_call 34; refine (HS.out.up (b := false) rfl).mono ?_; rintro e w' ⟨rfl, hw'⟩; have hw2 := hw'.symm; subst hw2)
    | (go_at_call 27; refine (HS.out.offline false (d3 := kn5) rfl).mono ?_; rintro e w13 ⟨rfl, hs13⟩; have HS := hid hs13; clear hs13)
    | (go_at_call 21; have _t := ta; refine (HS.out.read [97] (by unfold maxLen; simp) (er := 0) (bs := [97, 98, 99, 100]) rfl rfl).mono ?_; rintro e w14 ⟨pr3, cr3, rfl, hs14⟩; have HS := hid hs14; clear hs14 ta)
    | (go_at_call 29; have _t := tb; refine (HS.out.turn [97] (by unfold maxLen; simp) 4 (by omega) 1 (by omega) (r := (5, kn5)) rfl).mono ?_; rintro e w15 ⟨rfl, hs15⟩; have HS := hid hs15; clear hs15 tb)
    | (go_at_call 29; refine (HS.out.turn [120] (by unfold maxLen; simp) 0 (by omega) 1 (by omega) (r := (6, kn5)) rfl).mono ?_; rintro e w16 ⟨rfl, hs16⟩; have HS := hid hs16; clear hs16)
    | (go_at_call 23; have _t := tc; refine (HS.out.write [97, 32, 98] (by unfold maxLen; simp) none 0 [] (by decide) (Or.inl ⟨rfl, rfl⟩) (by decide) (by decide) (by decide) (r := (13, kn5, none)) rfl rfl).mono ?_; rintro e w17 ⟨rfl, hs17⟩; have HS := hid hs17; clear hs17 tc)
    | (go_at_call 14; refine ((HS.out.alloc _).fuse _ _ (CAt.made _ _ _) 1 (by omega) (d3 := kn5) (d4 := fresh 10) rfl rfl).mono ?_; rintro e w18 ⟨rfl, hs18⟩; have HS := hid hs18; clear hs18)
    | (go_at_call 23; have _t := td; refine ((HS.out.alloc _).write [100] (by unfold maxLen; simp) _ _ [1] (by decide) (lit_at _ _ rfl [1] _) (by decide) (by decide) (by decide) kn_d rfl).mono ?_; rintro e w19 ⟨rfl, hs19⟩; have HS := hid hs19; clear hs19 td)
    | (go_at_call 26; refine (HS.out.delete [97] (by unfold maxLen; simp) (by decide) kn_x rfl).mono ?_; rintro e w20 ⟨rfl, hs20⟩; have HS := hid hs20; clear hs20)
    | (go_at_call 23; refine (HS.out.swap.write [100] (by unfold maxLen; simp) none 0 [] (by decide) (Or.inl ⟨rfl, rfl⟩) (by decide) (by decide) (by decide) kn_o rfl).mono ?_; rintro e w21 ⟨rfl, hs21⟩; have HS := hid hs21.swap; clear hs21)
    | (go_at_call 21; refine (HS.out.read [97] (by unfold maxLen; simp) (er := 11) (bs := []) rfl rfl).mono ?_; rintro e w22 ⟨pr4, cr4, rfl, hs22⟩; have HS := hid hs22; clear hs22)
    | (go_at_call 20; refine (HAW.out w22).mono ?_; rintro e w23 ⟨rfl, hb23⟩; have HS := hid (HS.out.below hb23); clear hb23)
    | (go_at_call 30; go_loud (refine (HS.out.crash1 [true] _ _ 1 rfl (kbit _ _ _) (by decide) (by decide) kn_k (by decide) (ns := [[97], [100]]) rfl).mono ?_); rintro e w24 ⟨rfl, hb24, hc24⟩; have HB := hid hb24; have HC := hid hc24; clear hb24 hc24)
    | (go_at_call 36; refine HC.out.mono ?_; rintro e w25 ⟨pm, cm, rfl, htx, hb25⟩; have HB := hid (below_on _ _ HB.out hb25); have HTX := hid htx; clear htx hb25)
    | (go_at_call 39; refine (sameTexts_true _ _ [[97], [100]] _ (by decide) (HTX.out.below ((Below.refl _ _).alloc (Nat.le_refl _) _)) (txt_two _ _ _ _ _ _ rfl)).mono ?_; rintro e w26 ⟨rfl, k26, hw26⟩; have HB : Hid (Below w.heap.size w w26) := hid (by rw [hw26]; exact below_on _ _ (below_on _ _ HB.out ((Below.refl _ _).alloc (Nat.le_refl _) _)) (below_drewN _ k26)); clear hw26 HTX))
  go_ret
  exact ⟨rfl, HB.out⟩
#print axioms driveKnown_walk
end Go.Proofs.Ytfppmpfmafnfmaa
