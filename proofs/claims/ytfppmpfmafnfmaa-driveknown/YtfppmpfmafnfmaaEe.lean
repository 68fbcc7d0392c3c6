/- The walk of DriveKeeps. -/
import Derived.Test.YtfppmpfmafnfmaaEd
namespace Go.Proofs.Ytfppmpfmafnfmaa
open Go Go.RowKit

section
variable {w wk : World} {S : Nat → Prop} {p : Nat} {d : Pd}
theorem AW.base {w0 : World} (h : AW w wk S p d) (hb : Below w0.heap.size w0 w) : AW w0 wk S p d := ⟨h.dr, fun b hS => Nat.le_trans hb.size (h.ge b hS), below_on _ _ hb h.be⟩
theorem AW.lt (h : AW w wk S p d) : ∀ b, S b → b < wk.heap.size := by obtain ⟨m, L, hd⟩ := h.dr; exact hd.lt
/-- Another drive's call. -/
theorem AW.other {T : Nat → Prop} {w' : World} (h : AW w wk S p d) (ho : Only T wk w') (hT : ∀ b, T b → w.heap.size ≤ b) (hd : ∀ b, S b → ¬ T b) : AW w w' S p d := by
  have hl := h.lt
  exact ⟨h.dr.keep ho.size fun b hb => ho.block b (hl b hb) (hd b hb), h.ge, ⟨ho.os.trans h.be.os, ho.tape.trans h.be.tape, ho.output.trans h.be.output, Nat.le_trans h.be.size ho.size, fun k hk => (ho.block k (Nat.lt_of_lt_of_le hk h.be.size) (fun e => by have := hT k e; omega)).trans (h.be.block k hk)⟩⟩
theorem AW.crash (h : AW w wk S p d) (po : Option Addr) (c : Nat) (ks : List Bool) (hk : KAt wk S po ks) (hkn : ks.length ≤ 1000000000) (hl : d.F.length < 1000000000000) :
    Calls Try.prog 30 #[ptr p, .slice po ks.length c] wk fun e w' => e = .returned (.int .i64 0) ∧ AW w w' S p (d.crash ks) ∧ Only S wk w' := by
  obtain ⟨m, L, hd⟩ := h.dr
  refine (crash_any hd po c ks hk hkn hl).mono fun e w' ⟨h1, h2, h3⟩ => ?_
  have ho : Only S wk w' := h3.mono fun b hb => hb.elim (fun e => e ▸ hd.sp) (fun e => e ▸ hd.sm)
  exact ⟨h1, ⟨h2, h.ge, ⟨ho.os.trans h.be.os, ho.tape.trans h.be.tape, ho.output.trans h.be.output, Nat.le_trans h.be.size ho.size, fun k hk => (ho.block k (Nat.lt_of_lt_of_le hk h.be.size) (fun e => by have := h.ge k e; omega)).trans (h.be.block k hk)⟩⟩, ho⟩
theorem AW.clone (h : AW w wk S p d) (hl : d.F.length < 1000000000000) {d2 : Pd} (hd : { d with out := d.isOut none } = d2) :
    Calls Try.prog 12 #[ptr p] wk fun e w' => ∃ pc, e = .returned (ptr pc) ∧ AW w w' (fun b => wk.heap.size ≤ b ∧ b < w'.heap.size) pc d2 ∧ Below wk.heap.size wk w' := by
  obtain ⟨m, L, hdr⟩ := h.dr
  subst hd
  refine (dclone_any hdr (f := none) trivial hl).mono fun e w' ⟨pc, h1, h2, h3⟩ => ⟨pc, h1, ⟨h2, fun b hb => Nat.le_trans h.be.size hb.1, below_on _ _ h.be h3⟩, h3⟩
theorem AW.names (h : AW w wk S p d) (hl : d.F.length < 1000000000000) {ns : List Nm} (hr : d.list none [] = ns) :
    Calls Try.prog 36 #[ptr p] wk (NamesAt wk ns) := by
  obtain ⟨m, L, hd⟩ := h.dr
  subst hr
  exact lnames_any hd (f := none) trivial hl
theorem AW.loose' (h : AW w wk S p d) (hl : d.F.length < 1000000000000) {ns : List Nm} (hr : d.loose = ns) : Calls Try.prog 32 #[ptr p] wk (NamesAt wk ns) := by
  obtain ⟨m, L, hd⟩ := h.dr
  subst hr
  exact loose_any hd hl
theorem AW.read (h : AW w wk S p d) (s : Nm) (hs : s.length ≤ maxLen) {er : Nat} {bs : List Nat} (h1 : d.readE none s = er) (h2 : d.readB none s = bs) : Calls Try.prog 21 #[ptr p, sv s] wk (ReadAt wk er bs) := by
  obtain ⟨m, L, hd⟩ := h.dr
  subst h1 h2
  exact read_any hd (f := none) trivial s hs
theorem AW.srt (h : AW w wk S p d) : Srt d.F := by obtain ⟨m, L, hd⟩ := h.dr; exact hd.srtF
theorem AW.okn (h : AW w wk S p d) : ∀ x ∈ d.F, okNm x.1 = true := by
  obtain ⟨m, L, hd⟩ := h.dr
  intro x hx
  rw [hd.fs] at hx
  obtain ⟨y, hy, rfl⟩ := List.mem_map.1 hx
  exact hd.nm y hy
end
theorem same_out (d : Pd) : ({ d with out := d.isOut none } : Pd) = d := by
  have : d.isOut none = d.out := by unfold Pd.isOut goneF; simp
  rw [this]
theorem read_some {d : Pd} {s : Nm} {x : Fi} (ha : d.ans none [s] = 0) (hg : gget d.F s = some x) : d.readE none s = 0 ∧ d.readB none s = x.1 := by
  unfold Pd.readE Pd.readB; rw [if_neg (by simp [ha]), if_neg (by simp [ha]), hg]; exact ⟨rfl, rfl⟩
theorem read_none' {d : Pd} {s : Nm} (ha : d.ans none [s] = 0) (hg : gget d.F s = none) : d.readE none s = 6 ∧ d.readB none s = [] := by
  unfold Pd.readE Pd.readB; rw [if_neg (by simp [ha]), if_neg (by simp [ha]), hg]; exact ⟨rfl, rfl⟩
theorem ans_crash {d : Pd} {n : Nat} (h : d.calm n) (ks : List Bool) (ns : List Nm) (hn : ∀ s ∈ ns, okNm s = true) : (d.crash ks).ans none ns = 0 := by
  unfold Pd.ans Pd.isOut Pd.crash; rw [h.offl]; simp [goneF, List.all_eq_true.2 hn]
/-- Two drives, two lists of texts and some bools: what loop two carries. -/
structure K2 (w wr : World) (S S' : Nat → Prop) (p pc : Nat) (dc d : Pd) (vl vn : Value) (po : Option Addr) (ks : List Bool) : Prop where
  a : AW w wr S p dc
  b : AW w wr S' pc d
  tl : TxtAt wr vl (looseN d.F)
  tn : TxtAt wr vn (d.F.map (·.1))
  kp : KAt wr (fun _ => False) po ks
theorem K2.on {w wr w2 : World} {S S' : Nat → Prop} {p pc : Nat} {dc d : Pd} {vl vn : Value} {po : Option Addr} {ks : List Bool} (h : K2 w wr S S' p pc dc d vl vn po ks) (hb : Below wr.heap.size wr w2) : K2 w w2 S S' p pc dc d vl vn po ks :=
  ⟨h.a.below hb, h.b.below hb, h.tl.below hb, h.tn.below hb, h.kp.only (T := fun _ => False) ⟨hb.os, hb.tape, hb.output, hb.size, fun k hk _ => hb.block k hk⟩ (fun _ _ h => h)⟩
theorem act_at {w wr : World} {b o len i : Nat} (h : ∀ i, i < len → ∃ x : AV, x.ok w ∧ ∀ j, j < 9 → w.cell? ⟨b, o + i * 9 + j, none⟩ = x.val[j]?) (hi : i < len) (hb : Below w.heap.size w wr) : ∃ x : AV, x.ok wr ∧ ∀ j, j < 9 → wr.cell? ⟨b, o + i * 9 + j, none⟩ = x.val[j]? := by
  obtain ⟨x, hx, hc⟩ := h i hi
  refine ⟨x, hx.below hb, fun j hj => ?_⟩
  have hl : b < w.heap.size := cell_lt' (a := ⟨b, o + i * 9 + j, none⟩) (by
    rw [hc j hj]
    have : j = 0 ∨ j = 1 ∨ j = 2 ∨ j = 3 ∨ j = 4 ∨ j = 5 ∨ j = 6 ∨ j = 7 ∨ j = 8 := by omega
    rcases this with rfl | rfl | rfl | rfl | rfl | rfl | rfl | rfl | rfl <;> simp [AV.val])
  exact (World.cell?_of_block (hb.block b hl)).trans (hc j hj)
set_option maxHeartbeats 2000000 in
set_option maxRecDepth 100000 in
theorem driveKeeps_walk (pa : Option Addr) (na ca : Nat) (po : Option Addr) (ck : Nat) (ks : List Bool) (w : World) (hA : IsActs w pa na) (hK : KAt w (fun _ => False) po ks) :
    Calls Try.prog 6 #[.slice pa na ca, .slice po ks.length ck] w fun e w' => e = .returned (.bool true) ∧ Below w.heap.size w w' := by
  have HAW := hid (awake_any w)
  have HNW := hid (fun W => new_ok 100000 (by omega) (by omega) W)
  have HA := hid hA
  have HK := hid hK
  clear hA hK
  by_cases h40 : 40 < na
  · have h40' : (40 : Int) < (na : Int) := by omega
    go_enter Try.func6, Try.ntmps6
    go_wp2_with (first
      | (go_at_call 20; refine HAW.out.mono ?_; rintro e w1 ⟨rfl, hb1⟩; have HB1 := hid hb1; clear hb1)
      | (go_at_call 9; refine (HNW.out w1).mono ?_; rintro e w2 ⟨p, rfl, hd2, hb2⟩; have HD := hid ((AW.made hd2 hb2).base HB1.out); clear hd2 hb2))
    go_ret
    exact ⟨rfl, HD.out.be⟩
  by_cases h100 : 100 < ks.length
  · have h40' : ¬ (40 : Int) < (na : Int) := by omega
    have h100' : (100 : Int) < (ks.length : Int) := by omega
    go_enter Try.func6, Try.ntmps6
    go_wp2_with (first
      | (go_at_call 20; refine HAW.out.mono ?_; rintro e w1 ⟨rfl, hb1⟩; have HB1 := hid hb1; clear hb1)
      | (go_at_call 9; refine (HNW.out w1).mono ?_; rintro e w2 ⟨p, rfl, hd2, hb2⟩; have HD := hid ((AW.made hd2 hb2).base HB1.out); clear hd2 hb2))
    go_ret
    exact ⟨rfl, HD.out.be⟩
  have h40' : ¬ (40 : Int) < (na : Int) := by omega
  have h100' : ¬ (100 : Int) < (ks.length : Int) := by omega
  go_enter Try.func6, Try.ntmps6
  go_wp2_with (first
    | (go_at_call 20; refine HAW.out.mono ?_; rintro e w1 ⟨rfl, hb1⟩; have HB1 := hid hb1; clear hb1)
    | (go_at_call 9; refine (HNW.out w1).mono ?_; rintro e w2 ⟨p, rfl, hd2, hb2⟩; have HD := hid ((AW.made hd2 hb2).base HB1.out); clear hd2 hb2))
  go_loopw [8] (fun v wr => ∃ i : Nat, i ≤ na ∧ v = .int .i64 (i : Int) ∧ ∃ S d, AW w wr S p d ∧ d.calm i) (fun v _ => (na - intOf v).toNat)
  case atStart => exact ⟨0, by omega, rfl, _, _, HD.out, ⟨rfl, rfl, Nat.le_refl _, Nat.le_refl _⟩⟩
  case round =>
    obtain ⟨i, hi, rfl, S, d, hAw, hcalm⟩ := hrel
    have HD := hid hAw
    have HC := hid hcalm
    clear hAw hcalm
    by_cases hlt : i < na
    · have hlt' : (i : Int) < (na : Int) := by omega
      rcases HA.out with h0 | ⟨ba, oa, rfl, hx⟩
      · omega
      obtain ⟨x, hxo, hxc⟩ := act_at hx hlt HD.out.be
      have HX := hid hxo
      have x0 : wr.cell? ⟨ba, oa + i * 9, none⟩ = some (.int .i64 x.kind) := hxc 0 (by omega)
      have x1 : wr.cell? ⟨ba, oa + i * 9 + 1, none⟩ = some (.int .i64 x.which) := hxc 1 (by omega)
      have x2 : wr.cell? ⟨ba, oa + i * 9 + 2, none⟩ = some (.int .i64 x.at_) := hxc 2 (by omega)
      have x3 : wr.cell? ⟨ba, oa + i * 9 + 3, none⟩ = some (sv x.A) := hxc 3 (by omega)
      have x4 : wr.cell? ⟨ba, oa + i * 9 + 4, none⟩ = some (sv x.C) := hxc 4 (by omega)
      have x5 : wr.cell? ⟨ba, oa + i * 9 + 5, none⟩ = some (.slice x.pb x.bs.length x.cb) := hxc 5 (by omega)
      have x6 : wr.cell? ⟨ba, oa + i * 9 + 6, none⟩ = some (.bool x.is_) := hxc 6 (by omega)
      have x7 : wr.cell? ⟨ba, oa + i * 9 + 7, none⟩ = some (.int .u8 x.mask) := hxc 7 (by omega)
      have x8 : wr.cell? ⟨ba, oa + i * 9 + 8, none⟩ = some (.slice x.pk x.ks.length x.ck) := hxc 8 (by omega)
      clear hxo hxc hx
      by_cases h500 : 500 < x.bs.length
      · have h5' : (500 : Int) < (x.bs.length : Int) := by omega
        go_wp2
        go_ret
        exact ⟨rfl, HD.out.be⟩
      · have h5' : ¬ (500 : Int) < (x.bs.length : Int) := by omega
        have HST := hid (HD.out.stepA x HX.out (by omega) (by have := HC.out.ops; omega) (by have := HC.out.ops; have := HC.out.len; omega))
        unfold AV.val at HST
        go_wp2_with (go_at_call 35; refine HST.out.mono ?_; rintro e w2 ⟨rfl, S2, hA2⟩; have HD2 := hid hA2; clear hA2)
        go_roundw
        case rel => exact ⟨i + 1, by omega, by go_num, S2, _, HD2.out, step_calm HC.out none x⟩
        case measure => simp [intOf]; omega
    · have hlt' : ¬ (i : Int) < (na : Int) := by omega
      have hl12 : d.F.length < 1000000000000 := by have := HC.out.ops; have := HC.out.len; omega
      have HCL := hid (HD.out.clone hl12 (same_out d))
      have hlc : (d.crash ks).F.length < 1000000000000 := by have : (d.crash ks).F.length ≤ d.F.length := crash_len d.F ks _; omega
      have HN : Hid (d.list none [] = d.F.map (·.1)) := hid (list_all d none (ans_calm HC.out [] (by simp)))
      have t1 : True := trivial
      go_wp2_with (first
        | (go_at_call 12; refine HCL.out.mono ?_; rintro e w3 ⟨pc, rfl, hP, hb3⟩; have HP := hid hP; have HD3 := hid (HD.out.below hb3); have hw3 := hb3.size; have HLO := hid (HD3.out.loose' hl12 (ns := looseN d.F) rfl); clear hP hb3)
        | (go_at_call 32; have _t := t1; refine HLO.out.mono ?_; rintro e w4 ⟨pl, cl, rfl, htl, hb4⟩; have HD4 := hid (HD3.out.below hb4); have HP4 := hid (HP.out.below hb4); have HTL := hid htl; have hw4 := hb4.size
           have HK4 : Hid (KAt w4 S po ks) := hid ((HK.out.only (T := fun _ => False) ⟨HD4.out.be.os, HD4.out.be.tape, HD4.out.be.output, HD4.out.be.size, fun k hk _ => HD4.out.be.block k hk⟩ (fun _ _ h => h)).under (B := w.heap.size) (fun b o i e hi => by
             rcases HK.out with h0 | ⟨b', o', e', _, hc⟩
             · rw [h0] at hi; simp at hi
             · rw [e] at e'; cases e'
               exact cell_lt' (a := ⟨b, o + i, none⟩) (by rw [hc i hi]; simp)) HD4.out.ge)
           clear htl hb4 t1)
        | (go_at_call 30; refine (HD4.out.crash po ck ks HK4.out (by omega) hl12).mono ?_; rintro e w5 ⟨rfl, hA5, ho5⟩; have HD5 := hid hA5; have HP5 := hid (HP4.out.other ho5 HD4.out.ge (fun b hb hS => by have := HD.out.lt b hS; omega))
           have HTL5 := hid (HTL.out.keep (w' := w5) (fun b hb => ho5.block b (own_ge HTL.out b hb).2 (fun hS => by have := HD.out.lt b hS; have := (own_ge HTL.out b hb).1; omega)))
           clear hA5 ho5)
        | (go_at_call 32; refine (HD5.out.loose' hlc (ns := []) (crashAll_loose d.F ks)).mono ?_; rintro e w6 ⟨pl2, cl2, rfl, _, hb6⟩; have HD6 := hid (HD5.out.below hb6); have HP6 := hid (HP5.out.below hb6); have HTL6 := hid (HTL5.out.at.below hb6); clear hb6)
        | (go_at_call 36; refine (HP6.out.names hl12 HN.out).mono ?_; rintro e w7 ⟨pn, cn, rfl, htn, hb7⟩
           have HI : Hid (K2 w w7 S _ p pc (d.crash ks) d _ _ po ks) := hid ⟨HD6.out.below hb7, HP6.out.below hb7, HTL6.out.below hb7, htn.at, HK.out.only (T := fun _ => False) (by have hbe := (HD6.out.below hb7).be; exact ⟨hbe.os, hbe.tape, hbe.output, hbe.size, fun k hk _ => hbe.block k hk⟩) (fun _ _ h => h)⟩
           clear htn hb7))
      have hN : d.F.length ≤ 40 := by have := HC.out.ops; have := HC.out.len; omega
      have hnl : (looseN d.F).length ≤ 40 := by unfold looseN namesOf; rw [List.length_map]; exact Nat.le_trans (List.length_filter_le _ _) hN
      go_loopw [12, 13, 14] (fun v12 v13 v14 wz => ∃ i2 : Nat, i2 ≤ d.F.length ∧ v12 = .int .i64 (cntL d.F i2 : Int) ∧ v13 = .int .i64 (stayN d.F ks i2 : Int) ∧ v14 = .int .i64 (i2 : Int) ∧ K2 w wz S (fun b => wr.heap.size ≤ b ∧ b < w3.heap.size) p pc (d.crash ks) d (.slice pl (looseN d.F).length cl) (.slice pn (List.map (fun x => x.fst) d.F).length cn) po ks) (fun _ _ v _ => (d.F.length - intOf v).toNat)
      case atStart => exact ⟨0, by omega, rfl, rfl, rfl, HI.out⟩
      case round =>
        obtain ⟨i2, hi2, rfl, rfl, rfl, hI⟩ := hrel
        have HI := hid hI
        clear hI
        by_cases hlt2 : i2 < d.F.length
        · have hlt2' : (i2 : Int) < (d.F.length : Int) := by omega
          have hmem := atF_mem hlt2
          have HOKN := hid (HI.out.b.okn _ hmem)
          have HG := hid (gget_of_mem HI.out.b.srt (s := (atF d.F i2).1) (a := (atF d.F i2).2) hmem)
          have HCG := hid (crashAll_get HI.out.b.srt ks i2 hlt2)
          have HTH := hid (thereL_get d.F ks i2 hlt2)
          have HIN0 := hid (loose_mem HI.out.b.srt hlt2)
          have HNS0 := hid (cntL_succ hlt2)
          have HTS0 := hid (stayN_succ (ks := ks) hlt2)
          have hcn := cntL_le d.F i2
          have hst := stayN_le d.F ks i2
          have htn := HI.out.tn
          rcases htn with ⟨h0, _⟩ | ⟨gn, cn2, hvn, hcell⟩
          · have := congrArg List.length h0; simp at this; rw [this] at hlt2; simp at hlt2
          obtain ⟨rfl, rfl⟩ : pn = some ⟨gn, 0, none⟩ ∧ cn = cn2 := by cases hvn; exact ⟨rfl, rfl⟩
          have cnm := hcell i2 (by simpa using hlt2)
          have enm : (List.map (fun x => x.fst) d.F).getD i2 [] = (atF d.F i2).1 := by unfold atF; rw [getD_in _ _ _ (by simpa using hlt2), getD_in _ _ _ hlt2]; simp
          rw [enm] at cnm
          clear hvn hcell enm hmem
          generalize hAT : atF d.F i2 = at2 at *
          obtain ⟨s, bb, lo⟩ := at2
          simp only at cnm
          have HOKS : Hid (okNm s = true) := hid HOKN.out
          have hsl : s.length ≤ maxLen := by have := ok_len HOKS.out; unfold maxLen; omega
          have HA1 := hid (ans_calm HC.out [s] (by simpa using HOKS.out))
          have HA2 := hid (ans_crash HC.out ks [s] (by simpa using HOKS.out))
          have HE1 : Hid (d.readE none s = 0 ∧ d.readB none s = bb) := hid (read_some HA1.out HG.out)
          have HR1 := hid (HI.out.b.read s hsl HE1.out.1 HE1.out.2)
          generalize cntL d.F i2 = n at *
          generalize stayN d.F ks i2 = t at *
          have t2 : True := trivial
          have HGL : Hid (gn < wr.heap.size) := hid (cell_lt' (a := ⟨gn, i2, none⟩) (by rw [cnm]; simp))
          clear hAT
          cases lo
          · have HIN : Hid (decide (s ∈ looseN d.F) = false) := hid (decide_eq_false fun h => by have := HIN0.out.1 h; cases this)
            have HTH1 : Hid ((thereL d.F ks).getD i2 false = true) := hid HTH.out
            have HE2 : Hid ((d.crash ks).readE none s = 0 ∧ (d.crash ks).readB none s = bb) := hid (read_some HA2.out (x := (bb, false)) (by have := HCG.out; rw [HTH1.out] at this; exact this))
            have HNS : Hid (cntL d.F (i2 + 1) = n) := hid HNS0.out
            have HTS : Hid (stayN d.F ks (i2 + 1) = t + 1) := hid (by rw [HTS0.out, HTH1.out]; rfl)
            go_wp2_with (first
              | (go_at_call 21; have _t := t2; refine HR1.out.mono ?_; rintro e z1 ⟨p1, c1, rfl, ho1, hb1⟩; have HI := hid (HI.out.on hb1); have HO1 := hid ho1; have HC1 := hid ((World.cell?_of_block (hb1.block gn HGL.out)).trans cnm); have cnm1 := HC1.out; have HGL1 : Hid (gn < z1.heap.size) := hid (Nat.lt_of_lt_of_le HGL.out hb1.size); clear ho1 hb1 t2
                 have HR2 := hid (HI.out.a.read s hsl HE2.out.1 HE2.out.2))
              | (go_at_call 21; refine HR2.out.mono ?_; rintro e z2 ⟨p2, c2, rfl, ho2, hb2⟩; have HI := hid (HI.out.on hb2); have HQ1 := hid (ownsRow_keep (w' := z2) HO1.out fun b hb => hb2.block b (own_ge HO1.out b hb).2); have HQ2 := hid ho2; have cnm2 := (World.cell?_of_block (hb2.block gn HGL1.out)).trans HC1.out; clear ho2 hb2)
              | (go_at_call 37; refine (in_any _ (looseN d.F) s _ (by have := hnl; omega) HI.out.tl).mono ?_; rintro e w' ⟨rfl, hw'⟩; rw [HIN.out]; have hw2 := hw'.symm; subst hw2)
              | (go_at_call 38; refine (sameBytes_true ⟨_, HQ1.out⟩ ⟨_, HQ2.out⟩).mono ?_; rintro e w' ⟨rfl, hw'⟩; have hw2 := hw'.symm; subst hw2))
            go_roundw
            case rel => exact ⟨i2 + 1, by omega, by rw [HNS.out], by rw [HTS.out]; go_num, by go_num, HI.out⟩
            case measure => simp [intOf]; omega
          · cases hkb : ks.getD n false
            · have HIN : Hid (decide (s ∈ looseN d.F) = true) := hid (decide_eq_true (HIN0.out.2 rfl))
              have HTH1 : Hid ((thereL d.F ks).getD i2 false = false) := hid (by have h := HTH.out; simp only [if_true] at h; rw [h]; exact hkb)
              have HE2 : Hid ((d.crash ks).readE none s = 6 ∧ (d.crash ks).readB none s = []) := hid (read_none' HA2.out (by have := HCG.out; rw [HTH1.out] at this; exact this))
              have HNS : Hid (cntL d.F (i2 + 1) = n + 1) := hid HNS0.out
              have HTS : Hid (stayN d.F ks (i2 + 1) = t) := hid (by rw [HTS0.out, HTH1.out]; rfl)
              by_cases hik : n < ks.length
              · have hik' : (n : Int) < (ks.length : Int) := by omega
                rcases HK.out with h0 | ⟨bk, ok, hpo, _, _⟩
                · rw [h0] at hik; simp at hik
                subst hpo
                go_wp2_with (first
                  | (go_at_call 21; have _t := t2; refine HR1.out.mono ?_; rintro e z1 ⟨p1, c1, rfl, ho1, hb1⟩; have HI := hid (HI.out.on hb1); have HO1 := hid ho1; have HC1 := hid ((World.cell?_of_block (hb1.block gn HGL.out)).trans cnm); have cnm1 := HC1.out; have HGL1 : Hid (gn < z1.heap.size) := hid (Nat.lt_of_lt_of_le HGL.out hb1.size); clear ho1 hb1 t2
                     have HR2 := hid (HI.out.a.read s hsl HE2.out.1 HE2.out.2))
                  | (go_at_call 21; refine HR2.out.mono ?_; rintro e z2 ⟨p2, c2, rfl, ho2, hb2⟩; have HI := hid (HI.out.on hb2); have HQ1 := hid (ownsRow_keep (w' := z2) HO1.out fun b hb => hb2.block b (own_ge HO1.out b hb).2); have HQ2 := hid ho2; have cnm2 := (World.cell?_of_block (hb2.block gn HGL1.out)).trans HC1.out; clear ho2 hb2)
                  | (go_at_call 37; refine (in_any _ (looseN d.F) s _ (by have := hnl; omega) HI.out.tl).mono ?_; rintro e w' ⟨rfl, hw'⟩; rw [HIN.out]; have hw2 := hw'.symm; subst hw2
                     have ckk : z2.cell? ⟨bk, ok + n, none⟩ = some (.bool false) := kat_at HI.out.kp hik hkb)
                  | (go_at_call 38; refine (sameBytes_true ⟨_, HQ1.out⟩ ⟨_, HQ2.out⟩).mono ?_; rintro e w' ⟨rfl, hw'⟩; have hw2 := hw'.symm; subst hw2))
                go_roundw
                case rel => exact ⟨i2 + 1, by omega, by rw [HNS.out]; go_num, by rw [HTS.out], by go_num, HI.out⟩
                case measure => simp [intOf]; omega
              · have hik' : ¬ (n : Int) < (ks.length : Int) := by omega
                go_wp2_with (first
                  | (go_at_call 21; have _t := t2; refine HR1.out.mono ?_; rintro e z1 ⟨p1, c1, rfl, ho1, hb1⟩; have HI := hid (HI.out.on hb1); have HO1 := hid ho1; have HC1 := hid ((World.cell?_of_block (hb1.block gn HGL.out)).trans cnm); have cnm1 := HC1.out; have HGL1 : Hid (gn < z1.heap.size) := hid (Nat.lt_of_lt_of_le HGL.out hb1.size); clear ho1 hb1 t2
                     have HR2 := hid (HI.out.a.read s hsl HE2.out.1 HE2.out.2))
                  | (go_at_call 21; refine HR2.out.mono ?_; rintro e z2 ⟨p2, c2, rfl, ho2, hb2⟩; have HI := hid (HI.out.on hb2); have HQ1 := hid (ownsRow_keep (w' := z2) HO1.out fun b hb => hb2.block b (own_ge HO1.out b hb).2); have HQ2 := hid ho2; have cnm2 := (World.cell?_of_block (hb2.block gn HGL1.out)).trans HC1.out; clear ho2 hb2)
                  | (go_at_call 37; refine (in_any _ (looseN d.F) s _ (by have := hnl; omega) HI.out.tl).mono ?_; rintro e w' ⟨rfl, hw'⟩; rw [HIN.out]; have hw2 := hw'.symm; subst hw2)
                  | (go_at_call 38; refine (sameBytes_true ⟨_, HQ1.out⟩ ⟨_, HQ2.out⟩).mono ?_; rintro e w' ⟨rfl, hw'⟩; have hw2 := hw'.symm; subst hw2))
                go_roundw
                case rel => exact ⟨i2 + 1, by omega, by rw [HNS.out]; go_num, by rw [HTS.out], by go_num, HI.out⟩
                case measure => simp [intOf]; omega
            · have HIN : Hid (decide (s ∈ looseN d.F) = true) := hid (decide_eq_true (HIN0.out.2 rfl))
              have HTH1 : Hid ((thereL d.F ks).getD i2 false = true) := hid (by have h := HTH.out; simp only [if_true] at h; rw [h]; exact hkb)
              have HE2 : Hid ((d.crash ks).readE none s = 0 ∧ (d.crash ks).readB none s = bb) := hid (read_some HA2.out (x := (bb, false)) (by have := HCG.out; rw [HTH1.out] at this; exact this))
              have HNS : Hid (cntL d.F (i2 + 1) = n + 1) := hid HNS0.out
              have HTS : Hid (stayN d.F ks (i2 + 1) = t + 1) := hid (by rw [HTS0.out, HTH1.out]; rfl)
              have hik : n < ks.length := by
                rcases Nat.lt_or_ge n ks.length with h | h
                · exact h
                · rw [List.getD_eq_getElem?_getD, List.getElem?_eq_none h] at hkb; cases hkb
              have hik' : (n : Int) < (ks.length : Int) := by omega
              rcases HK.out with h0 | ⟨bk, ok, hpo, _, _⟩
              · rw [h0] at hik; simp at hik
              subst hpo
              go_wp2_with (first
                | (go_at_call 21; have _t := t2; refine HR1.out.mono ?_; rintro e z1 ⟨p1, c1, rfl, ho1, hb1⟩; have HI := hid (HI.out.on hb1); have HO1 := hid ho1; have HC1 := hid ((World.cell?_of_block (hb1.block gn HGL.out)).trans cnm); have cnm1 := HC1.out; have HGL1 : Hid (gn < z1.heap.size) := hid (Nat.lt_of_lt_of_le HGL.out hb1.size); clear ho1 hb1 t2
                   have HR2 := hid (HI.out.a.read s hsl HE2.out.1 HE2.out.2))
                | (go_at_call 21; refine HR2.out.mono ?_; rintro e z2 ⟨p2, c2, rfl, ho2, hb2⟩; have HI := hid (HI.out.on hb2); have HQ1 := hid (ownsRow_keep (w' := z2) HO1.out fun b hb => hb2.block b (own_ge HO1.out b hb).2); have HQ2 := hid ho2; have cnm2 := (World.cell?_of_block (hb2.block gn HGL1.out)).trans HC1.out; clear ho2 hb2)
                | (go_at_call 37; refine (in_any _ (looseN d.F) s _ (by have := hnl; omega) HI.out.tl).mono ?_; rintro e w' ⟨rfl, hw'⟩; rw [HIN.out]; have hw2 := hw'.symm; subst hw2
                   have ckk : z2.cell? ⟨bk, ok + n, none⟩ = some (.bool true) := kat_at HI.out.kp hik hkb)
                | (go_at_call 38; refine (sameBytes_true ⟨_, HQ1.out⟩ ⟨_, HQ2.out⟩).mono ?_; rintro e w' ⟨rfl, hw'⟩; have hw2 := hw'.symm; subst hw2))
              go_roundw
              case rel => exact ⟨i2 + 1, by omega, by rw [HNS.out]; go_num, by rw [HTS.out]; go_num, by go_num, HI.out⟩
              case measure => simp [intOf]; omega
        · have hlt2' : ¬ (i2 : Int) < (d.F.length : Int) := by omega
          obtain rfl : i2 = d.F.length := by omega
          have HFN := hid (HI.out.a.names hlc (ns := (d.crash ks).F.map (·.1)) (list_all _ none (ans_crash HC.out ks [] (by simp))))
          have hst : stayN d.F ks d.F.length = ((d.crash ks).F.map (·.1)).length := by rw [stayN_all, List.length_map]; rfl
          have hstl : ((d.crash ks).F.map (·.1)).length ≤ 40 := by rw [← hst]; exact Nat.le_trans (stayN_le _ _ _) hN
          rw [hst]
          generalize (d.crash ks).F.map (·.1) = ns at *
          clear hst
          go_wp2_with (go_at_call 36; refine HFN.out.mono ?_; rintro e z9 ⟨p9, c9, rfl, _, hb9⟩; have HI := hid (HI.out.on hb9); clear hb9)
          go_ret
          exact ⟨rfl, HI.out.a.be⟩
#print axioms driveKeeps_walk
end Go.Proofs.Ytfppmpfmafnfmaa
