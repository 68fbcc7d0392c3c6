/- The walk of DriveKnown. -/
import Derived.Test.YtfppmpfmafnfmaaEk
namespace Go.Proofs.Ytfppmpfmafnfmaa
open Go Go.RowKit

/-- Two drives that have a fuse together, or none. -/
def S2 (w wr : World) (p1 p2 : Nat) (d1 d2 : Pd) (f : Fs) : Prop := ∃ fu Z, SZ w wr ⟨p1, fu, d1⟩ ⟨p2, fu, d2⟩ Z ∧ fu.map Z = f
section
variable {w wr : World} {p1 p2 : Nat} {d1 d2 : Pd} {f : Fs}
theorem S2.be (h : S2 w wr p1 p2 d1 d2 f) : Below w.heap.size w wr := by obtain ⟨_, _, hs, _⟩ := h; exact hs.be
theorem S2.below (h : S2 w wr p1 p2 d1 d2 f) {w' : World} (hb : Below wr.heap.size wr w') : S2 w w' p1 p2 d1 d2 f := by obtain ⟨fu, Z, hs, e⟩ := h; exact ⟨fu, Z, hs.below hb, e⟩
theorem S2.alloc (h : S2 w wr p1 p2 d1 d2 f) (o : Obj) : S2 w (wr.alloc o) p1 p2 d1 d2 f := h.below ((Below.refl _ _).alloc (Nat.le_refl _) _)
theorem S2.swap (h : S2 w wr p1 p2 d1 d2 f) : S2 w wr p2 p1 d2 d1 f := by obtain ⟨fu, Z, hs, e⟩ := h; exact ⟨fu, Z, hs.swap, e⟩
theorem S2.look (h : S2 w wr p1 p2 d1 d2 f) {g : FuncId} {args : Array Value} {R : Ending → World → Prop} (hc : ∀ fu S m L, DrC wr S p1 m fu d1 L → FuAt wr S fu f → Calls Try.prog g args wr R) : Calls Try.prog g args wr R := by
  obtain ⟨fu, Z, hs, rfl⟩ := h
  exact hs.look fun S m L hd hf => hc fu S m L hd hf
theorem S2.run (h : S2 w wr p1 p2 d1 d2 f) {g : FuncId} {args : Array Value} {r0 r : Nat × Pd × Fs} (hc : ∀ fu S m L, DrC wr S p1 m fu d1 L → FuAt wr S fu f → Calls Try.prog g args wr (Done wr S p1 fu r0)) (hr : r0 = r) (hi : r.2.2.isSome = f.isSome) :
    Calls Try.prog g args wr fun e w' => e = .returned (.int .i64 (r.1 : Int)) ∧ S2 w w' p1 p2 r.2.1 d2 r.2.2 := by
  obtain ⟨fu, Z, hs, rfl⟩ := h
  subst hr
  refine (hs.run (r := r0) fun S m L hd hf => hc fu S m L hd hf).mono fun e w' ⟨h1, h2⟩ => ⟨h1, fu, _, h2, ?_⟩
  cases fu with
  | none => cases hz : r0.2.2 with
    | none => rfl
    | some z => rw [hz] at hi; cases hi
  | some q => cases hz : r0.2.2 with
    | none => rw [hz] at hi; cases hi
    | some z => simp [setZ]
theorem S2.turned (h : S2 w wr p1 p2 d1 d2 f) {g : FuncId} {args : Array Value} {r0 r : Nat × Pd} (hc : ∀ fu S m L, DrC wr S p1 m fu d1 L → Calls Try.prog g args wr (TurnAt wr S p1 fu r0)) (hr : r0 = r) :
    Calls Try.prog g args wr fun e w' => e = .returned (.int .i64 (r.1 : Int)) ∧ S2 w w' p1 p2 r.2 d2 f := by
  obtain ⟨fu, Z, hs, rfl⟩ := h
  subst hr
  exact (hs.turned (r := r0) fun S m L hd => hc fu S m L hd).mono fun e w' ⟨h1, h2⟩ => ⟨h1, fu, _, h2, rfl⟩
theorem S2.offline (h : S2 w wr p1 p2 d1 d2 f) (b : Bool) {d3 : Pd} (hr : { d1 with offl := b } = d3) :
    Calls Try.prog 27 #[ptr p1, .bool b] wr fun e w' => e = .returned (.int .i64 0) ∧ S2 w w' p1 p2 d3 d2 f := by
  obtain ⟨fu, Z, hs, rfl⟩ := h
  subst hr
  exact (hs.setA fun S m L hd => offline_any hd b).mono fun e w' ⟨h1, h2⟩ => ⟨h1, fu, _, h2, rfl⟩
theorem S2.write (h : S2 w wr p1 p2 d1 d2 f) (s : Nm) (hs : s.length ≤ maxLen) (po : Option Addr) (c : Nat) (bs : List Nat) (h8 : ∀ y ∈ bs, y < 256) (hx : BAt wr po bs) (hn : bs.length ≤ 140737488355328) (ho : d1.ops < 1000000000000) (hl : d1.F.length < 1000000000000) {r : Nat × Pd × Fs} (hr : d1.write f s bs = r) (hi : r.2.2.isSome = f.isSome) :
    Calls Try.prog 23 #[ptr p1, sv s, .slice po bs.length c] wr fun e w' => e = .returned (.int .i64 (r.1 : Int)) ∧ S2 w w' p1 p2 r.2.1 d2 r.2.2 :=
  h.run (fun _ _ _ _ hd hf => write_any hd hf s hs po c bs h8 hx hn ho hl) hr hi
theorem S2.sync (h : S2 w wr p1 p2 d1 d2 f) (s : Nm) (hs : s.length ≤ maxLen) (ho : d1.ops < 1000000000000) (hl : d1.F.length < 1000000000000) {r : Nat × Pd × Fs} (hr : d1.sync f s = r) (hi : r.2.2.isSome = f.isSome) :
    Calls Try.prog 24 #[ptr p1, sv s] wr fun e w' => e = .returned (.int .i64 (r.1 : Int)) ∧ S2 w w' p1 p2 r.2.1 d2 r.2.2 :=
  h.run (fun _ _ _ _ hd hf => sync_any hd hf s hs ho hl) hr hi
theorem S2.rename (h : S2 w wr p1 p2 d1 d2 f) (s t : Nm) (hs : s.length ≤ maxLen) (ht : t.length ≤ maxLen) (ho : d1.ops < 1000000000000) (hl : d1.F.length < 1000000000000) {r : Nat × Pd × Fs} (hr : d1.rename f s t = r) (hi : r.2.2.isSome = f.isSome) :
    Calls Try.prog 25 #[ptr p1, sv s, sv t] wr fun e w' => e = .returned (.int .i64 (r.1 : Int)) ∧ S2 w w' p1 p2 r.2.1 d2 r.2.2 :=
  h.run (fun _ _ _ _ hd hf => rename_any hd hf s t hs ht ho hl) hr hi
theorem S2.delete (h : S2 w wr p1 p2 d1 d2 f) (s : Nm) (hs : s.length ≤ maxLen) (ho : d1.ops < 1000000000000) {r : Nat × Pd × Fs} (hr : d1.delete f s = r) (hi : r.2.2.isSome = f.isSome) :
    Calls Try.prog 26 #[ptr p1, sv s] wr fun e w' => e = .returned (.int .i64 (r.1 : Int)) ∧ S2 w w' p1 p2 r.2.1 d2 r.2.2 :=
  h.run (fun _ _ _ _ hd hf => delete_any hd hf s hs ho) hr hi
theorem S2.turn (h : S2 w wr p1 p2 d1 d2 f) (s : Nm) (hs : s.length ≤ maxLen) (a : Int) (ha : -9223372036854775808 ≤ a ∧ a ≤ 9223372036854775807) (mask : Nat) (hm : mask < 256) {r : Nat × Pd} (hr : d1.turn s a mask = r) :
    Calls Try.prog 29 #[ptr p1, sv s, .int .i64 a, .int .u8 (mask : Int)] wr fun e w' => e = .returned (.int .i64 (r.1 : Int)) ∧ S2 w w' p1 p2 r.2 d2 f :=
  h.turned (fun _ _ _ _ hd => turn_any hd s hs a ha mask hm) hr
theorem S2.read (h : S2 w wr p1 p2 d1 d2 f) (s : Nm) (hs : s.length ≤ maxLen) {er : Nat} {bs : List Nat} (h1 : d1.readE f s = er) (h2 : d1.readB f s = bs) :
    Calls Try.prog 21 #[ptr p1, sv s] wr fun e w' => ∃ po c, e = .returned (.tuple #[.slice po bs.length c, .int .i64 (er : Int)]) ∧ S2 w w' p1 p2 d1 d2 f := by
  subst h1 h2
  exact (h.look fun _ _ _ _ hd hf => read_any hd hf s hs).mono fun e w' ⟨po, c, e1, _, hb⟩ => ⟨po, c, e1, h.below hb⟩
theorem S2.up (h : S2 w wr p1 p2 d1 d2 f) {b : Bool} (hr : d1.up f = b) : Calls Try.prog 34 #[ptr p1] wr fun e w' => e = .returned (.bool b) ∧ w' = wr := by
  subst hr
  exact h.look fun _ _ _ _ hd hf => up_any hd hf
theorem S2.names (h : S2 w wr p1 p2 d1 d2 f) (hl : d1.F.length < 1000000000000) {ns : List Nm} (hr : d1.list f [] = ns) :
    Calls Try.prog 36 #[ptr p1] wr fun e w' => ∃ po c, e = .returned (.slice po ns.length c) ∧ TxtAt w' (.slice po ns.length c) ns ∧ S2 w w' p1 p2 d1 d2 f := by
  subst hr
  exact (h.look fun _ _ _ _ hd hf => lnames_any hd hf hl).mono fun e w' ⟨po, c, e1, h2, h3⟩ => ⟨po, c, e1, h2.at, h.below h3⟩
theorem S2.crash (h : S2 w wr p1 p2 d1 d2 none) (ks : List Bool) (po : Option Addr) (c : Nat) (hk : ∀ S : Nat → Prop, (∀ b, S b → b < wr.heap.size) → (∀ b, S b → w.heap.size ≤ b) → DrAt wr S p1 none d1 → KAt wr S po ks) (hkn : ks.length ≤ 1000000000) (hl : d1.F.length < 1000000000000) {d3 : Pd} (hr : d1.crash ks = d3) :
    Calls Try.prog 30 #[ptr p1, .slice po ks.length c] wr fun e w' => e = .returned (.int .i64 0) ∧ S2 w w' p1 p2 d3 d2 none := by
  obtain ⟨fu, Z, hs, e⟩ := h
  have : fu = none := by cases fu <;> simp at e; rfl
  subst this hr
  exact (hs.crash po c ks hk hkn hl).mono fun e w' ⟨h1, h2⟩ => ⟨h1, none, _, h2, rfl⟩
theorem S2.fuse (h : S2 w wr p1 p2 d1 d2 f) (bl c : Nat) (hc : CAt wr bl #[ptr p1, ptr p2] 23) (n : Nat) (hn : n ≤ 9223372036854775807) {d3 d4 : Pd} (h3 : d1.lit f = d3) (h4 : d2.lit f = d4) :
    Calls Try.prog 14 #[.slice (some ⟨bl, 0, none⟩) 2 c, .int .i64 (n : Int)] wr fun e w' => e = .returned (.int .i64 0) ∧ S2 w w' p1 p2 d3 d4 (some (n, false)) := by
  obtain ⟨fu, Z, hs, rfl⟩ := h
  subst h3 h4
  exact (hs.fuse2 bl c hc n hn).mono fun e w' ⟨h1, q, _, _, h2⟩ => ⟨h1, some q, _, h2, by simp⟩
/-- The last crash: but the first drive is looked at behind it. -/
theorem S2.crash1 (h : S2 w wr p1 p2 d1 d2 f) (ks : List Bool) (o : Obj) (bl c : Nat) (hbl : bl = wr.heap.size) (hk : ∀ i, i < ks.length → (wr.alloc o).cell? ⟨bl, i, none⟩ = some (.bool (ks.getD i false))) (hkn : ks.length ≤ 1000000000) (hl : d1.F.length < 1000000000000) {d3 : Pd} (hr : d1.crash ks = d3) (hl3 : d3.F.length < 1000000000000) {ns : List Nm} (hn : d3.list none [] = ns) :
    Calls Try.prog 30 #[ptr p1, .slice (some ⟨bl, 0, none⟩) ks.length c] (wr.alloc o) fun e w' => e = .returned (.int .i64 0) ∧ Below w.heap.size w w' ∧
      Calls Try.prog 36 #[ptr p1] w' fun e w2 => ∃ po c, e = .returned (.slice po ns.length c) ∧ TxtAt w2 (.slice po ns.length c) ns ∧ Below w'.heap.size w' w2 := by
  obtain ⟨fu, Z, hs, rfl⟩ := h
  subst hbl hr hn
  have hkk : ∀ S : Nat → Prop, (∀ b, S b → b < wr.heap.size) → KAt (wr.alloc o) S (some ⟨wr.heap.size, 0, none⟩) ks := fun S hlt => Or.inr ⟨wr.heap.size, 0, rfl, fun hS => by have := hlt _ hS; omega, fun i hi => by rw [Nat.zero_add]; exact hk i hi⟩
  obtain ⟨S0, S1, hs⟩ := hs
  have hlt := hs.lt (i := 0) (by omega)
  have hs' := hs.below (((Below.refl _ _).alloc (Nat.le_refl _) o))
  refine (hs'.crash (i := 0) (by omega) (some ⟨wr.heap.size, 0, none⟩) c ks (hkk _ hlt) hkn hl).mono fun e w' ⟨h1, h2, _⟩ => ⟨h1, h2.be, ?_⟩
  obtain ⟨m, L, hd⟩ := h2.dr 0 (by omega)
  exact (lnames_any (f := none) hd trivial hl3).mono fun e w2 ⟨po, c, e1, k2, k3⟩ => ⟨po, c, e1, k2.at, k3⟩
end
theorem kbit (w : World) (b : Bool) (t : TypeId) : ∀ i, i < [b].length → (w.alloc (.cells #[.bool b] t)).cell? ⟨w.heap.size, i, none⟩ = some (.bool ([b].getD i false)) := fun i hi => by
  have : i = 0 := by simpa using hi
  subst this
  exact (CAt.made w #[.bool b] t).cell 0
def kn3 : Pd := ⟨10, 3, false, false, false, [([97], ([97, 98, 99, 100], false)), ([98], ([49, 50], true))]⟩
def kn4 : Pd := ⟨10, 4, false, false, false, [([97], ([97, 98, 99, 100], false)), ([99], ([49, 50], true))]⟩
def kn5 : Pd := ⟨10, 4, false, false, false, [([97], ([97, 98, 99, 100], false))]⟩
def kn6 : Pd := ⟨10, 4, true, false, false, [([97], ([97, 98, 99, 100], false))]⟩
def kn7 : Pd := ⟨10, 5, false, false, false, [([97], ([97, 98, 99, 100], false)), ([100], ([1], true))]⟩
def kn8 : Pd := ⟨10, 5, false, false, false, [([97], ([97, 98, 99, 100], false)), ([100], ([1], false))]⟩
theorem kn_w : aw2.write none [98] [49, 50] = (0, kn3, none) := rfl
theorem kn_r : kn3.rename none [98] [99] = (0, kn4, none) := rfl
theorem kn_c : kn4.crash [] = kn5 := rfl
theorem kn_d : kn5.write (some (1, false)) [100] [1] = (0, kn7, some (0, false)) := rfl
theorem kn_x : kn7.delete (some (0, false)) [97] = (11, kn7, some (0, true)) := rfl
theorem kn_o : (fresh 10).write (some (0, true)) [100] [] = (11, fresh 10, some (0, true)) := rfl
theorem kn_k : kn7.crash [true] = kn8 := rfl
set_option maxHeartbeats 4000000 in
set_option maxRecDepth 100000 in
theorem driveKnown_walk (w : World) : Calls Try.prog 8 #[] w fun e w' => e = .returned (.bool true) ∧ Below w.heap.size w w' := by
  have HNW := hid (fun W => new_ok 10 (by omega) (by omega) W)
  have hcv := fun (w : World) (C : Array Value) (n c : Nat) => Lib.run_convert_bytes_const (P := Try.prog) w 33 5 C n c Try.underlying33 Try.underlying5
  have HAW := hid awake_any
  have t1 : True := trivial
  have t2 : True := trivial
  have t3 : True := trivial
  have t4 : True := trivial
  have t5 : True := trivial
  have t6 : True := trivial
  have t7 : True := trivial
  have t8 : True := trivial
  have t9 : True := trivial
  have ta : True := trivial
  have tb : True := trivial
  have tc : True := trivial
  have td : True := trivial
  have te : True := trivial
  go_enter Try.func8, Try.ntmps8
  go_wp2_with (first
    | (go_at_call 9; have _t := t1; refine (HNW.out w).mono ?_; rintro e w1 ⟨pa, rfl, hd2, hb2⟩; have HDA := hid (AW.made hd2 hb2); have HB1 := hid hb2; have s1 := hb2.size; clear hd2 hb2 t1)
    | (go_at_call 9; refine (HNW.out w1).mono ?_; rintro e w2 ⟨pb, rfl, hd3, hb3⟩; have HDB := hid ((AW.made hd3 hb3).base HB1.out); have HDA := hid (HDA.out.below hb3); have s2 := hb3.size
       have HS : Hid (S2 w w2 pa pb (fresh 10) (fresh 10) none) := hid ⟨none, fun _ => (0, false), sz_of HDA.out HDB.out (fun b h1 h2 => by have := h1.2; have := h2.1; omega) _, rfl⟩
       clear hd3 hb3 HDA HDB s1 s2)
    | (go_at_call 23; have _t := t2; refine ((HS.out.alloc _).write [97] (by unfold maxLen; simp) _ _ [97, 98, 99, 100] (by decide) (lit_at _ _ rfl [97, 98, 99, 100] _) (by decide) (by decide) (by decide) aw_w rfl).mono ?_; rintro e w3 ⟨rfl, hs3⟩; have HS := hid hs3; clear hs3 t2)
    | (go_at_call 24; refine (HS.out.sync [97] (by unfold maxLen; simp) (by decide) (by decide) aw_s rfl).mono ?_; rintro e w4 ⟨rfl, hs4⟩; have HS := hid hs4; clear hs4)
    | (go_at_call 23; have _t := t3; refine ((HS.out.alloc _).write [98] (by unfold maxLen; simp) _ _ [49, 50] (by decide) (lit_at _ _ rfl [49, 50] _) (by decide) (by decide) (by decide) kn_w rfl).mono ?_; rintro e w5 ⟨rfl, hs5⟩; have HS := hid hs5; clear hs5 t3)
    | (go_at_call 25; refine (HS.out.rename [98] [99] (by unfold maxLen; simp) (by unfold maxLen; simp) (by decide) (by decide) kn_r rfl).mono ?_; rintro e w6 ⟨rfl, hs6⟩; have HS := hid hs6; clear hs6)
    | (go_at_call 30; have _t := t4; refine (HS.out.crash [] none 0 (fun _ _ _ _ => Or.inl rfl) (by decide) (by decide) kn_c).mono ?_; rintro e w7 ⟨rfl, hs7⟩; have HS := hid hs7; clear hs7 t4)
    | (go_at_call 36; have _t := t5; refine (HS.out.names (by decide) (ns := [[97]]) rfl).mono ?_; rintro e w8 ⟨pn, cn, rfl, htx, hs8⟩; have HS := hid hs8; have HTX := hid htx; clear htx hs8 t5)
    | (go_at_call 39; have _t := t6; refine (sameTexts_true _ _ [[97]] _ (by decide) (HTX.out.below ((Below.refl _ _).alloc (Nat.le_refl _) _)) (txt_one _ _ _ _ _ rfl)).mono ?_; rintro e w9 ⟨rfl, k9, hw9⟩; have HS : Hid (S2 w w9 pa pb kn5 (fresh 10) none) := hid (by rw [hw9]; exact (HS.out.alloc _).below (below_drewN _ k9)); clear hw9 HTX t6)
    | (go_at_call 21; have _t := t7; refine (HS.out.read [97] (by unfold maxLen; simp) (er := 0) (bs := [97, 98, 99, 100]) rfl rfl).mono ?_; rintro e w10 ⟨pr1, cr1, rfl, hs10⟩; have HS := hid hs10; clear hs10 t7)
    | (go_at_call 27; have _t := t8; refine (HS.out.offline true (d3 := kn6) rfl).mono ?_; rintro e w11 ⟨rfl, hs11⟩; have HS := hid hs11; clear hs11 t8)
    | (go_at_call 21; have _t := t9; refine (HS.out.read [97] (by unfold maxLen; simp) (er := 12) (bs := []) rfl rfl).mono ?_; rintro e w12 ⟨pr2, cr2, rfl, hs12⟩; have HS := hid hs12; clear hs12 t9)
    | (go_at_call 34; refine (HS.out.up (b := false) rfl).mono ?_; rintro e w' ⟨rfl, hw'⟩; have hw2 := hw'.symm; subst hw2)
    | (go_at_call 27; refine (HS.out.offline false (d3 := kn5) rfl).mono ?_; rintro e w13 ⟨rfl, hs13⟩; have HS := hid hs13; clear hs13)
    | (go_at_call 21; have _t := ta; refine (HS.out.read [97] (by unfold maxLen; simp) (er := 0) (bs := [97, 98, 99, 100]) rfl rfl).mono ?_; rintro e w14 ⟨pr3, cr3, rfl, hs14⟩; have HS := hid hs14; clear hs14 ta)
    | (go_at_call 29; have _t := tb; refine (HS.out.turn [97] (by unfold maxLen; simp) 4 (by omega) 1 (by omega) (r := (5, kn5)) rfl).mono ?_; rintro e w15 ⟨rfl, hs15⟩; have HS := hid hs15; clear hs15 tb)
    | (go_at_call 29; refine (HS.out.turn [120] (by unfold maxLen; simp) 0 (by omega) 1 (by omega) (r := (6, kn5)) rfl).mono ?_; rintro e w16 ⟨rfl, hs16⟩; have HS := hid hs16; clear hs16)
    | (go_at_call 23; have _t := tc; refine (HS.out.write [97, 32, 98] (by unfold maxLen; simp) none 0 [] (by decide) (Or.inl ⟨rfl, rfl⟩) (by decide) (by decide) (by decide) (r := (13, kn5, none)) rfl rfl).mono ?_; rintro e w17 ⟨rfl, hs17⟩; have HS := hid hs17; clear hs17 tc)
    | (go_at_call 14; refine ((HS.out.alloc _).fuse _ _ (CAt.made _ _ _) 1 (by omega) (d3 := kn5) (d4 := fresh 10) rfl rfl).mono ?_; rintro e w18 ⟨rfl, hs18⟩; have HS := hid hs18; clear hs18)
    | (go_at_call 23; have _t := td; refine ((HS.out.alloc _).write [100] (by unfold maxLen; simp) _ _ [1] (by decide) (lit_at _ _ rfl [1] _) (by decide) (by decide) (by decide) kn_d rfl).mono ?_; rintro e w19 ⟨rfl, hs19⟩; have HS := hid hs19; clear hs19 td)
    | (go_at_call 26; refine (HS.out.delete [97] (by unfold maxLen; simp) (by decide) kn_x rfl).mono ?_; rintro e w20 ⟨rfl, hs20⟩; have HS := hid hs20; clear hs20)
    | (go_at_call 23; refine (HS.out.swap.write [100] (by unfold maxLen; simp) none 0 [] (by decide) (Or.inl ⟨rfl, rfl⟩) (by decide) (by decide) (by decide) kn_o rfl).mono ?_; rintro e w21 ⟨rfl, hs21⟩; have HS := hid hs21.swap; clear hs21)
    | (go_at_call 21; refine (HS.out.read [97] (by unfold maxLen; simp) (er := 11) (bs := []) rfl rfl).mono ?_; rintro e w22 ⟨pr4, cr4, rfl, hs22⟩; have HS := hid hs22; clear hs22)
    | (go_at_call 20; refine (HAW.out w22).mono ?_; rintro e w23 ⟨rfl, hb23⟩; have HS := hid (HS.out.below hb23); clear hb23)
    | (go_at_call 30; go_loud (refine (HS.out.crash1 [true] _ _ 1 rfl (kbit _ _ _) (by decide) (by decide) kn_k (by decide) (ns := [[97], [100]]) rfl).mono ?_); rintro e w24 ⟨rfl, hb24, hc24⟩; have HB := hid hb24; have HC := hid hc24; clear hb24 hc24)
    | (go_at_call 36; refine HC.out.mono ?_; rintro e w25 ⟨pm, cm, rfl, htx, hb25⟩; have HB := hid (below_on _ _ HB.out hb25); have HTX := hid htx; clear htx hb25)
    | (go_at_call 39; refine (sameTexts_true _ _ [[97], [100]] _ (by decide) (HTX.out.below ((Below.refl _ _).alloc (Nat.le_refl _) _)) (txt_two _ _ _ _ _ _ rfl)).mono ?_; rintro e w26 ⟨rfl, k26, hw26⟩; have HB : Hid (Below w.heap.size w w26) := hid (by rw [hw26]; exact below_on _ _ (below_on _ _ HB.out ((Below.refl _ _).alloc (Nat.le_refl _) _)) (below_drewN _ k26)); clear hw26 HTX))
  go_ret
  exact ⟨rfl, HB.out⟩
#print axioms driveKnown_walk
end Go.Proofs.Ytfppmpfmafnfmaa
