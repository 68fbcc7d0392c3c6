/- Texts laid into one: the remark ahead of each part says what is proved there. -/
import Derived.Test.YtklchjfkkbpipaaGreatDoorPaa
import Derived.Test.YtklchjfkkbpipaaGreatDoorPab
import Derived.Test.YtklchjfkkbpipaaGreatDoorPac
import Derived.Test.YtklchjfkkbpipaaGreatDoorPad
import Derived.Test.YtklchjfkkbpipaaGreatDoorPae
import Derived.Test.YtklchjfkkbpipaaGreatDoorPaf
import Derived.Test.YtklchjfkkbpipaaGreatDoorPag
import Derived.Test.YtklchjfkkbpipaaGreatDoorPah
import Derived.Test.YtklchjfkkbpipaaGreatDoorPai
import Derived.Test.YtklchjfkkbpipaaGreatDoorPaj
import Derived.Test.YtklchjfkkbpipaaGreatDoorPak
import Derived.Test.YtklchjfkkbpipaaGreatDoorPal
import Derived.Test.YtklchjfkkbpipaaGreatDoorPam
import Derived.Test.YtklchjfkkbpipaaGreatDoorPan
import Derived.Test.YtklchjfkkbpipaaGreatDoorPao
import Derived.Test.YtklchjfkkbpipaaGreatDoorRaa
import Derived.Test.YtklchjfkkbpipaaGreatDoorRac
/- FanKnown: what the chapter's examples come to; the walk. -/
namespace Go.Proofs.YtklchjfkkbpipaaGreatDoor
open Go Go.RowKit Go.Shelf

def tri {α : Type} (a b c : α) : Nat → α | 0 => a | 1 => b | _ => c
abbrev K3 (w W : World) (v0 v1 v2 : Value) (p0 p1 p2 : Nat → Nat) (X0 X1 X2 : FS) (c : Nat) (Z : Nat → Prop) : Prop := KX w W 3 (tri v0 v1 v2) (tri p0 p1 p2) (tri X0 X1 X2) (tri 0 0 c) Z
theorem KX.nrm {w W : World} {lv : Nat → Value} {p : Nat → Nat → Nat} {X : Nat → FS} {c : Nat → Nat} {Z : Nat → Prop} (h : KX w W 3 lv p X c Z) : KX w W 3 (tri (lv 0) (lv 1) (lv 2)) (tri (p 0) (p 1) (p 2)) (tri (X 0) (X 1) (X 2)) (tri (c 0) (c 1) (c 2)) Z := by
  obtain ⟨T, h⟩ := h
  have t : ∀ {α : Type} (f : Nat → α) (a : Nat), a < 3 → tri (f 0) (f 1) (f 2) a = f a := fun f a ha => by
    have : a = 0 ∨ a = 1 ∨ a = 2 := by omega
    rcases this with rfl | rfl | rfl <;> rfl
  exact ⟨T, fun a ha => by rw [t p a ha, t X a ha, t c a ha]; exact h.fa a ha, fun a ha => by rw [t lv a ha, t p a ha]; exact h.ls a ha, h.dj, fun a e ha he => by rw [t lv a ha]; exact h.lj a e ha he, h.be, h.zt⟩
def kl0 : FS := ⟨fun _ => fresh 100, none⟩
def offF (X : FS) (i : Nat) : FS := ⟨upd X.d i { X.d i with offl := true }, X.f⟩
def kl1 : FS := offF kl0 1
def rl : Nat × (Nat → Bool) × FS := comM 3 xy3 2 kl1
def km2 : FS := offF (offF kl0 0) 1
def rm : Nat × (Nat → Bool) × FS := comM 3 xy3 2 km2
def ko1 : FS := ⟨fun i => (kl0.d i).lit kl0.f, some (7, false)⟩
def ro : Nat × (Nat → Bool) × FS := comM 3 xy3 2 ko1
def crI (X : FS) (i : Nat) : FS := ⟨fun j => if j < i then (X.d j).crash [] else X.d j, X.f⟩
def ko3 : FS := ⟨(crI ro.2.2 3).d, none⟩
theorem rl_e : rl.1 = 0 := by decide
theorem rl_w : rl.2.1 0 = true ∧ rl.2.1 1 = false ∧ rl.2.1 2 = true := by decide
theorem rl_r : rdN 3 rl.2.2 [97] = 0 := by decide
theorem rl_0 : (rl.2.2.d 0).readE rl.2.2.f [97] = 0 := by decide
theorem rl_1 : (rl.2.2.d 1).readE rl.2.2.f [97] = 12 := by decide
theorem rm_e : rm.1 = 10 := by decide
theorem rm_l : (rm.2.2.d 2).list rm.2.2.f [] = [] := by decide
theorem rm_n : (rm.2.2.d 2).F.length = 0 := by decide
theorem ro_e : ro.1 = 11 := by decide
theorem ro_n : ∀ i, i < 3 → ((crI ro.2.2 i).d i).F.length = 1 := by decide
theorem ko_n : ∀ i, i < 3 → (ko3.d i).F.length = 1 := by decide
theorem ko_0 : (ko3.d 0).list ko3.f [] = [[97]] := by decide
theorem ko_1 : (ko3.d 1).list ko3.f [] = [[116, 109, 112, 47, 97]] := by decide
theorem ko_2 : (ko3.d 2).list ko3.f [] = [[116, 109, 112, 47, 97]] := by decide
theorem kl_arg : comM 3 [] 2 rl.2.2 = (2, fun _ => false, rl.2.2) := rfl
def tm3 : List (List Fl) := List.replicate 3 [([116, 109, 112, 47, 97], [])]
theorem kl_name : comM 3 tm3 2 rl.2.2 = (13, fun _ => false, rl.2.2) := rfl
theorem crI_next (X : FS) (i : Nat) : (⟨upd (crI X i).d i (((crI X i).d i).crash []), (crI X i).f⟩ : FS) = crI X (i + 1) := by
  unfold crI
  simp only [FS.mk.injEq, and_true]
  funext j
  by_cases e : j = i
  · subst e; simp [upd]
  · simp only [upd, if_neg e]
    by_cases h : j < i
    · rw [if_pos h, if_pos (by omega)]
    · rw [if_neg h, if_neg (by omega)]
theorem kb0 : ∀ i, i < 3 → Bnd 1000000000 1000000000 (kl1.d i) := fun i hi => by
  have : i = 0 ∨ i = 1 ∨ i = 2 := by omega
  rcases this with rfl | rfl | rfl <;> exact ⟨Nat.zero_le _, Nat.zero_le _⟩
theorem kb1 : ∀ i, i < 3 → Bnd 1000000000 1000000000 (km2.d i) := fun i hi => by
  have : i = 0 ∨ i = 1 ∨ i = 2 := by omega
  rcases this with rfl | rfl | rfl <;> exact ⟨Nat.zero_le _, Nat.zero_le _⟩
theorem kb2 : ∀ i, i < 3 → Bnd 1000000000 1000000000 (ko1.d i) := fun i hi => by
  have : i = 0 ∨ i = 1 ∨ i = 2 := by omega
  rcases this with rfl | rfl | rfl <;> exact ⟨Nat.zero_le _, Nat.zero_le _⟩
theorem kb3 : ∀ i, i < 3 → Bnd 1000000000 1000000000 (rl.2.2.d i) := fun i hi => by
  have h1 : ∀ i, i < 3 → (rl.2.2.d i).F.length ≤ 10 := by decide
  have h2 : ∀ i, i < 3 → (rl.2.2.d i).ops ≤ 10 := by decide
  have := h1 i hi; have := h2 i hi
  exact ⟨by omega, by omega⟩
theorem KX.zlt {w W : World} {n : Nat} {lv : Nat → Value} {p : Nat → Nat → Nat} {X : Nat → FS} {c : Nat → Nat} {Z : Nat → Prop} (h : KX w W n lv p X c Z) {b : Nat} (hz : Z b) : b < W.heap.size := by obtain ⟨T, h⟩ := h; exact (h.zt b hz).1
theorem pick3 {w W : World} {v0 v1 v2 : Value} {p0 p1 p2 : Nat → Nat} {X0 X1 X2 : FS} {c : Nat} {Z : Nat → Prop} (h : K3 w W v0 v1 v2 p0 p1 p2 X0 X1 X2 c Z) :
    (∃ b q, v0 = .slice (some ⟨b, 0, none⟩) 3 q ∧ ∀ j, j < 3 → W.cell? ⟨b, j, none⟩ = some (ptr (p0 j))) ∧ (∃ b q, v1 = .slice (some ⟨b, 0, none⟩) 3 q ∧ ∀ j, j < 3 → W.cell? ⟨b, j, none⟩ = some (ptr (p1 j))) ∧ (∃ b q, v2 = .slice (some ⟨b, 0, none⟩) 3 q ∧ ∀ j, j < 3 → W.cell? ⟨b, j, none⟩ = some (ptr (p2 j))) :=
  ⟨h.cell (a := 0) (by omega), h.cell (a := 1) (by omega), h.cell (a := 2) (by omega)⟩
/-- Files of the statements' own, and a Commit of them. -/
theorem eachC {W0 W1 : World} {x : FlV} (hx : x.ok W1 (fun b => b < W0.heap.size)) (hb : Below W0.heap.size W0 W1) : Calls Tryz.prog 33 #[.int .i64 3, sv x.nm, x.bv] W1 fun e W2 => ∃ fv : FsV, e = .returned fv.v ∧ fv.ok W2 (fun b => b < W0.heap.size) ∧ fv.l.map RowV.fl = List.replicate 3 [x.fl] ∧ Below W0.heap.size W0 W2 :=
  (leach_any W1 _ (fun b hb' => Nat.lt_of_lt_of_le hb' hb.size) x hx 3 (by omega) (by omega)).mono fun _ _ ⟨fv, h1, h2, h3, h4⟩ => ⟨fv, h1, h2, h3, below_on _ _ hb h4⟩
theorem one_len {fv : FsV} {x : Fl} (h : fv.l.map RowV.fl = List.replicate 3 [x]) : fv.l.length ≤ 1000 ∧ ∀ r ∈ fv.l, r.l.length ≤ 1000 := by
  refine ⟨by have := congrArg List.length h; simp at this; omega, fun r hr => ?_⟩
  have : r.fl ∈ fv.l.map RowV.fl := List.mem_map_of_mem hr
  rw [h] at this
  have := List.eq_of_mem_replicate this
  have := congrArg List.length this
  simp [RowV.fl] at this
  omega
set_option maxHeartbeats 4000000 in
set_option maxRecDepth 100000 in
theorem fanKnown_walk (w : World) (hE : Erh w) : Calls Tryz.prog 7 #[] w fun e w' => e = .returned (.bool true) ∧ Below w.heap.size w w' := by
  have HE := hid hE
  clear hE
  have hcv := fun (w : World) (C : Array Value) (n c : Nat) => Lib.run_convert_bytes_const (P := Tryz.prog) w 30 5 C n c Tryz.underlying30 Tryz.underlying5
  have K0 := hid (KX.start w (fun _ => .slice none 0 0) (fun _ _ => 0) (fun _ => kl0) (fun _ => 0))
  have t1 : True := trivial
  have t2 : True := trivial
  go_enter Tryz.func7, Tryz.ntmps7
  go_upto_region 6 with (first
    | (go_at_call 21; have _t := t1; refine (K0.out.made 100 (by omega) (by omega)).mono ?_; rintro e w1 ⟨v0, q0, rfl, hk⟩; have K1 := hid hk; clear hk t1)
    | (go_at_call 21; have _t := t2; refine (K1.out.made 100 (by omega) (by omega)).mono ?_; rintro e w2 ⟨v1, q1, rfl, hk⟩; have K2 := hid hk; clear hk t2)
    | (go_at_call 21; refine (K2.out.made 100 (by omega) (by omega)).mono ?_; rintro e w3 ⟨v2, q2, rfl, hk⟩; have HK3 : Hid (K3 w w3 v0 v1 v2 q0 q1 q2 kl0 kl0 kl0 0 (fun _ => False)) := hid hk.nrm; clear hk))
  clear K0 K1 K2
  obtain ⟨⟨b0, z0, e0, hc0⟩, ⟨b1, z1, e1, hc1⟩, ⟨b2, z2, e2, hc2⟩⟩ := pick3 HK3.out
  subst e0 e1 e2
  have x01 := hc0 1 (by omega)
  clear hc0 hc1 hc2
  go_upto_region 7 with (go_at_call 25; refine (HK3.out.offline (a := 0) (i := 1) (by omega) (by omega) true).mono ?_; rintro e w4 ⟨rfl, hk, -⟩; have HK4 : Hid (K3 w w4 (.slice (some ⟨b0, 0, none⟩) 3 z0) (.slice (some ⟨b1, 0, none⟩) 3 z1) (.slice (some ⟨b2, 0, none⟩) 3 z2) q0 q1 q2 kl1 kl0 kl0 0 (fun _ => False)) := hid hk.nrm; clear hk)
  clear x01
  go_upto_region 8 with (first
    | (go_at_call 33; refine (eachC (W0 := w4) (x := ⟨[97], some ⟨w4.heap.size, 0, none⟩, 2, [120, 121]⟩) (xyok w4 _ (fun _ h => h) [97] (by simp) 2 _) ((Below.refl _ _).alloc (Nat.le_refl _) _)).mono ?_; rintro e w5 ⟨fv, rfl, hf5, hm5, hb5⟩; have HF5 := hid hf5; have HM5 : Hid (fv.l.map RowV.fl = xy3) := hid hm5; have HB5 := hid hb5; clear hf5 hm5 hb5)
    | (go_at_call 15; have hq := HK4.out.commit HE.out (a := 0) (by omega) rfl HB5.out kb0 fv HF5.out (one_len HM5.out).1 (one_len HM5.out).2 2; rw [HM5.out] at hq; refine hq.mono ?_; rintro e w6 ⟨av, bw, rfl, hk, -, hr⟩; have HR6 : Hid (av = .slice (some ⟨bw, 0, none⟩) 3 3 ∧ WlAt w6 bw 3 rl.2.1) := hid (hr.resolve_left (fun h => h.1 rl_e)).2; rw [show (comM 3 xy3 2 (tri kl1 kl0 kl0 0)).1 = 0 from rl_e]; have HK6 : Hid (K3 w w6 (.slice (some ⟨b0, 0, none⟩) 3 z0) (.slice (some ⟨b1, 0, none⟩) 3 z1) (.slice (some ⟨b2, 0, none⟩) 3 z2) q0 q1 q2 rl.2.2 kl0 kl0 0 (fun b => b = bw)) := hid (hk.nrm.less (fun b hb => .inr ⟨rl_e, hb⟩)); clear hk hr hq))
  obtain ⟨ea, hwa⟩ := HR6.out
  subst ea
  have HWA := hid hwa
  clear hwa HR6 HF5 HM5 HB5 HK4 HK3
  go_upto_region 9 with (go_at_call 14; refine (HK6.out.read HE.out (a := 0) (by omega) rfl [97] (by unfold maxLen; simp)).mono ?_; rintro e w7 ⟨cv, rfl, hb7, hr⟩; have HR7 := hid (hr.resolve_left (fun h => h.1 rl_r)).2; have HB7 := hid hb7; rw [show rdN 3 (tri rl.2.2 kl0 kl0 0) [97] = 0 from rl_r]; clear hr hb7)
  obtain ⟨g, hgl, eg, hcp⟩ := HR7.out
  subst eg
  obtain ⟨ZZ, hZZ⟩ : ∃ ZZ : Nat → Prop, ZZ = fun b => b = bw ∨ b = g := ⟨_, rfl⟩
  have HK7 : Hid (K3 w w7 (.slice (some ⟨b0, 0, none⟩) 3 z0) (.slice (some ⟨b1, 0, none⟩) 3 z1) (.slice (some ⟨b2, 0, none⟩) 3 z2) q0 q1 q2 rl.2.2 kl0 kl0 0 ZZ) := hid ((HK6.out.more HB7.out).less (fun b hb => by
    rw [hZZ] at hb
    rcases hb with rfl | rfl
    · exact .inl rfl
    · obtain ⟨cs, h1, _⟩ := hcp.ex; exact .inr ⟨hgl, h1.lt⟩))
  have HZb : Hid (ZZ bw ∧ ZZ g) := hid (by rw [hZZ]; exact ⟨.inl rfl, .inr rfl⟩)
  have HW7 : Hid (WlAt w7 bw 3 rl.2.1) := hid (fun j hj => by
    have h1 := HWA.out j hj
    have hbl := HB7.out.block bw (cell_lt2 h1.1)
    exact ⟨(World.cell?_of_block (a := ⟨bw, j, none⟩) hbl).trans h1.1, (by rw [← h1.2]; exact World.frozen?_of_block hbl)⟩)
  have HCP : Hid (∃ cs, CAt w7 g cs 80 ∧ cs[0]? = some (.int .i64 0) ∧ cs[2]? = some (.int .i64 12)) := hid (by
    obtain ⟨cs, h1, h2, h3⟩ := hcp.ex
    obtain ⟨_, _, a0, _, _⟩ := h3 0 (by omega)
    obtain ⟨_, _, a1, _, _⟩ := h3 1 (by omega)
    refine ⟨cs, h1, ?_, ?_⟩
    · rw [show (((tri rl.2.2 kl0 kl0 0).d 0).readE (tri rl.2.2 kl0 kl0 0).f [97] : Nat) = 0 from rl_0] at a0; exact a0
    · rw [show (((tri rl.2.2 kl0 kl0 0).d 1).readE (tri rl.2.2 kl0 kl0 0).f [97] : Nat) = 12 from rl_1] at a1; exact a1)
  clear hcp hgl hZZ HR7 HK6 HWA HB7
  obtain ⟨-, ⟨_, _, e1, hc1⟩, -⟩ := pick3 HK7.out
  cases e1
  have x10 := hc1 0 (by omega)
  clear hc1
  go_upto_region 10 with (go_at_call 25; refine (HK7.out.offline (a := 1) (i := 0) (by omega) (by omega) true).mono ?_; rintro e w8 ⟨rfl, hk, hz⟩; have HK8 : Hid (K3 w w8 (.slice (some ⟨b0, 0, none⟩) 3 z0) (.slice (some ⟨b1, 0, none⟩) 3 z1) (.slice (some ⟨b2, 0, none⟩) 3 z2) q0 q1 q2 rl.2.2 (offF kl0 0) kl0 0 ZZ) := hid hk.nrm; have HZ8 := hid hz; clear hk hz)
  obtain ⟨-, ⟨_, _, e1, hc1⟩, -⟩ := pick3 HK8.out
  cases e1
  clear x10
  have x11 := hc1 1 (by omega)
  clear hc1
  go_upto_region 11 with (go_at_call 25; refine (HK8.out.offline (a := 1) (i := 1) (by omega) (by omega) true).mono ?_; rintro e w9 ⟨rfl, hk, hz⟩; have HK9 : Hid (K3 w w9 (.slice (some ⟨b0, 0, none⟩) 3 z0) (.slice (some ⟨b1, 0, none⟩) 3 z1) (.slice (some ⟨b2, 0, none⟩) 3 z2) q0 q1 q2 rl.2.2 km2 kl0 0 ZZ) := hid hk.nrm; have HZ9 := hid hz; clear hk hz)
  clear x11
  go_upto_region 12 with (first
    | (go_at_call 33; refine (eachC (W0 := w9) (x := ⟨[97], some ⟨w9.heap.size, 0, none⟩, 2, [120, 121]⟩) (xyok w9 _ (fun _ h => h) [97] (by simp) 2 _) ((Below.refl _ _).alloc (Nat.le_refl _) _)).mono ?_; rintro e w10 ⟨fv, rfl, hf5, hm5, hb5⟩; have HF5 := hid hf5; have HM5 : Hid (fv.l.map RowV.fl = xy3) := hid hm5; have HB5 := hid hb5; clear hf5 hm5 hb5)
    | (go_at_call 15; have hq := HK9.out.commit HE.out (a := 1) (by omega) rfl HB5.out kb1 fv HF5.out (one_len HM5.out).1 (one_len HM5.out).2 2; rw [HM5.out] at hq; refine hq.mono ?_; rintro e w11 ⟨mv, bm, rfl, hk, hz, -⟩; rw [show (comM 3 xy3 2 (tri rl.2.2 km2 kl0 1)).1 = 10 from rm_e]; have HK11 : Hid (K3 w w11 (.slice (some ⟨b0, 0, none⟩) 3 z0) (.slice (some ⟨b1, 0, none⟩) 3 z1) (.slice (some ⟨b2, 0, none⟩) 3 z2) q0 q1 q2 rl.2.2 rm.2.2 kl0 0 ZZ) := hid (hk.nrm.less (fun b hb => .inl hb)); have HZ11 := hid hz; clear hk hq hz))
  have HEQ : Hid (∀ b, ZZ b → w11.heap[b]? = w7.heap[b]?) := hid (fun b hz => (HZ11.out b hz).trans ((HB5.out.block b (HK9.out.zlt hz)).trans ((HZ9.out b hz).trans (HZ8.out b hz))))
  have HBO : Hid (BoAt w11 (.slice (some ⟨bw, 0, none⟩) 3 3) 3 rl.2.1) := hid ⟨_, _, rfl, .inr ⟨bw, rfl, fun j hj => (World.cell?_of_block (a := ⟨bw, j, none⟩) (HEQ.out bw HZb.out.1)).trans (HW7.out j hj).1⟩⟩
  have HCG : Hid (w11.cell? ⟨g, 0, none⟩ = some (.int .i64 0) ∧ w11.cell? ⟨g, 2, none⟩ = some (.int .i64 12)) := hid (by
    obtain ⟨cs, h1, h2, h3⟩ := HCP.out
    exact ⟨(World.cell?_of_block (a := ⟨g, 0, none⟩) (HEQ.out g HZb.out.2)).trans ((h1.cell 0).trans h2), (World.cell?_of_block (a := ⟨g, 2, none⟩) (HEQ.out g HZb.out.2)).trans ((h1.cell 2).trans h3)⟩)
  clear HEQ HZ11 HZ9 HZ8 HCP HW7 HF5 HM5 HB5 HK9 HK8 HK7
  have HNA := hid (fun W (h : K3 w W (.slice (some ⟨b0, 0, none⟩) 3 z0) (.slice (some ⟨b1, 0, none⟩) 3 z1) (.slice (some ⟨b2, 0, none⟩) 3 z2) q0 q1 q2 rl.2.2 rm.2.2 kl0 0 ZZ) => h.names (a := 1) (i := 2) (by omega) rfl (by omega) (by show (rm.2.2.d 2).F.length < _; rw [rm_n]; omega))
  have HNB : Hid (∀ W, K3 w W (.slice (some ⟨b0, 0, none⟩) 3 z0) (.slice (some ⟨b1, 0, none⟩) 3 z1) (.slice (some ⟨b2, 0, none⟩) 3 z2) q0 q1 q2 rl.2.2 rm.2.2 kl0 0 ZZ → Calls Tryz.prog 35 #[ptr (q1 2)] W (NamesAt W [])) := hid (fun W h => by have := HNA.out W h; rw [show ((tri rl.2.2 rm.2.2 kl0 1).d 2).list (tri rl.2.2 rm.2.2 kl0 1).f [] = [] from rm_l] at this; exact this)
  clear HNA
  go_upto_region 13 with (first
    | (go_at_call 34; refine (sameBools_true _ _ 3 rl.2.1 _ (by omega) (HBO.out.below ((Below.refl _ _).alloc (Nat.le_refl _) _)) (bo3 _ true false true _ rl_w.1 rl_w.2.1 rl_w.2.2 _)).mono ?_; rintro e w12 ⟨rfl, k5, hw5⟩; have hb12 : Below w11.heap.size w11 w12 := (by rw [hw5]; exact below_on _ _ ((Below.refl _ _).alloc (Nat.le_refl _) _) (below_drewN _ k5)); have HK12 := hid (HK11.out.below hb12); have x0 : w12.cell? ⟨g, 0, none⟩ = some (.int .i64 0) := (World.cell?_of_block (hb12.block g (cell_lt2 HCG.out.1))).trans HCG.out.1; have x2 : w12.cell? ⟨g, 2, none⟩ = some (.int .i64 12) := (World.cell?_of_block (hb12.block g (cell_lt2 HCG.out.1))).trans HCG.out.2; have x12 : w12.cell? ⟨b1, 2, none⟩ = some (ptr (q1 2)) := (by obtain ⟨-, ⟨_, _, e1, hc1⟩, -⟩ := pick3 HK12.out; cases e1; exact hc1 2 (by omega)); clear hw5 hb12)
    | (go_at_call 35; refine (HNB.out _ HK12.out).mono ?_; rintro e w13 ⟨pl, cl7, rfl, -, hb7⟩; have HK13 := hid (HK12.out.below hb7); clear hb7 x0 x2 x12))
  have HK14 : Hid (K3 w w13 (.slice (some ⟨b0, 0, none⟩) 3 z0) (.slice (some ⟨b1, 0, none⟩) 3 z1) (.slice (some ⟨b2, 0, none⟩) 3 z2) q0 q1 q2 rl.2.2 rm.2.2 kl0 0 (fun _ => False)) := hid (HK13.out.less (fun _ h => h.elim))
  clear HK13 HK12 HK11 HBO HCG HNB HZb
  go_upto_region 15 with (go_at_call 30; refine (HK14.out.fuse (a := 2) (by omega) rfl 7 (by omega)).mono ?_; rintro e w15 ⟨rfl, hk, -⟩; have HK15 : Hid (K3 w w15 (.slice (some ⟨b0, 0, none⟩) 3 z0) (.slice (some ⟨b1, 0, none⟩) 3 z1) (.slice (some ⟨b2, 0, none⟩) 3 z2) q0 q1 q2 rl.2.2 rm.2.2 ko1 0 (fun _ => False)) := hid hk.nrm; clear hk)
  clear HK14
  go_upto_region 16 with (first
    | (go_at_call 33; refine (eachC (W0 := w15) (x := ⟨[97], some ⟨w15.heap.size, 0, none⟩, 2, [120, 121]⟩) (xyok w15 _ (fun _ h => h) [97] (by simp) 2 _) ((Below.refl _ _).alloc (Nat.le_refl _) _)).mono ?_; rintro e w16 ⟨fv, rfl, hf5, hm5, hb5⟩; have HF5 := hid hf5; have HM5 : Hid (fv.l.map RowV.fl = xy3) := hid hm5; have HB5 := hid hb5; clear hf5 hm5 hb5)
    | (go_at_call 15; have hq := HK15.out.commit HE.out (a := 2) (by omega) rfl HB5.out kb2 fv HF5.out (one_len HM5.out).1 (one_len HM5.out).2 2; rw [HM5.out] at hq; refine hq.mono ?_; rintro e w17 ⟨ov, bo, rfl, hk, -, -⟩; rw [show (comM 3 xy3 2 (tri rl.2.2 rm.2.2 ko1 2)).1 = 11 from ro_e]; have HK17 : Hid (K3 w w17 (.slice (some ⟨b0, 0, none⟩) 3 z0) (.slice (some ⟨b1, 0, none⟩) 3 z1) (.slice (some ⟨b2, 0, none⟩) 3 z2) q0 q1 q2 rl.2.2 rm.2.2 (crI ro.2.2 0) 0 (fun _ => False)) := hid (hk.nrm.less (fun _ h => h.elim)); clear hk hq))
  clear HF5 HM5 HB5 HK15
  go_wp2
  go_loopw [16] (fun v wr => ∃ k : Nat, k ≤ 3 ∧ v = .int .i64 (k : Int) ∧ K3 w wr (.slice (some ⟨b0, 0, none⟩) 3 z0) (.slice (some ⟨b1, 0, none⟩) 3 z1) (.slice (some ⟨b2, 0, none⟩) 3 z2) q0 q1 q2 rl.2.2 rm.2.2 (crI ro.2.2 k) k (fun _ => False)) (fun v _ => (3 - intOf v).toNat)
  case atStart => exact ⟨0, by omega, rfl, HK17.out⟩
  case round =>
    clear HK17
    obtain ⟨k, hk3, rfl, hK⟩ := hrel
    have HK := hid hK
    clear hK
    by_cases hlt : k < 3
    · have hlt' : (k : Int) < 3 := by omega
      obtain ⟨-, -, ⟨_, _, e1, hc1⟩⟩ := pick3 HK.out
      cases e1
      have xk := hc1 k hlt
      have HCR := hid (HK.out.crash (a := 2) (i := k) (by omega) rfl hlt (by show ((crI ro.2.2 k).d k).F.length < _; rw [ro_n k hlt]; omega))
      clear hc1
      go_wp2_with (go_at_call 31; refine HCR.out.mono ?_; rintro e w18 ⟨rfl, hk, -⟩; have HK18 : Hid (K3 w w18 (.slice (some ⟨b0, 0, none⟩) 3 z0) (.slice (some ⟨b1, 0, none⟩) 3 z1) (.slice (some ⟨b2, 0, none⟩) 3 z2) q0 q1 q2 rl.2.2 rm.2.2 (crI ro.2.2 (k + 1)) (k + 1) (fun _ => False)) := hid (by have := hk.nrm; rw [show upd (tri rl.2.2 rm.2.2 (crI ro.2.2 k)) 2 ⟨upd ((tri rl.2.2 rm.2.2 (crI ro.2.2 k)) 2).d k ((((tri rl.2.2 rm.2.2 (crI ro.2.2 k)) 2).d k).crash []), ((tri rl.2.2 rm.2.2 (crI ro.2.2 k)) 2).f⟩ 2 = crI ro.2.2 (k + 1) from crI_next _ _] at this; exact this); clear hk)
      go_roundw
      case rel => exact ⟨k + 1, by omega, by go_num, HK18.out⟩
      case measure => simp [intOf]; omega
    · have hlt' : ¬ (k : Int) < 3 := by omega
      obtain rfl : k = 3 := by omega
      have HK19 : Hid (K3 w wr (.slice (some ⟨b0, 0, none⟩) 3 z0) (.slice (some ⟨b1, 0, none⟩) 3 z1) (.slice (some ⟨b2, 0, none⟩) 3 z2) q0 q1 q2 rl.2.2 rm.2.2 ko3 0 (fun _ => False)) := hid (HK.out.calm (a := 2) (by omega) rfl).nrm
      clear HK
      have HN0 : Hid (∀ W, K3 w W (.slice (some ⟨b0, 0, none⟩) 3 z0) (.slice (some ⟨b1, 0, none⟩) 3 z1) (.slice (some ⟨b2, 0, none⟩) 3 z2) q0 q1 q2 rl.2.2 rm.2.2 ko3 0 (fun _ => False) → Calls Tryz.prog 35 #[ptr (q2 0)] W (NamesAt W [[97]])) := hid (fun W h => by have := h.names (a := 2) (i := 0) (by omega) rfl (by omega) (by show (ko3.d 0).F.length < _; rw [ko_n 0 (by omega)]; omega); rw [show ((tri rl.2.2 rm.2.2 ko3 2).d 0).list (tri rl.2.2 rm.2.2 ko3 2).f [] = [[97]] from ko_0] at this; exact this)
      have HN1 : Hid (∀ W, K3 w W (.slice (some ⟨b0, 0, none⟩) 3 z0) (.slice (some ⟨b1, 0, none⟩) 3 z1) (.slice (some ⟨b2, 0, none⟩) 3 z2) q0 q1 q2 rl.2.2 rm.2.2 ko3 0 (fun _ => False) → Calls Tryz.prog 35 #[ptr (q2 1)] W (NamesAt W [[116, 109, 112, 47, 97]])) := hid (fun W h => by have := h.names (a := 2) (i := 1) (by omega) rfl (by omega) (by show (ko3.d 1).F.length < _; rw [ko_n 1 (by omega)]; omega); rw [show ((tri rl.2.2 rm.2.2 ko3 2).d 1).list (tri rl.2.2 rm.2.2 ko3 2).f [] = [[116, 109, 112, 47, 97]] from ko_1] at this; exact this)
      have HN2 : Hid (∀ W, K3 w W (.slice (some ⟨b0, 0, none⟩) 3 z0) (.slice (some ⟨b1, 0, none⟩) 3 z1) (.slice (some ⟨b2, 0, none⟩) 3 z2) q0 q1 q2 rl.2.2 rm.2.2 ko3 0 (fun _ => False) → Calls Tryz.prog 35 #[ptr (q2 2)] W (NamesAt W [[116, 109, 112, 47, 97]])) := hid (fun W h => by have := h.names (a := 2) (i := 2) (by omega) rfl (by omega) (by show (ko3.d 2).F.length < _; rw [ko_n 2 (by omega)]; omega); rw [show ((tri rl.2.2 rm.2.2 ko3 2).d 2).list (tri rl.2.2 rm.2.2 ko3 2).f [] = [[116, 109, 112, 47, 97]] from ko_2] at this; exact this)
      have x20 : wr.cell? ⟨b2, 0, none⟩ = some (ptr (q2 0)) := (by obtain ⟨-, -, ⟨_, _, e1, hc1⟩⟩ := pick3 HK19.out; cases e1; exact hc1 0 (by omega))
      have HQA : Hid (∀ W, K3 w W (.slice (some ⟨b0, 0, none⟩) 3 z0) (.slice (some ⟨b1, 0, none⟩) 3 z1) (.slice (some ⟨b2, 0, none⟩) 3 z2) q0 q1 q2 rl.2.2 rm.2.2 ko3 0 (fun _ => False) → Calls Tryz.prog 15 #[.slice (some ⟨b0, 0, none⟩) 3 z0, .slice none 0 0, .int .i64 2] W fun e W2 => (∃ v, e = .returned (.tuple #[v, .int .i64 2])) ∧ K3 w W2 (.slice (some ⟨b0, 0, none⟩) 3 z0) (.slice (some ⟨b1, 0, none⟩) 3 z1) (.slice (some ⟨b2, 0, none⟩) 3 z2) q0 q1 q2 rl.2.2 rm.2.2 ko3 0 (fun _ => False)) := hid (fun W h => by
        refine (h.commit HE.out (a := 0) (by omega) rfl (Below.refl _ _) kb3 ⟨none, 0, []⟩ ⟨.inl rfl, fun x hx => absurd hx (by simp)⟩ (by simp) (fun x hx => absurd hx (by simp)) 2).mono ?_
        rintro e W2 ⟨v, bb, rfl, hk, -, -⟩
        have hq : comM 3 (List.map RowV.fl (FsV.l ⟨none, 0, []⟩)) 2 (tri rl.2.2 rm.2.2 ko3 0) = (2, fun _ => false, rl.2.2) := kl_arg
        rw [hq] at hk ⊢
        exact ⟨⟨v, rfl⟩, hk.nrm.less (fun _ h => h.elim)⟩)
      have HQB : Hid (∀ W0 W fv, K3 w W0 (.slice (some ⟨b0, 0, none⟩) 3 z0) (.slice (some ⟨b1, 0, none⟩) 3 z1) (.slice (some ⟨b2, 0, none⟩) 3 z2) q0 q1 q2 rl.2.2 rm.2.2 ko3 0 (fun _ => False) → Below W0.heap.size W0 W → FsV.ok W (fun b => b < W0.heap.size) fv → fv.l.map RowV.fl = tm3 → Calls Tryz.prog 15 #[.slice (some ⟨b0, 0, none⟩) 3 z0, fv.v, .int .i64 2] W fun e W2 => (∃ v, e = .returned (.tuple #[v, .int .i64 13])) ∧ K3 w W2 (.slice (some ⟨b0, 0, none⟩) 3 z0) (.slice (some ⟨b1, 0, none⟩) 3 z1) (.slice (some ⟨b2, 0, none⟩) 3 z2) q0 q1 q2 rl.2.2 rm.2.2 ko3 0 (fun _ => False)) := hid (fun W0 W fv h hb hf hm => by
        refine (h.commit HE.out (a := 0) (by omega) rfl hb kb3 fv hf (one_len hm).1 (one_len hm).2 2).mono ?_
        rintro e W2 ⟨v, bb, rfl, hk, -, -⟩
        have hq : comM 3 (List.map RowV.fl fv.l) 2 (tri rl.2.2 rm.2.2 ko3 0) = (13, fun _ => false, rl.2.2) := by rw [hm]; exact kl_name
        rw [hq] at hk ⊢
        exact ⟨⟨v, rfl⟩, hk.nrm.less (fun _ h => h.elim)⟩)
      have HN9 : True := trivial
      go_upto_region 21 with (first
        | (go_at_call 35; refine (HN0.out _ HK19.out).mono ?_; rintro e wa ⟨pl0, cl0, rfl, ht, hb⟩; have HKwa := hid (HK19.out.below hb); have HTX0 := hid ht.at; clear ht hb HN0)
        | (go_at_call 36; refine (sameTexts_true _ _ [[97]] _ (by decide) (HTX0.out.below ((Below.refl _ _).alloc (Nat.le_refl _) _)) (txt_one _ _ _ _ _ rfl)).mono ?_; rintro e wb ⟨rfl, kk0, hw⟩; have HKwb : Hid (K3 w wb (.slice (some ⟨b0, 0, none⟩) 3 z0) (.slice (some ⟨b1, 0, none⟩) 3 z1) (.slice (some ⟨b2, 0, none⟩) 3 z2) q0 q1 q2 rl.2.2 rm.2.2 ko3 0 (fun _ => False)) := hid (by rw [hw]; exact (HKwa.out.alloc _).below (below_drewN _ kk0)); clear hw HTX0; have x21 : wb.cell? ⟨b2, 1, none⟩ = some (ptr (q2 1)) := (by obtain ⟨-, -, ⟨_, _, e1, hc1⟩⟩ := pick3 HKwb.out; cases e1; exact hc1 1 (by omega)))
        | (go_at_call 35; refine (HN1.out _ HKwb.out).mono ?_; rintro e wc ⟨pl1, cl1, rfl, ht, hb⟩; have HKwc := hid (HKwb.out.below hb); have HTX1 := hid ht.at; clear ht hb HN1)
        | (go_at_call 36; refine (sameTexts_true _ _ [[116, 109, 112, 47, 97]] _ (by decide) (HTX1.out.below ((Below.refl _ _).alloc (Nat.le_refl _) _)) (txt_one _ _ _ _ _ rfl)).mono ?_; rintro e wd ⟨rfl, kk1, hw⟩; have HKwd : Hid (K3 w wd (.slice (some ⟨b0, 0, none⟩) 3 z0) (.slice (some ⟨b1, 0, none⟩) 3 z1) (.slice (some ⟨b2, 0, none⟩) 3 z2) q0 q1 q2 rl.2.2 rm.2.2 ko3 0 (fun _ => False)) := hid (by rw [hw]; exact (HKwc.out.alloc _).below (below_drewN _ kk1)); clear hw HTX1; have x22 : wd.cell? ⟨b2, 2, none⟩ = some (ptr (q2 2)) := (by obtain ⟨-, -, ⟨_, _, e1, hc1⟩⟩ := pick3 HKwd.out; cases e1; exact hc1 2 (by omega)))
        | (go_at_call 35; refine (HN2.out _ HKwd.out).mono ?_; rintro e we ⟨pl2, cl2, rfl, ht, hb⟩; have HKwe := hid (HKwd.out.below hb); have HTX2 := hid ht.at; clear ht hb HN2)
        | (go_at_call 36; refine (sameTexts_true _ _ [[116, 109, 112, 47, 97]] _ (by decide) (HTX2.out.below ((Below.refl _ _).alloc (Nat.le_refl _) _)) (txt_one _ _ _ _ _ rfl)).mono ?_; rintro e wf ⟨rfl, kk2, hw⟩; have HKwf : Hid (K3 w wf (.slice (some ⟨b0, 0, none⟩) 3 z0) (.slice (some ⟨b1, 0, none⟩) 3 z1) (.slice (some ⟨b2, 0, none⟩) 3 z2) q0 q1 q2 rl.2.2 rm.2.2 ko3 0 (fun _ => False)) := hid (by rw [hw]; exact (HKwe.out.alloc _).below (below_drewN _ kk2)); clear hw HTX2))
      go_wp2_with (first
        | (go_at_call 15; have _t := HN9; refine (HQA.out _ HKwf.out).mono ?_; rintro e wg ⟨⟨vg, rfl⟩, hk⟩; have HKwg := hid hk; clear hk HN9)
        | (go_at_call 33; refine (eachC (W0 := wg) (x := ⟨[116, 109, 112, 47, 97], none, 0, []⟩) ⟨by unfold maxLen; simp, by simp, by simp, .inl ⟨rfl, rfl⟩, fun a e => by cases e⟩ (Below.refl _ _)).mono ?_; rintro e wh ⟨fv, rfl, hf5, hm5, hb5⟩; have HF5 := hid hf5; have HM5 : Hid (fv.l.map RowV.fl = tm3) := hid hm5; have HB5 := hid hb5; clear hf5 hm5 hb5)
        | (go_at_call 15; refine (HQB.out wg _ fv HKwg.out HB5.out HF5.out HM5.out).mono ?_; rintro e wi ⟨⟨vi, rfl⟩, hk⟩; have HKwi := hid hk; clear hk)
        | (go_at_call 20; refine (fawake_any _ (HE.out.on HKwi.out.be)).mono ?_; rintro e wj ⟨rfl, hb⟩; have HKwj := hid (HKwi.out.below hb); clear hb))
      go_ret
      exact ⟨rfl, HKwj.out.be⟩
end Go.Proofs.YtklchjfkkbpipaaGreatDoor
