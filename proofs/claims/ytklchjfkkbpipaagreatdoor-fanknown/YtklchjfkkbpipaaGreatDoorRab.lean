/- Texts laid into one: the remark ahead of each part says what is proved there. -/
import Derived.Test.YtklchjfkkbpipaaGreatDoorPaa
import Derived.Test.YtklchjfkkbpipaaGreatDoorPab
import Derived.Test.YtklchjfkkbpipaaGreatDoorPac
import Derived.Test.YtklchjfkkbpipaaGreatDoorPad
import Derived.Test.YtklchjfkkbpipaaGreatDoorPae
import Derived.Test.YtklchjfkkbpipaaGreatDoorPaf
import Derived.Test.YtklchjfkkbpipaaGreatDoorPag
import Derived.Test.YtklchjfkkbpipaaGreatDoorPah
import Derived.Test.YtklchjfkkbpipaaGreatDoorPai
import Derived.Test.YtklchjfkkbpipaaGreatDoorPaj
import Derived.Test.YtklchjfkkbpipaaGreatDoorPak
import Derived.Test.YtklchjfkkbpipaaGreatDoorPal
import Derived.Test.YtklchjfkkbpipaaGreatDoorPam
import Derived.Test.YtklchjfkkbpipaaGreatDoorPan
import Derived.Test.YtklchjfkkbpipaaGreatDoorPao
import Derived.Test.YtklchjfkkbpipaaGreatDoorRaa
/- Read: all drives are asked for a file. -/
namespace Go.Proofs.YtklchjfkkbpipaaGreatDoor
open Go Go.RowKit Go.Shelf

theorem readE_cd (d : Pd) (f : Fs) (s : Nm) : d.readE f s ≤ 13 := by
  unfold Pd.readE; split
  · exact ans_cd _ _ _
  · split <;> omega
theorem ret_copy {fn : Func} {p u : Tmp} (h : fn.results = #[.cell p 80, .tmp u]) {R : Ending → World → Prop} {a : Act} {w : World} (g : Nat) (v : Value) (l : Value) (x : Value)
    (hd0 : a.defers = []) (hp : a.tmps.getD p undef = ptr g) (hv : a.tmps.getD u undef = x) (hg : w.heap[g]? = some (.cells #[v, l] 80)) (hR : R (.returned (.tuple #[.agg #[v, l], x])) w) : bodyPost Tryz.prog fn R .ret a w := by
  refine ⟨hd0, .tuple #[.agg #[v, l], x], ?_, hR⟩
  have hi : (Tryz.prog.info? 80).map (·.size) = some 2 := by kernel_rfl
  have hl := run_loadVar_row (P := Tryz.prog) w g _ _ #[v, l] _ _ hg Tryz.underlying80 rfl hi
  rw [results_cell_tmp h, hp, hv]
  simp [asAddr, hl]
def AskAt (W : World) (er : Nat) (bs : List Nat) (e : Ending) (W' : World) : Prop :=
  ∃ po c, e = .returned (.tuple #[.agg #[.int .i64 (er : Int), .slice po bs.length c], brk er]) ∧ W'.ownsRow W.heap.size 5 1 (.slice po bs.length c) bs.length (bs.map u8) ∧ Below W.heap.size W W'
theorem ask_any {W : World} {S : Nat → Prop} {p m : Nat} {fu : Option Nat} {d : Pd} {L : List (Nm × Ent)} {f : Fs} (hd : DrC W S p m fu d L) (hf : FuAt W S fu f) (s : Nm) (hs : s.length ≤ maxLen) : Calls Tryz.prog 68 #[ptr p, sv s] W (AskAt W (d.readE f s) (d.readB f s)) := by
  have HR := hid (read_any (hd.alloc (.cells #[.int .i64 0, .slice none 0 0] 80)) (hf.alloc (.cells #[.int .i64 0, .slice none 0 0] 80)) s hs)
  have hcd := readE_cd d f s
  have hC : CAt (W.alloc (.cells #[.int .i64 0, .slice none 0 0] 80)) W.heap.size #[.int .i64 0, .slice none 0 0] 80 := CAt.made _ _ _
  have HC := hid hC
  have HB0 : Hid (Below W.heap.size W (W.alloc (.cells #[.int .i64 0, .slice none 0 0] 80))) := (Below.refl _ _).alloc (Nat.le_refl _) _
  clear hd hf hC
  generalize d.readE f s = er at *
  generalize d.readB f s = bs at *
  have HBR := hid (fun W => breaks_any er W (by omega))
  go_enter Tryz.func68, Tryz.ntmps68
  go_wp2_with (first
    | (go_at_call 32; refine HR.out.mono ?_; rintro e w2 ⟨po, c, rfl, ho2, hb2⟩; have HO2 := hid ho2; have HC2 := hid (HC.out.below hb2); have HB2 := hid (below_on _ _ HB0.out hb2); clear ho2 hb2; have c0 : w2.cell? ⟨W.heap.size, 0, none⟩ = some (.int .i64 0) := HC2.out.cell 0; have c1 : w2.cell? ⟨W.heap.size, 1, none⟩ = some (.slice none 0 0) := HC2.out.cell 1; have y0 : w2.frozen? ⟨W.heap.size, 0, none⟩ = false := HC2.out.free 0; have y1 : w2.frozen? ⟨W.heap.size, 1, none⟩ = false := HC2.out.free 1)
    | (go_at_call 121; refine (HBR.out _).mono ?_; rintro e w' ⟨rfl, hw'⟩; have hw2 := hw'.symm; subst hw2))
  have hc3 : CAt ((w2.setCell ⟨W.heap.size, 0, none⟩ (.int .i64 (er : Int))).setCell ⟨W.heap.size, 1, none⟩ (.slice po bs.length c)) W.heap.size #[.int .i64 (er : Int), .slice po bs.length c] 80 := by
    have := (HC2.out.set 0 (.int .i64 (er : Int))).set 1 (.slice po bs.length c)
    simpa using this
  refine ret_copy rfl W.heap.size _ _ _ rfl rfl rfl hc3 ?_
  refine ⟨po, c, rfl, ownsRow_keep (own_base HO2.out (by simp)) fun b hb => ?_, (HB2.out.setCell (Nat.le_refl _) _).setCell (Nat.le_refl _) _⟩
  have hne : b ≠ W.heap.size := by have := (own_ge HO2.out b hb).1; simp at this; omega
  exact (heap_setCell_ne _ _ _ _ hne).trans (heap_setCell_ne _ _ _ _ hne)
/-- What is told of the first i of k copies, at g. -/
structure CpL (B : Nat) (W : World) (g k i : Nat) (E : Nat → Nat) (Bs : Nat → List Nat) : Prop where
  ex : ∃ cs, CAt W g cs 80 ∧ cs.size = k * 2 ∧ ∀ j, j < i → ∃ po c, cs[j * 2]? = some (.int .i64 (E j : Int)) ∧ cs[j * 2 + 1]? = some (.slice po (Bs j).length c) ∧ W.ownsRow B 5 1 (.slice po (Bs j).length c) (Bs j).length ((Bs j).map u8)
theorem own_tn {W W' : World} {B D n sz t : Nat} {v : Value} {xs : List Value} (h : W.ownsRow B t sz v n xs) (ht : Tn D W W') : W'.ownsRow B t sz v n xs := by
  refine ownsRow_keep h fun b hb => ?_
  rcases h.2 with ⟨rfl, _⟩ | ⟨g, cap, cur, rfl, _, hg, _⟩
  · cases hb
  · cases hb; exact ht.other hg rfl
theorem CpL.tn {B D : Nat} {W W' : World} {g k i : Nat} {E : Nat → Nat} {Bs : Nat → List Nat} (h : CpL B W g k i E Bs) (ht : Tn D W W') : CpL B W' g k i E Bs := by
  obtain ⟨cs, h1, h2, h3⟩ := h.ex
  exact ⟨cs, h1.tn ht, h2, fun j hj => by obtain ⟨po, c, a, b, o⟩ := h3 j hj; exact ⟨po, c, a, b, own_tn o ht⟩⟩
theorem CpL.below {B : Nat} {W W' : World} {g k i : Nat} {E : Nat → Nat} {Bs : Nat → List Nat} (h : CpL B W g k i E Bs) (hb : Below W.heap.size W W') : CpL B W' g k i E Bs := by
  obtain ⟨cs, h1, h2, h3⟩ := h.ex
  exact ⟨cs, h1.below hb, h2, fun j hj => by obtain ⟨po, c, a, b, o⟩ := h3 j hj; exact ⟨po, c, a, b, ownsRow_keep o fun x hx => hb.block x (own_ge o x hx).2⟩⟩
/-- A block that is no bytes is written. -/
theorem CpL.set' {B : Nat} {W : World} {g k i x y : Nat} {v : Value} {E : Nat → Nat} {Bs : Nat → List Nat} {cs : Array Value} {t : TypeId} (h : CpL B W g k i E Bs) (hx : CAt W x cs t) (ht : t ≠ 5) (hne : x ≠ g) : CpL B (W.setCell ⟨x, y, none⟩ v) g k i E Bs := by
  obtain ⟨cs', h1, h2, h3⟩ := h.ex
  refine ⟨cs', h1.keep (heap_setCell_ne _ _ _ _ (Ne.symm hne)), h2, fun j hj => ?_⟩
  obtain ⟨po, c, a, b, o⟩ := h3 j hj
  refine ⟨po, c, a, b, ownsRow_keep o fun z hz => heap_setCell_ne _ _ _ _ fun e => ?_⟩
  subst e
  rcases o.2 with ⟨e2, _⟩ | ⟨g2, cap, cur, e2, _, hg, _⟩
  · rw [e2] at hz; cases hz
  · rw [e2] at hz; cases hz
    unfold CAt at hx; rw [hg] at hx; cases hx; exact ht rfl
theorem CpL.next {B : Nat} {W : World} {g k i : Nat} {E : Nat → Nat} {Bs : Nat → List Nat} (h : CpL B W g k i E Bs) (hi : i < k) {po : Option Addr} {c : Nat} (ho : W.ownsRow B 5 1 (.slice po (Bs i).length c) (Bs i).length ((Bs i).map u8)) :
    CpL B ((W.setCell ⟨g, i * 2, none⟩ (.int .i64 (E i : Int))).setCell ⟨g, i * 2 + 1, none⟩ (.slice po (Bs i).length c)) g k (i + 1) E Bs := by
  obtain ⟨cs, h1, h2, h3⟩ := h.ex
  have kp : ∀ {v n xs}, W.ownsRow B 5 1 v n xs → ((W.setCell ⟨g, i * 2, none⟩ (.int .i64 (E i : Int))).setCell ⟨g, i * 2 + 1, none⟩ (.slice po (Bs i).length c)).ownsRow B 5 1 v n xs := fun {v n xs} o => ownsRow_keep o fun z hz => by
    have hne : z ≠ g := fun e => by
      subst e
      rcases o.2 with ⟨e2, _⟩ | ⟨g2, cap, cur, e2, _, hg, _⟩
      · rw [e2] at hz; cases hz
      · rw [e2] at hz; cases hz
        unfold CAt at h1; rw [hg] at h1; cases h1
    exact (heap_setCell_ne _ _ _ _ hne).trans (heap_setCell_ne _ _ _ _ hne)
  refine ⟨_, (h1.set _ _).set _ _, by simp [h2], fun j hj => ?_⟩
  by_cases e : j = i
  · subst e
    refine ⟨po, c, ?_, ?_, kp ho⟩
    · rw [Array.getElem?_setIfInBounds_ne (by omega), Array.getElem?_setIfInBounds_self_of_lt (by omega)]
    · rw [Array.getElem?_setIfInBounds_self_of_lt (by simp; omega)]
  · obtain ⟨po', c', a, b, o⟩ := h3 j (by omega)
    refine ⟨po', c', ?_, ?_, kp o⟩
    · rw [Array.getElem?_setIfInBounds_ne (by omega), Array.getElem?_setIfInBounds_ne (by omega)]; exact a
    · rw [Array.getElem?_setIfInBounds_ne (by omega), Array.getElem?_setIfInBounds_ne (by omega)]; exact b
theorem infoCp : (Tryz.prog.info? 80).map (fun i => (i.zero, i.size, i.bytes)) = some (some (.agg #[.int .i64 0, .slice none 0 0]), 2, 32) := by kernel_rfl
theorem make_copies (k : Nat) (hn : k ≤ 1000) (w : World) :
    ∃ cs : Array Value, cs.size = k * 2 ∧ (Instr.makeSlice 46 (.int .i64 (k : Int)) (.int .i64 (k : Int))).run Tryz.prog w = .ok (.slice (some ⟨w.heap.size, 0, none⟩) k k) (w.alloc (.cells cs 80)) := by
  obtain ⟨i0, hi, hz0, hz1, hz2⟩ := info_parts infoCp
  have h := run_make (P := Tryz.prog) w 46 80 i0 (.agg #[.int .i64 0, .slice none 0 0]) Tryz.underlying46 hi hz0 .i64 .i64 k k (by omega) (Int.le_refl _) (by rw [hz2]; omega) (by omega)
  refine ⟨_, ?_, h⟩
  rw [hz1]
  simp [madeCells]
end Go.Proofs.YtklchjfkkbpipaaGreatDoor

/- Read (the walk). -/
namespace Go.Proofs.YtklchjfkkbpipaaGreatDoor
open Go Go.RowKit Go.Shelf

theorem Erh.on2 {w w' : World} (h : Erh w) (hb : Below w.heap.size w w') : Erh w' := h.below hb h.lt
/-- A loop over drives that changes none of them, begun in wr: what is written are blocks X that lay there. -/
structure FR (w wr : World) (T X : Nat → Prop) (k : Nat) (p : Nat → Nat) (d : Nat → Pd) (f : Fs) (W : World) : Prop where
  fa : FA w W T k p d f 0
  on : Only X wr W
section
variable {w wr W : World} {T X : Nat → Prop} {k : Nat} {p : Nat → Nat} {d : Nat → Pd} {f : Fs}
theorem FR.start (h : FA w wr T k p d f 0) : FR w wr T X k p d f wr := ⟨h, Only.refl _ _⟩
theorem FR.be (h : FR w wr T X k p d f W) : Below w.heap.size w W := h.fa.be
theorem FR.sz (h : FR w wr T X k p d f W) : wr.heap.size ≤ W.heap.size := h.on.size
theorem FR.below (h : FR w wr T X k p d f W) {W' : World} (hb : Below W.heap.size W W') : FR w wr T X k p d f W' := ⟨h.fa.below hb, h.on.then (Only.of_below (S := fun _ => False) hb) (fun _ _ e => e.elim)⟩
theorem FR.tn (h : FR w wr T X k p d f W) {W' : World} (ht : Tn wr.heap.size W W') (hw : w.heap.size ≤ wr.heap.size) : FR w wr T X k p d f W' := ⟨h.fa.tn ht hw, h.on.tn ht (Nat.le_refl _)⟩
theorem FR.look (h : FR w wr T X k p d f W) {i : Nat} (hi : i < k) {g : FuncId} {args : Array Value} {R : Ending → World → Prop} (hc : ∀ fu S m L, DrC W S (p i) m fu (d i) L → FuAt W S fu f → Calls Tryz.prog g args W R) : Calls Tryz.prog g args W R :=
  h.fa.look hi fun fu S m L h1 h2 => hc fu S m L h1 (by simpa [fAt] using h2)
theorem FR.set (h : FR w wr T X k p d f W) {b : Nat} (hX : X b) (_ : b < wr.heap.size) (hT : ¬ T b) (hw : w.heap.size ≤ b) (i : Nat) (v : Value) : FR w wr T X k p d f (W.setCell ⟨b, i, none⟩ v) := by
  have ho : Only (fun x => x = b) W (W.setCell ⟨b, i, none⟩ v) := Only.set W _ v rfl
  exact ⟨h.fa.only ho (fun x hx e => by omega) (fun x hx e => by subst e; exact hT hx), h.on.then ho (fun x _ e => by subst e; exact hX)⟩
theorem FR.keepX {w1 : World} (h : FR w wr T X k p d f W) (hb : Below w1.heap.size w1 wr) {b : Nat} (hb1 : b < w1.heap.size) (hX : ¬ X b) : W.heap[b]? = w1.heap[b]? := (h.on.block b (Nat.lt_of_lt_of_le hb1 hb.size) hX).trans (hb.block b hb1)
end
structure RDI (w w1 W0 : World) (T : Nat → Prop) (k : Nat) (p : Nat → Nat) (X0 : FS) (s : Nm) (i : Nat) (W : World) : Prop where
  fi : FR w W0 T (fun b => b = w1.heap.size + 1 ∨ b = w1.heap.size + 1 + 1 ∨ b = w1.heap.size + 1 + 1 + 1) k p X0.d X0.f W
  r1 : CAt W (w1.heap.size + 1) #[.slice none 0 0] 46
  r2 : CAt W (w1.heap.size + 1 + 1) #[.int .i64 0] 39
  cp : CpL w1.heap.size W (w1.heap.size + 1 + 1 + 1) k i (fun j => (X0.d j).readE X0.f s) (fun j => (X0.d j).readB X0.f s)
  ok : ∀ j, j < i → (X0.d j).readE X0.f s ≠ 11
def RDX (w w1 W0 : World) (T : Nat → Prop) (k : Nat) (p : Nat → Nat) (X0 : FS) (s : Nm) (c : Code) (W : World) : Prop :=
  c = .ret ∧ (∃ j, j < k ∧ (X0.d j).readE X0.f s = 11) ∧ FR w W0 T (fun b => b = w1.heap.size + 1 ∨ b = w1.heap.size + 1 + 1 ∨ b = w1.heap.size + 1 + 1 + 1) k p X0.d X0.f W ∧ CAt W (w1.heap.size + 1) #[.slice none 0 0] 46 ∧ CAt W (w1.heap.size + 1 + 1) #[.int .i64 11] 39
def rdN (k : Nat) (X : FS) (s : Nm) : Nat := if ckD k ≠ 0 then ckD k else if okNm s = false then 13 else if (List.range k).any fun j => (X.d j).readE X.f s == 11 then 11 else 0
/-- What Read answers. It changes no drive. -/
def RdAt (w1 : World) (k : Nat) (X : FS) (s : Nm) (e : Ending) (w' : World) : Prop :=
  ∃ v, e = .returned (.tuple #[v, .int .i64 (rdN k X s : Int)]) ∧ Below w1.heap.size w1 w' ∧ ((rdN k X s ≠ 0 ∧ v = .slice none 0 0) ∨ (rdN k X s = 0 ∧ ∃ g, w1.heap.size ≤ g ∧ v = .slice (some ⟨g, 0, none⟩) k k ∧ CpL w1.heap.size w' g k k (fun j => (X.d j).readE X.f s) (fun j => (X.d j).readB X.f s)))
set_option maxHeartbeats 4000000 in
set_option maxRecDepth 100000 in
theorem fread_any {w w1 : World} {T : Nat → Prop} {k : Nat} {p : Nat → Nat} {X0 : FS} (h : FA w w1 T k p X0.d X0.f 0) {lv : Value} (hl : LsAt w1 T lv k p) (hk : k ≤ 1000) (hE : Erh w) (s : Nm) (hs : s.length ≤ maxLen) :
    Calls Tryz.prog 14 #[lv, sv s] w1 (RdAt w1 k X0 s) := by
  have HCK : Hid (∀ o1 o2 o3, Calls Tryz.prog 65 #[lv] (((w1.alloc o1).alloc o2).alloc o3) fun e w' => e = .returned (.int .i64 (ckD k : Int)) ∧ w' = (((w1.alloc o1).alloc o2).alloc o3)) := fun o1 o2 o3 =>
    have hb : Below w1.heap.size w1 (((w1.alloc o1).alloc o2).alloc o3) := (((Below.refl w1.heap.size w1).alloc (Nat.le_refl _) _).alloc (by simp only [size_al]; omega) _).alloc (by simp only [size_al]; omega) _
    checkDrives_fa (h.below hb) (hl.keep (fun b hb' _ => hb.block b hb') (fun _ _ h => h)) hk
  by_cases hck : ckD k = 0
  · have hk16 : 1 ≤ k ∧ k ≤ 16 := by unfold ckD at hck; split at hck <;> simp_all
    rw [hck] at HCK
    have HNM := hid (fun W => name_any s W hs)
    by_cases hok : okNm s = true
    · rw [hok] at HNM
      obtain ⟨po, cc, rfl⟩ := hl.form
      have HK := hid hk16
      have HL := hid hl
      have HBE := hid h.be
      have hmf := run_mf Tryz.prog
      obtain ⟨cs0, hcs0, hmk⟩ := make_copies k hk (((w1.alloc (.cells #[sv s] 9)).alloc (.cells #[.slice none 0 0] 46)).alloc (.cells #[.int .i64 0] 39))
      refine (callsIn_wide (n := 0)).1 ?_
      refine callsIn_of_wp_marks Tryz.func14 rfl trivial ?_ rfl
      refine wpIn_wide.2 ?_
      simp only [Tryz.ntmps14, List.size_toArray, List.length_cons, List.length_nil, Nat.reduceAdd, Nat.reduceSub, Array.replicate_succ, Array.replicate_zero, List.push_toArray, List.append_toArray, List.nil_append, List.cons_append]
      clear hl
      go_wp2_with (first
        | (go_at_call 65; refine (HCK.out _ _ _).mono ?_; rintro e w5 ⟨rfl, hw5⟩; have hw6 := hw5.symm; subst hw6)
        | (go_at_call 66; refine (HNM.out _).mono ?_; rintro e w5 ⟨rfl, hw5⟩; have hw6 := hw5.symm; subst hw6)
        | (go_at_call 67; refine (each_any _ _ _ _).mono ?_; rintro e w5 ⟨rfl, rfl⟩))
      rename_i Kx hKx
      refine (wpIn_wide (n := 0)).1 ?_
      have hb0 : Below w1.heap.size w1 ((((((w1.alloc (.cells #[sv s] 9)).alloc (.cells #[.slice none 0 0] 46)).alloc (.cells #[.int .i64 0] 39)).alloc (.cells cs0 80)).alloc (.cells #[.slice (some ⟨w1.heap.size + 1 + 1 + 1, 0, none⟩) k k] 46)).alloc (.cells #[.slice po k cc] 23)) := (((((((Below.refl w1.heap.size w1).alloc (Nat.le_refl _) _).alloc (by simp only [size_al]; omega) _).alloc (by simp only [size_al]; omega) _).alloc (by simp only [size_al]; omega) _).alloc (by simp only [size_al]; omega) _).alloc (by simp only [size_al]; omega) _)
      have x0 := ((((((CAt.made w1 #[sv s] 9).old (.cells #[.slice none 0 0] 46)).old (.cells #[.int .i64 0] 39)).old (.cells cs0 80)).old (.cells #[.slice (some ⟨w1.heap.size + 1 + 1 + 1, 0, none⟩) k k] 46)).old (.cells #[.slice po k cc] 23))
      have x1 := (((((CAt.made (w1.alloc (.cells #[sv s] 9)) #[.slice none 0 0] 46).old (.cells #[.int .i64 0] 39)).old (.cells cs0 80)).old (.cells #[.slice (some ⟨w1.heap.size + 1 + 1 + 1, 0, none⟩) k k] 46)).old (.cells #[.slice po k cc] 23))
      have x2 := ((((CAt.made ((w1.alloc (.cells #[sv s] 9)).alloc (.cells #[.slice none 0 0] 46)) #[.int .i64 0] 39).old (.cells cs0 80)).old (.cells #[.slice (some ⟨w1.heap.size + 1 + 1 + 1, 0, none⟩) k k] 46)).old (.cells #[.slice po k cc] 23))
      have x3 := (((CAt.made (((w1.alloc (.cells #[sv s] 9)).alloc (.cells #[.slice none 0 0] 46)).alloc (.cells #[.int .i64 0] 39)) cs0 80).old (.cells #[.slice (some ⟨w1.heap.size + 1 + 1 + 1, 0, none⟩) k k] 46)).old (.cells #[.slice po k cc] 23))
      have x4 := ((CAt.made ((((w1.alloc (.cells #[sv s] 9)).alloc (.cells #[.slice none 0 0] 46)).alloc (.cells #[.int .i64 0] 39)).alloc (.cells cs0 80)) #[.slice (some ⟨w1.heap.size + 1 + 1 + 1, 0, none⟩) k k] 46).old (.cells #[.slice po k cc] 23))
      have x5 := (CAt.made (((((w1.alloc (.cells #[sv s] 9)).alloc (.cells #[.slice none 0 0] 46)).alloc (.cells #[.int .i64 0] 39)).alloc (.cells cs0 80)).alloc (.cells #[.slice (some ⟨w1.heap.size + 1 + 1 + 1, 0, none⟩) k k] 46)) #[.slice po k cc] 23)
      have hsz : (((((((w1.alloc (.cells #[sv s] 9)).alloc (.cells #[.slice none 0 0] 46)).alloc (.cells #[.int .i64 0] 39)).alloc (.cells cs0 80)).alloc (.cells #[.slice (some ⟨w1.heap.size + 1 + 1 + 1, 0, none⟩) k k] 46)).alloc (.cells #[.slice po k cc] 23))).heap.size = w1.heap.size + 6 := by simp
      simp only [World.size_alloc] at x1 x2 x3 x4 x5
      generalize ((((((w1.alloc (.cells #[sv s] 9)).alloc (.cells #[.slice none 0 0] 46)).alloc (.cells #[.int .i64 0] 39)).alloc (.cells cs0 80)).alloc (.cells #[.slice (some ⟨w1.heap.size + 1 + 1 + 1, 0, none⟩) k k] 46)).alloc (.cells #[.slice po k cc] 23)) = W0 at hb0 x0 x1 x2 x3 x4 x5 hsz ⊢
      have hTl : ∀ b, T b → b < w1.heap.size := h.lt
      have hA0 : FA w W0 T k p X0.d X0.f 0 := h.below hb0
      have mem : ∀ W, FR w W0 T (fun b => b = w1.heap.size + 1 ∨ b = w1.heap.size + 1 + 1 ∨ b = w1.heap.size + 1 + 1 + 1) k p X0.d X0.f W → CAt W w1.heap.size #[sv s] 9 ∧ CAt W (w1.heap.size + 1 + 1 + 1 + 1) #[.slice (some ⟨w1.heap.size + 1 + 1 + 1, 0, none⟩) k k] 46 ∧ CAt W (w1.heap.size + 1 + 1 + 1 + 1 + 1) #[.slice po k cc] 23 ∧ LsAt W T (.slice po k cc) k p := fun W hf =>
        have bx : ∀ b, w1.heap.size ≤ b → b < W0.heap.size → b ≠ w1.heap.size + 1 → b ≠ w1.heap.size + 1 + 1 → b ≠ w1.heap.size + 1 + 1 + 1 → W.heap[b]? = W0.heap[b]? := fun b h1 h2 h3 h4 h5 => hf.on.block b h2 fun e => e.elim h3 (fun e => e.elim h4 h5)
        have lo : ∀ b, b < w1.heap.size → ¬ T b → W.heap[b]? = w1.heap[b]? := fun b hb _ => hf.keepX hb0 hb (fun e => by omega)
        ⟨x0.keep (bx _ (by omega) (by omega) (by omega) (by omega) (by omega)), x4.keep (bx _ (by omega) (by omega) (by omega) (by omega) (by omega)), x5.keep (bx _ (by omega) (by omega) (by omega) (by omega) (by omega)), HL.out.keep lo (fun _ _ h => h)⟩
      have MEM := hid mem
      have HTL := hid hTl
      have HSZ := hid hsz
      have HB0 := hid hb0
      have HE := hid hE
      have hwW : w.heap.size ≤ W0.heap.size := by have := HBE.out.size; omega
      have hwW1 : Hid (w.heap.size ≤ w1.heap.size) := HBE.out.size
      have HTO : Hid (∀ W, Erh W → Calls Tryz.prog 69 #[.iface 166 (.agg #[.int .i64 11])] W fun e W' => e = .returned (.int .i64 11) ∧ Below W.heap.size W W') := fun W hW => told_any 11 W hW
      have FIN : Hid (∀ W' er, Only (fun b => b = w1.heap.size + 1 ∨ b = w1.heap.size + 1 + 1 ∨ b = w1.heap.size + 1 + 1 + 1) W0 W' → er = rdN k X0 s → ((rdN k X0 s ≠ 0 ∧ True) ∨ (rdN k X0 s = 0 ∧ CpL w1.heap.size W' (w1.heap.size + 1 + 1 + 1) k k (fun j => (X0.d j).readE X0.f s) (fun j => (X0.d j).readB X0.f s))) → RdAt w1 k X0 s (.returned (.tuple #[if er = 0 then .slice (some ⟨w1.heap.size + 1 + 1 + 1, 0, none⟩) k k else .slice none 0 0, .int .i64 (er : Int)])) W') := fun W' er ho e hc => by
        subst e
        refine ⟨_, rfl, ⟨ho.os.trans HB0.out.os, ho.tape.trans HB0.out.tape, ho.output.trans HB0.out.output, Nat.le_trans HB0.out.size ho.size, fun b hb => (ho.block b (by have := HB0.out.size; omega) (fun e => by omega)).trans (HB0.out.block b hb)⟩, ?_⟩
        rcases hc with ⟨hc, _⟩ | ⟨hc, hq⟩
        · exact .inl ⟨hc, by rw [if_neg hc]⟩
        · exact .inr ⟨hc, _, (by omega), by rw [if_pos hc], hq⟩
      have HRN : Hid ((∃ j, j < k ∧ (X0.d j).readE X0.f s = 11) → rdN k X0 s = 11) := fun ⟨j, hj, hr⟩ => by
        unfold rdN
        rw [if_neg (by omega), if_neg (by simp [hok]), if_pos (List.any_eq_true.2 ⟨j, List.mem_range.2 hj, by simp [hr]⟩)]
      have HRZ : Hid ((∀ j, j < k → (X0.d j).readE X0.f s ≠ 11) → rdN k X0 s = 0) := fun hr => by
        unfold rdN
        rw [if_neg (by omega), if_neg (by simp [hok]), if_neg]
        intro ha
        obtain ⟨j, hj, h2⟩ := List.any_eq_true.1 ha
        exact hr j (List.mem_range.1 hj) (by simpa using h2)
      clear mem x0 x4 x5 h hmk hE
      refine range_plain (gf := 120) (lb := #[ptr (w1.heap.size + 1 + 1 + 1 + 1 + 1)]) rfl (enters_of Tryz.func120 (by kernel_rfl) rfl) k (eEnc p) (fun _ => rfl) (fun _ _ => True) (RDI w w1 W0 T k p X0 s)
        (RDX w w1 W0 T k p X0 s) (fun _ _ _ h _ => h) ?hI ?hIx ?h0 ?hseq ?asg ?assign ?body ?done ?stop
      case hI =>
        intro i A C hi ht
        exact ⟨hi.fi.tn ht hwW, hi.r1.tn ht, hi.r2.tn ht, hi.cp.tn ht, hi.ok⟩
      case hIx =>
        intro c A C hi ht
        obtain ⟨h1, h2, h3, h4, h5⟩ := hi
        exact ⟨h1, h2, h3.tn ht hwW, h4.tn ht, h5.tn ht⟩
      case h0 => exact ⟨FR.start hA0, x1, x2, ⟨cs0, x3, hcs0, fun j hj => absurd hj (Nat.not_lt_zero _)⟩, fun j hj => absurd hj (Nat.not_lt_zero _)⟩
      case hseq =>
        refine each_it _ _ (.slice po k cc) k p _ (by have := HK.out.2; omega) fun i W hi => ?_
        obtain ⟨m1, m2, m3, m4⟩ := MEM.out W hi.fi
        exact ⟨m3, m4.none⟩
      case assign =>
        intro l i W K hik hK
        unfold eEnc
        refine wpIn_seq (round_list (fun _ _ h => h) (by kernel_rfl) ?_)
        go_wp2
        refine round_list (fun _ _ h => h) (by kernel_rfl) ?_
        go_wp2
        exact hK
      case done =>
        intro D W hD hi hd
        obtain ⟨m1, m2, m3, m4⟩ := MEM.out W hi.fi
        have c4 : W.cell? ⟨w1.heap.size + 1 + 1 + 1 + 1, 0, none⟩ = some (.slice (some ⟨w1.heap.size + 1 + 1 + 1, 0, none⟩) k k) := m2.cell 0
        have a1 : W.cell? ⟨w1.heap.size + 1, 0, none⟩ = some (.slice none 0 0) := hi.r1.cell 0
        have y1 : W.frozen? ⟨w1.heap.size + 1, 0, none⟩ = false := hi.r1.free 0
        have r7 : CAt (W.setCell ⟨w1.heap.size + 1, 0, none⟩ (.slice (some ⟨w1.heap.size + 1 + 1 + 1, 0, none⟩) k k)) (w1.heap.size + 1 + 1) #[.int .i64 0] 39 := hi.r2.keep (heap_setCell_ne _ _ _ _ (by show w1.heap.size + 1 + 1 ≠ w1.heap.size + 1; omega))
        have r6 : CAt (W.setCell ⟨w1.heap.size + 1, 0, none⟩ (.slice (some ⟨w1.heap.size + 1 + 1 + 1, 0, none⟩) k k)) (w1.heap.size + 1) #[.slice (some ⟨w1.heap.size + 1 + 1 + 1, 0, none⟩) k k] 46 := by have := hi.r1.set 0 (.slice (some ⟨w1.heap.size + 1 + 1 + 1, 0, none⟩) k k); simpa using this
        have a2 : (W.setCell ⟨w1.heap.size + 1, 0, none⟩ (.slice (some ⟨w1.heap.size + 1 + 1 + 1, 0, none⟩) k k)).cell? ⟨w1.heap.size + 1 + 1, 0, none⟩ = some (.int .i64 0) := r7.cell 0
        have y2 : (W.setCell ⟨w1.heap.size + 1, 0, none⟩ (.slice (some ⟨w1.heap.size + 1 + 1 + 1, 0, none⟩) k k)).frozen? ⟨w1.heap.size + 1 + 1, 0, none⟩ = false := r7.free 0
        have r8 : CAt ((W.setCell ⟨w1.heap.size + 1, 0, none⟩ (.slice (some ⟨w1.heap.size + 1 + 1 + 1, 0, none⟩) k k)).setCell ⟨w1.heap.size + 1 + 1, 0, none⟩ (.int .i64 0)) (w1.heap.size + 1 + 1) #[.int .i64 0] 39 := by have := r7.set 0 (.int .i64 0); simpa using this
        have r9 : CAt ((W.setCell ⟨w1.heap.size + 1, 0, none⟩ (.slice (some ⟨w1.heap.size + 1 + 1 + 1, 0, none⟩) k k)).setCell ⟨w1.heap.size + 1 + 1, 0, none⟩ (.int .i64 0)) (w1.heap.size + 1) #[.slice (some ⟨w1.heap.size + 1 + 1 + 1, 0, none⟩) k k] 46 := r6.keep (heap_setCell_ne _ _ _ _ (by show w1.heap.size + 1 ≠ w1.heap.size + 1 + 1; omega))
        have g3 := (hi.fi.set (b := w1.heap.size + 1) (.inl rfl) (by omega) (fun ht => by have := HTL.out _ ht; omega) (by have := hwW1.out; omega) 0 (.slice (some ⟨w1.heap.size + 1 + 1 + 1, 0, none⟩) k k)).set (b := w1.heap.size + 1 + 1) (.inr (.inl rfl)) (by omega) (fun ht => by have := HTL.out _ ht; omega) (by have := hwW1.out; omega) 0 (.int .i64 0)
        have cp3 := (hi.cp.set' (y := 0) (v := .slice (some ⟨w1.heap.size + 1 + 1 + 1, 0, none⟩) k k) hi.r1 (by decide) (by omega)).set' (y := 0) (v := .int .i64 0) r7 (by decide) (by omega)
        have hd2 : ((W.setCell ⟨w1.heap.size + 1, 0, none⟩ (.slice (some ⟨w1.heap.size + 1 + 1 + 1, 0, none⟩) k k)).setCell ⟨w1.heap.size + 1 + 1, 0, none⟩ (.int .i64 0)).heap[D]? = some (.deferred (some [])) := (heap_setCell_ne _ _ _ _ (by show D ≠ w1.heap.size + 1 + 1; omega)).trans ((heap_setCell_ne _ _ _ _ (by show D ≠ w1.heap.size + 1; omega)).trans hd)
        have hrz := HRZ.out hi.ok
        refine hKx _ _ ?_
        dsimp only [endAct]
        clear hKx r6 r7 hd m1 m2 m3 m4 hi
        go_wp2
        clear a1 y1 a2 y2 c4
        generalize ((W.setCell ⟨w1.heap.size + 1, 0, none⟩ (.slice (some ⟨w1.heap.size + 1 + 1 + 1, 0, none⟩) k k)).setCell ⟨w1.heap.size + 1 + 1, 0, none⟩ (.int .i64 0)) = w7 at *
        have ht : Tn W0.heap.size w7 (w7.putObj D (.deferred none)) := Tn.put _ (by omega) hd2 rfl
        refine ⟨by simp, .inl ⟨_, _, rfl, run_takeDeferred hd2, ?_⟩⟩
        have q4 := (r9.tn ht).cell 0
        have q5 := (r8.tn ht).cell 0
        refine ⟨.tuple #[.slice (some ⟨w1.heap.size + 1 + 1 + 1, 0, none⟩) k k, .int .i64 0], ?_, ?_⟩
        · simp [results, Tryz.f14, go_sem, q4, q5]
        · have f2 := g3.tn ht hwW
          exact FIN.out _ 0 f2.on hrz.symm (.inr ⟨hrz, cp3.tn ht⟩)
      case stop =>
        intro D c W hD hi hd
        obtain ⟨rfl, h1, h2, h3, h5⟩ := hi
        have ht : Tn W0.heap.size W (W.putObj D (.deferred none)) := Tn.put _ (by omega) hd rfl
        refine wpIn_ret ?_
        refine ⟨by simp, .inl ⟨_, _, rfl, run_takeDeferred hd, ?_⟩⟩
        have q4 := (h3.tn ht).cell 0
        have q5 := (h5.tn ht).cell 0
        have hr11 := HRN.out h1
        refine ⟨.tuple #[.slice none 0 0, .int .i64 11], ?_, ?_⟩
        · simp [results, Tryz.f14, endAct, go_sem, q4, q5]
        · have f2 := h2.tn ht hwW
          exact FIN.out _ 11 f2.on hr11.symm (.inl ⟨by omega, trivial⟩)
      case body =>
        intro l i W hik hi _
        clear hsz
        obtain ⟨m1, m2, m3, m4⟩ := MEM.out W hi.fi
        have c0 : W.cell? ⟨w1.heap.size, 0, none⟩ = some (sv s) := m1.cell 0
        have HAS := hid (hi.fi.look hik fun fu S m L hd hf => ask_any hd hf s hs)
        have HI := hid hi
        clear m1 m2 m3 m4 hi
        have HEW := hid (HE.out.on2 HI.out.fi.be)
        by_cases h11 : (X0.d i).readE X0.f s = 11
        · have HX : Hid (∃ j, j < k ∧ (X0.d j).readE X0.f s = 11) := ⟨i, hik, h11⟩
          rw [h11] at HAS
          have hb11 : brk 11 = .iface 166 (.agg #[.int .i64 11]) := rfl
          generalize (X0.d i).readB X0.f s = bs at *
          refine wpIn_block (wpIn_seq (round_list (fun _ _ h => h) (by kernel_rfl) ?_))
          go_wp2_with (go_at_call 68; refine HAS.out.mono ?_; rintro e w5 ⟨qpo, qc, rfl, ho5, hb5⟩; rw [hb11]; have HB5 := hid hb5; clear hb5 ho5)
          have HS6 : Hid (∀ w7, Below w5.heap.size w5 w7 → FR w W0 T (fun b => b = w1.heap.size + 1 ∨ b = w1.heap.size + 1 + 1 ∨ b = w1.heap.size + 1 + 1 + 1) k p X0.d X0.f w7 ∧ CAt w7 (w1.heap.size + 1) #[.slice none 0 0] 46 ∧ CAt w7 (w1.heap.size + 1 + 1) #[.int .i64 0] 39 ∧ Below W.heap.size W w7) := fun w7 hb7 =>
            have hb := below_on _ _ HB5.out hb7
            ⟨HI.out.fi.below hb, HI.out.r1.below hb, HI.out.r2.below hb, hb⟩
          refine wpIn_seq (wpIn_seq (round_list (fun _ _ h => h) (by kernel_rfl) ?_))
          go_wp2
          refine wpIn_cond_true rfl (wpIn_seq (round_list (fun _ _ h => h) (by kernel_rfl) ?_))
          go_wp2_with (go_at_call 69; refine (HTO.out _ ((HEW.out.on2 HB5.out).on2 ((Below.refl _ _).alloc (Nat.le_refl _) _))).mono ?_; rintro e w7 ⟨rfl, hb7⟩; have HS7 := hid (HS6.out w7 (below_on _ _ ((Below.refl _ _).alloc (Nat.le_refl _) _) hb7)); clear hb7; obtain ⟨f7, q1, q2, hb7⟩ := HS7.out; have a1 : w7.cell? ⟨w1.heap.size + 1, 0, none⟩ = some (.slice none 0 0) := q1.cell 0; have y1 : w7.frozen? ⟨w1.heap.size + 1, 0, none⟩ = false := q1.free 0; have a2 : (w7.setCell ⟨w1.heap.size + 1, 0, none⟩ (.slice none 0 0)).cell? ⟨w1.heap.size + 1 + 1, 0, none⟩ = some (.int .i64 0) := (q2.keep (heap_setCell_ne _ _ _ _ (by show w1.heap.size + 1 + 1 ≠ w1.heap.size + 1; omega))).cell 0; have y2 : (w7.setCell ⟨w1.heap.size + 1, 0, none⟩ (.slice none 0 0)).frozen? ⟨w1.heap.size + 1 + 1, 0, none⟩ = false := (q2.keep (heap_setCell_ne _ _ _ _ (by show w1.heap.size + 1 + 1 ≠ w1.heap.size + 1; omega))).free 0; clear f7 q1 q2 hb7)
          refine wpIn_ret ?_
          obtain ⟨f7, q1, q2, hb7⟩ := HS7.out
          have z := HSZ.out
          have zw := hwW1.out
          refine ⟨((KpL.below hb7).trans (KpL.set (by omega) _ _ _)).trans (KpL.set (by omega) _ _ _), rfl, HX.out, ?_, ?_, ?_⟩
          · exact (f7.set (b := w1.heap.size + 1) (.inl rfl) (by omega) (fun ht => by have := HTL.out _ ht; omega) (by omega) 0 _).set (b := w1.heap.size + 1 + 1) (.inr (.inl rfl)) (by omega) (fun ht => by have := HTL.out _ ht; omega) (by omega) 0 _
          · refine CAt.keep (w := w7.setCell ⟨w1.heap.size + 1, 0, none⟩ (.slice none 0 0)) ?_ (heap_setCell_ne _ _ _ _ (by show w1.heap.size + 1 ≠ w1.heap.size + 1 + 1; omega))
            have := q1.set 0 (.slice none 0 0); simpa using this
          · have := (CAt.keep (w' := w7.setCell ⟨w1.heap.size + 1, 0, none⟩ (.slice none 0 0)) q2 (heap_setCell_ne _ _ _ _ (by show w1.heap.size + 1 + 1 ≠ w1.heap.size + 1; omega))).set 0 (.int .i64 11); simpa using this
        · have H11 := hid h11
          have hbn : brk ((X0.d i).readE X0.f s) = .nilIface := by unfold brk; rw [if_neg h11]

          have HNX : Hid (∀ w5 po c, Below W.heap.size W w5 → w5.ownsRow W.heap.size 5 1 (.slice po ((X0.d i).readB X0.f s).length c) ((X0.d i).readB X0.f s).length (((X0.d i).readB X0.f s).map u8) → ∀ o, RDI w w1 W0 T k p X0 s (i + 1) (((w5.alloc o).setCell ⟨w1.heap.size + 1 + 1 + 1, i * 2, none⟩ (.int .i64 ((X0.d i).readE X0.f s : Int))).setCell ⟨w1.heap.size + 1 + 1 + 1, i * 2 + 1, none⟩ (.slice po ((X0.d i).readB X0.f s).length c))) := fun w5 po c hb5 ho o => by
            have hb : Below W.heap.size W (w5.alloc o) := below_on _ _ hb5 ((Below.refl _ _).alloc (Nat.le_refl _) _)
            have z := HSZ.out
            have zw := hwW1.out
            have zz := HI.out.fi.sz
            have k1 : ∀ b, b ≠ w1.heap.size + 1 + 1 + 1 → (((w5.alloc o).setCell ⟨w1.heap.size + 1 + 1 + 1, i * 2, none⟩ (.int .i64 ((X0.d i).readE X0.f s : Int))).setCell ⟨w1.heap.size + 1 + 1 + 1, i * 2 + 1, none⟩ (.slice po ((X0.d i).readB X0.f s).length c)).heap[b]? = (w5.alloc o).heap[b]? := fun b hb => (heap_setCell_ne _ _ _ _ hb).trans (heap_setCell_ne _ _ _ _ hb)
            refine ⟨((HI.out.fi.below hb).set (b := w1.heap.size + 1 + 1 + 1) (.inr (.inr rfl)) (by omega) (fun ht => by have := HTL.out _ ht; omega) (by omega) _ _).set (b := w1.heap.size + 1 + 1 + 1) (.inr (.inr rfl)) (by omega) (fun ht => by have := HTL.out _ ht; omega) (by omega) _ _, (HI.out.r1.below hb).keep (k1 _ (by omega)), (HI.out.r2.below hb).keep (k1 _ (by omega)), (HI.out.cp.below hb).next hik ?_, fun j hj => ?_⟩
            · exact ownsRow_keep (own_base ho (by omega)) fun b hv => heap_alloc_old _ _ (own_ge ho b hv).2
            · by_cases e : j = i
              · subst e; exact H11.out
              · exact HI.out.ok j (by omega)
          have HKP : Hid (∀ w5 v1 v2, Below W.heap.size W w5 → ∀ o, KpL W0.heap.size W (((w5.alloc o).setCell ⟨w1.heap.size + 1 + 1 + 1, i * 2, none⟩ v1).setCell ⟨w1.heap.size + 1 + 1 + 1, i * 2 + 1, none⟩ v2)) := fun w5 v1 v2 hb5 o => by
            have z := HSZ.out
            exact ((KpL.below (below_on _ _ hb5 ((Below.refl _ _).alloc (Nat.le_refl _) _))).trans (KpL.set (by omega) _ _ _)).trans (KpL.set (by omega) _ _ _)
          have HM4 : Hid (∀ w5 o, Below W.heap.size W w5 → (w5.alloc o).cell? ⟨w1.heap.size + 1 + 1 + 1 + 1, 0, none⟩ = some (.slice (some ⟨w1.heap.size + 1 + 1 + 1, 0, none⟩) k k)) := fun w5 o hb5 => ((MEM.out W HI.out.fi).2.1.below (below_on _ _ hb5 ((Below.refl _ _).alloc (Nat.le_refl _) o))).cell 0
          have HFZ : Hid (∀ w5 o, Below W.heap.size W w5 → ∀ j, (w5.alloc o).frozen? ⟨w1.heap.size + 1 + 1 + 1, j, none⟩ = false) := fun w5 o hb5 j => by
            obtain ⟨cs, h1, _⟩ := HI.out.cp.ex
            exact (h1.below (below_on _ _ hb5 ((Below.refl _ _).alloc (Nat.le_refl _) o))).free j
          have HCE : Hid (∀ w5 o, Below W.heap.size W w5 → ∀ j, j < k * 2 → ∃ v, (w5.alloc o).cell? ⟨w1.heap.size + 1 + 1 + 1, j, none⟩ = some v) := fun w5 o hb5 j hj => by
            obtain ⟨cs, h1, h2, _⟩ := HI.out.cp.ex
            have := (h1.below (below_on _ _ hb5 ((Below.refl _ _).alloc (Nat.le_refl _) o))).cell j
            rw [this]
            exact ⟨_, Array.getElem?_eq_getElem (by omega)⟩
          generalize (X0.d i).readB X0.f s = bs at *
          generalize hrE : (X0.d i).readE X0.f s = er at *
          refine wpIn_block (wpIn_seq (round_list (fun _ _ h => h) (by kernel_rfl) ?_))
          go_wp2_with (go_at_call 68; refine HAS.out.mono ?_; rintro e w5 ⟨qpo, qc, rfl, ho5, hb5⟩; rw [hbn]; have HB5 := hid hb5; have HO5 := hid ho5; clear hb5 ho5)
          have HQ := hid (HNX.out w5 qpo qc HB5.out HO5.out (.cells #[.int .i64 (er : Int), .slice qpo bs.length qc] 80))
          have HQK := hid (HKP.out w5 (.int .i64 (er : Int)) (.slice qpo bs.length qc) HB5.out (.cells #[.int .i64 (er : Int), .slice qpo bs.length qc] 80))
          have m4 := HM4.out w5 (.cells #[.int .i64 (er : Int), .slice qpo bs.length qc] 80) HB5.out
          have f0 := HFZ.out w5 (.cells #[.int .i64 (er : Int), .slice qpo bs.length qc] 80) HB5.out
          have CE := hid (HCE.out w5 (.cells #[.int .i64 (er : Int), .slice qpo bs.length qc] 80) HB5.out)
          have hc6 : CAt (w5.alloc (.cells #[.int .i64 (er : Int), .slice qpo bs.length qc] 80)) w5.heap.size #[.int .i64 (er : Int), .slice qpo bs.length qc] 80 := CAt.made _ _ _
          generalize w5.alloc (.cells #[.int .i64 (er : Int), .slice qpo bs.length qc] 80) = w6 at *
          obtain ⟨v0, e0⟩ := CE.out (i * 2) (by omega)
          obtain ⟨v1, e1⟩ := CE.out (i * 2 + 1) (by omega)
          have g0 := hc6.cell 0
          have g1 := hc6.cell 1
          have hik' : (i : Int) < (k : Int) := by omega
          clear hc6
          refine wpIn_seq (wpIn_seq (round_list (fun _ _ h => h) (by kernel_rfl) ?_))
          go_wp2
          refine wpIn_cond_false rfl (wpIn_skip ?_)
          refine round_list (fun _ _ h => h) (by kernel_rfl) ?_
          go_wp2
          exact ⟨HQK.out, HQ.out⟩
    · have hr : rdN k X0 s = 13 := by unfold rdN; rw [if_neg (by omega), if_pos (by simpa using hok)]
      obtain ⟨po, cc, rfl⟩ := hl.form
      have FIN : Hid (∀ W', Below w1.heap.size w1 W' → RdAt w1 k X0 s (.returned (.tuple #[.slice none 0 0, .int .i64 (13 : Int)])) W') := fun W' hb => ⟨_, (by first | (rw [hr]; done) | (rw [hr]; rfl)), hb, .inl ⟨by rw [hr]; decide, rfl⟩⟩
      clear hl h hE
      rw [show okNm s = false by simpa using hok] at HNM
      go_enter Tryz.func14, Tryz.ntmps14
      go_wp2_with (first
        | (go_at_call 65; refine (HCK.out _ _ _).mono ?_; rintro e w5 ⟨rfl, hw5⟩; have hw6 := hw5.symm; subst hw6)
        | (go_at_call 66; refine (HNM.out _).mono ?_; rintro e w5 ⟨rfl, hw5⟩; have hw6 := hw5.symm; subst hw6))
      refine ⟨rfl, .tuple #[.slice none 0 0, .int .i64 (13 : Int)], ?_, FIN.out _ ((((Below.refl w1.heap.size w1).alloc (Nat.le_refl _) _).alloc (by simp only [size_al]; omega) _).alloc (by simp only [size_al]; omega) _)⟩
      simp [results, Tryz.f14, go_sem]
  · have hr : rdN k X0 s = ckD k := by unfold rdN; rw [if_pos hck]
    obtain ⟨po, cc, rfl⟩ := hl.form
    have FIN : Hid (∀ W', Below w1.heap.size w1 W' → RdAt w1 k X0 s (.returned (.tuple #[.slice none 0 0, .int .i64 ((ckD k : Nat) : Int)])) W') := fun W' hb => ⟨_, (by first | (rw [hr]; done) | (rw [hr]; rfl)), hb, .inl ⟨by rw [hr]; exact hck, rfl⟩⟩
    clear hl h hE
    have hne : (((ckD k : Nat) : Int) != 0) = true := by simp; omega
    generalize ckD k = q at *
    go_enter Tryz.func14, Tryz.ntmps14
    go_wp2_with (first
      | (go_at_call 65; refine (HCK.out _ _ _).mono ?_; rintro e w5 ⟨rfl, hw5⟩; have hw6 := hw5.symm; subst hw6))
    refine ⟨rfl, .tuple #[.slice none 0 0, .int .i64 (q : Int)], ?_, FIN.out _ ((((Below.refl w1.heap.size w1).alloc (Nat.le_refl _) _).alloc (by simp only [size_al]; omega) _).alloc (by simp only [size_al]; omega) _)⟩
    simp [results, Tryz.f14, go_sem]
end Go.Proofs.YtklchjfkkbpipaaGreatDoor
