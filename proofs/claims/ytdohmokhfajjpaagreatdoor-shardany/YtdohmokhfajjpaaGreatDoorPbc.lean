/- Texts laid into one, cut to what is needed: the remark ahead of each part says what is proved there. -/
import Derived.Test.YtdohmokhfajjpaaGreatDoorPbb
import Derived.Deep.RegionHeld3
import Derived.BigRegion
import Derived.Test.YtdohmokhfajjpaaGreatDoorPav
/- Contract of join of package shard: what the first k files that are sound make, in new memory, or the error's number; what was there is as it was. -/
namespace Go.Proofs.YtdohmokhfajjpaaGreatDoor
open Go Go.RowKit

def JnU (w : World) (k m s : Nat) (l : List Cp) (e : Ending) (w' : World) : Prop := Below w.heap.size w w' ∧ ((csN (U.lgt s k) l l.length < k ∧ e = .returned (.tuple #[.slice none 0 0, .int .i64 10])) ∨
 (k ≤ csN (U.lgt s k) l l.length ∧ ∃ g, e = .returned (.tuple #[.slice (some ⟨g, 0, none⟩) s s, .int .i64 0]) ∧ w'.ownsRow w.heap.size 5 1 (.slice (some ⟨g, 0, none⟩) s s) s ((jnB k m s l).map u8)))
theorem Rg.KpL.set {B : Nat} {W : World} {a : Addr} (v : Value) (h : a.block < B) : Rg.KpL B W (W.setCell a v) := ⟨by rw [setCell_size]; exact Nat.le_refl _, fun r o hr ho => (heap_setCell_ne _ _ _ _ (by omega)).trans ho⟩
theorem own_put {w : World} {B t sz n D : Nat} {v : Value} {xs : List Value} {o o2 : Obj} (h : w.ownsRow B t sz v n xs) (hD : w.heap[D]? = some o) (ho : Rg.bkO o = true) : (w.putObj D o2).ownsRow B t sz v n xs := by
 refine ownsRow_keep h fun b hb => World.putObj_heap_other ?_
 rintro rfl
 rcases h.2 with ⟨rfl, _⟩ | ⟨g, cap, cur, rfl, _, hg, _⟩
 ·cases hb
 ·cases hb; rw [hD] at hg; cases hg; cases ho
theorem JnU.put {w w9 : World} {k m s : Nat} {l : List Cp} {e : Ending} (h : JnU w k m s l e w9) {D : Nat} {o : Obj} (o2 : Obj) (hD : w9.heap[D]? = some o) (ho : Rg.bkO o = true) (hB : w.heap.size ≤ D) : JnU w k m s l e (w9.putObj D o2) := by
 obtain ⟨h1, h2⟩ := h
 refine ⟨below_grown h1 (grownBy_putObj' w9 D o2) (Nat.le_refl _) (fun b e => by cases e; exact hB), ?_⟩
 rcases h2 with h2 | ⟨h2, g, h3, h4⟩
 ·exact .inl h2
 ·exact .inr ⟨h2, g, h3, own_put h4 hD ho⟩
theorem JnU.below {w w0 w' : World} {k m s : Nat} {l : List Cp} {e : Ending} (h : JnU w k m s l e w') (hb : Below w0.heap.size w0 w) : JnU w0 k m s l e w' := by
 obtain ⟨h1, h2⟩ := h
 refine ⟨below_on hb h1, ?_⟩
 rcases h2 with h2 | ⟨h2, g, h3, h4⟩
 ·exact .inl h2
 ·exact .inr ⟨h2, g, h3, own_base h4 hb.size⟩
theorem joinS_cps {gs gh N k m s : Nat} {l : List Cp} {W : World} {A : Nat → Option Addr} (hN : N = k + m) (hl : l.length = N) (h0 : 1 ≤ k) (h1 : 1 ≤ m) (h : k + m ≤ 16) (hs : s ≤ 65536)
  (hm : U.MatAt W (some ⟨gs, 0, none⟩) N A (fun j => if hvB (U.lgt s k) k l j = true then U.lgt s k else 0) (fun j => if hvB (U.lgt s k) k l j = true then U.lgt s k else 0) (fun i => kx (rdS (U.lgt s k) l i))) (hb : U.BoolsAt W (some ⟨gh, 0, none⟩) N (hvB (U.lgt s k) k l)) :
  Calls Tryz.prog 54 #[.slice (some ⟨gs, 0, none⟩) N N, .slice (some ⟨gh, 0, none⟩) N N, .int .i64 (k : Int), .int .i64 (m : Int), .int .i64 (s : Int)] W (JnU W k m s l) := by
 subst hN
 have hE : U.errMt (k + m) (k + m) (k + m) (hvB (U.lgt s k) k l) (fun j => if hvB (U.lgt s k) k l j = true then U.lgt s k else 0) ((U.lgt s k : Nat) : Int) = 0 := U.errMt_ok (U.lgt_le s k hs h0) (.inr rfl) (fun i _ q => by simp only [q, if_true])
 have hcn := cn_hv (U.lgt s k) k l (k + m)
 refine (U.joinS_any _ _ _ _ _ _ k m s _ _ _ _ _ W hm hb h0 h1 h hs).mono ?_
 rintro e w' ⟨hb', hq⟩
 refine ⟨hb', ?_⟩
 rw [hl]
 rcases hq with ⟨hq, he⟩ | ⟨hq, g, he, ho⟩
 ·rcases Nat.lt_or_ge (csN (U.lgt s k) l (k + m)) k with hc | hc
  ·left
   have := U.errMd_few hE (by rw [hcn]; omega)
   rw [this] at he
   exact ⟨hc, he⟩
  ·exact absurd (U.errMd_ok hE (by rw [hcn]; omega)) hq
 ·rcases Nat.lt_or_ge (csN (U.lgt s k) l (k + m)) k with hc | hc
  ·have := U.errMd_few hE (by rw [hcn]; omega)
   rw [this] at hq; cases hq
  ·right
   refine ⟨hc, g, he, ?_⟩
   have e1 : (jnB k m s l).map u8 = U.vals s fun j => U.kv (U.jnd (U.lgt s k) (U.mdd k (k + m) (hvB (U.lgt s k) k l) fun i => kx (rdS (U.lgt s k) l i)) j) := by
    unfold jnB U.vals
    rw [List.map_map]; rfl
   rw [e1]; exact ho
set_option maxRecDepth 100000 in
set_option maxHeartbeats 4000000 in
theorem join_any (r : Rv) (hr : r.ok) (k m s : Nat) (hk : r.k = k) (hm : r.m = m) (hs : r.size = s) (h0 : 1 ≤ k) (h1 : 1 ≤ m) (h : k + m ≤ 16) (hs' : s ≤ 65536) (v : Value) (l : List Cv) (w : World) (hl : CL w v l) (hn : l.length = k + m) :
  Calls Tryz.prog 34 #[v, .agg r.cs] w (JnU w k m s (cps l)) := by
 have HR := hid hr
 have HL := hid hl
 obtain ⟨po, c, rfl, _⟩ := hl
 obtain ⟨N, hN⟩ : ∃ N, N = k + m := ⟨_, rfl⟩
 have hn2 : l.length = N := by omega
 have HN := hid hN
 have HN2 := hid hn2
 rw [hn2] at HL ⊢
 have hN16 : N ≤ 16 := by omega
 have HMB := run_makeB N (by omega)
 have HMH := run_makeH N (by omega)
 have HK := hid hk
 have HM := hid hm
 have HS := hid hs
 have HH := hid (And.intro h0 (And.intro h1 (And.intro h hs')))
 have HLE := hid (fun w => U.length_ok s k w hs' h0 (by omega))
 obtain ⟨n, hnl⟩ : ∃ n, n = U.lgt s k := ⟨_, rfl⟩
 have HNL := hid hnl
 rw [← hnl] at HLE
 clear hn hn2 hk hm hs hr hN hnl h h1 hs'
 refine (callsIn_wide (n := 0)).1 ?_
 refine callsIn_of_wp_marks Tryz.func34 rfl trivial ?_ rfl
 refine wpIn_wide.2 ?_
 simp only [Tryz.ntmps34, List.size_toArray, List.length_cons, List.length_nil, Nat.reduceAdd, Nat.reduceSub, Array.replicate_succ, Array.replicate_zero, List.push_toArray, List.append_toArray, List.nil_append, List.cons_append]
 go_wp2_with ((with_reducible refine wpList_boxR rfl _ rfl r.cs ?_ ?_); exact rfl; intro w1 g1 hc1 hb1 hg1; have HA := hid (RBox.mk' HR.out hc1); have HB := hid hb1; have HL1 := hid (HL.out.below hb1); have c3 := HA.out.c3; have c5 := HA.out.c5; rw [HS.out] at c3; rw [HK.out] at c5; clear hc1 hb1)
 clear HL
 go_step3
 go_wp2_with (go_at_call 26; refine (HLE.out _).mono ?_; rintro e w' ⟨rfl, hw⟩; have h3 := hw.symm; subst h3)
 go_cut [8, 9, 21, 22, 23, 24, 25, 26] from 27 (fun s8 s9 _ _ s23 _ _ s26 wc => ∃ b8 b9 gs gh : Nat, s8 = ptr b8 ∧ s9 = ptr b9 ∧ s23 = .slice (some ⟨gs, 0, none⟩) N N ∧ s26 = .slice (some ⟨gh, 0, none⟩) N N ∧ Hid (M4 w1 wc b8 b9 gs gh N))
 case first =>
  go_region
  all_goals
   obtain ⟨a0, a1, a2, a3, hb⟩ := four_at w1 _ _ _ _ _ rfl
   go_wp2_with fail
   go_meet
   case rel =>
    refine ⟨_, _, _, _, rfl, rfl, rfl, rfl, M4.mk ?_ ?_ ?_ ?_ hb ?_ ?_ ?_ ?_⟩
    ·first | exact a0 | exact a1 | exact a2 | exact a3
    ·first | exact a0 | exact a1 | exact a2 | exact a3
    ·first | exact a0 | exact a1 | exact a2 | exact a3
    ·first | exact a0 | exact a1 | exact a2 | exact a3
    all_goals omega
 case rest =>
  obtain ⟨b8, b9, gs, gh, rfl, rfl, rfl, rfl, HM4⟩ := hcut
  have HC3 := hid (HA.out.below HR.out HM4.out.be)
  have d5 := HC3.out.c5
  rw [HK.out] at d5
  clear c3 c5 HMB HMH
  go_wp2_with fail
  go_step3
  go_wp2_with (go_at_call 53; refine (sound_any _ _ _ _ _ _ rfl).mono ?_; rintro e w5 ⟨rfl, rfl⟩)
  rename_i Kx hKx
  refine (wpIn_wide (n := 0)).1 ?_
  have hb0 := below_on (below_on (below_al wc (.cells #[.int .i64 (k : Int)] 3)) (below_al (wc.alloc (.cells #[.int .i64 (k : Int)] 3)) (.cells #[.slice po N c] 29))) (below_al ((wc.alloc (.cells #[.int .i64 (k : Int)] 3)).alloc (.cells #[.slice po N c] 29)) (.cells #[.int .i64 (n : Int)] 3))
  have e0 := ((CAt.made wc #[.int .i64 (k : Int)] 3).below (below_al _ (.cells #[.slice po N c] 29))).below (below_al _ (.cells #[.int .i64 (n : Int)] 3))
  have e1 := (CAt.made (wc.alloc (.cells #[.int .i64 (k : Int)] 3)) #[.slice po N c] 29).below (below_al _ (.cells #[.int .i64 (n : Int)] 3))
  have e2 := CAt.made ((wc.alloc (.cells #[.int .i64 (k : Int)] 3)).alloc (.cells #[.slice po N c] 29)) #[.int .i64 (n : Int)] 3
  have hsz : (((wc.alloc (.cells #[.int .i64 (k : Int)] 3)).alloc (.cells #[.slice po N c] 29)).alloc (.cells #[.int .i64 (n : Int)] 3)).heap.size = wc.heap.size + 3 := by simp
  rw [size_al] at e1 e2
  rw [size_al] at e2
  generalize (((wc.alloc (.cells #[.int .i64 (k : Int)] 3)).alloc (.cells #[.slice po N c] 29)).alloc (.cells #[.int .i64 (n : Int)] 3)) = W0 at hb0 e0 e1 e2 hsz ⊢
  have m8 := HM4.out.c8.below hb0
  have m9 := HM4.out.c9.below hb0
  have ms := HM4.out.cs.below hb0
  have mh := HM4.out.ch.below hb0
  have hg1l := HA.out.at_.lt
  have hbm := HM4.out.be
  have hls := HM4.out.ls
  have hlh := HM4.out.lh
  have hl8 := HM4.out.c8.lt
  have hl9 := HM4.out.c9.lt
  have hlt1 := HM4.out.cs.lt
  have hlt2 := HM4.out.ch.lt
  have mem : ∀ W, Only (fun b => b = gs ∨ b = gh ∨ b = wc.heap.size) W0 W → CAt W (wc.heap.size + 1) #[.slice po N c] 29 ∧ CAt W (wc.heap.size + 1 + 1) #[.int .i64 (n : Int)] 3 ∧ CL W (.slice po N c) l ∧ CAt W b8 #[.slice (some ⟨gs, 0, none⟩) N N] 25 ∧ CAt W b9 #[.slice (some ⟨gh, 0, none⟩) N N] 112 ∧ RBox W g1 r := by
   intro W ho
   have low : ∀ b, b < w1.heap.size → W.heap[b]? = w1.heap[b]? := fun b hb => (ho.block b (by have := hbm.size; omega) (by rintro (q | q | q) <;> (have := hbm.size; omega))).trans ((hb0.block b (by have := hbm.size; omega)).trans (hbm.block b hb))
   refine ⟨e1.keep (ho.block _ (by omega) (by rintro (q | q | q) <;> omega)), e2.keep (ho.block _ (by omega) (by rintro (q | q | q) <;> omega)), HL1.out.keep fun a ha => World.cell?_of_block (low _ (cell_lt' ha)), m8.keep (ho.block _ (by omega) ?_), m9.keep (ho.block _ (by omega) ?_), RBox.mk' HR.out (HA.out.at_.keep (low _ hg1l))⟩
   ·rintro (q | q | q)
    ·exact cat_ne m8 ms (by decide) q
    ·exact cat_ne m8 mh (by decide) q
    ·omega
   ·rintro (q | q | q)
    ·exact cat_ne m9 ms (by decide) q
    ·exact cat_ne m9 mh (by decide) q
    ·omega
  have MEM := hid mem
  have HW0 := hid (below_on (below_on HB.out hbm) hb0)
  have HJ0 := hid (JI.start (n := n) (k := k) (l := cps l) ms mh e0)
  have HSZ := hid hsz
  have HGE : Hid (w.heap.size ≤ gs ∧ w.heap.size ≤ gh ∧ w.heap.size ≤ wc.heap.size) := by
   have := HB.out.size; have := hbm.size
   exact ⟨by omega, by omega, by omega⟩
  have HLT := hid (And.intro hlt1 hlt2)
  clear hsz mem m8 m9 ms mh hbm hls hlh hl8 hl9 hlt1 hlt2 hg1l e0 e1 e2 hb0 HC3 d5 HL1 HA
  refine Rg.range_two (gf := 77) (lb := #[ptr (wc.heap.size + 1), ptr (wc.heap.size + 1 + 1)]) rfl (enters_of Tryz.func77 (by kernel_rfl) rfl) l.length rfl (En2 n l) (fun i W => csN n (cps l) i < k ∧ JI W0 gs gh wc.heap.size N n k (cps l) i W) (fun c W => c = .exit 0 ∧ JF W0 gs gh wc.heap.size N n k (cps l) W) ?hEn ?hI ?hIx ?h0 ?hseq ?asg ?assign ?body ?done ?stop
  case hEn =>
   rintro i x y A C ⟨xc, pq, q1, q2, q3, q4, q5⟩ ht
   exact ⟨xc, pq, q1, q2, q3, q4, q5.keep fun g cs hc => ht.other hc rfl⟩
  case hI => exact fun i A C h ht => ⟨h.1, h.2.tn ht⟩
  case hIx => exact fun c A C h ht => ⟨h.1, h.2.tn ht⟩
  case h0 => exact ⟨h0, HJ0.out⟩
  case hseq =>
   refine sound_it _ _ _ n (.slice po N c) l _ (fun i W h => by obtain ⟨q1, q2, q3, _⟩ := MEM.out W h.2.on; exact ⟨q1, q2, q3⟩) ?_
   rintro i x W hx hs ⟨q1, q2⟩
   have hc : (cps l)[i]? = some x.cp := by rw [cps_get, hx]; rfl
   refine ⟨?_, q2.skip hc hs⟩
   rw [cs_step hc, hs]
   exact q1
  case assign =>
   intro l2 i x y W K hik hK
   refine wpIn_seq (H.round_list (fun _ _ h => h) (by kernel_rfl) ?_)
   go_wp2
   refine H.round_list (fun _ _ h => h) (by kernel_rfl) ?_
   go_wp2
   exact hK
  case body =>
   rintro l2 i x y W hik ⟨hcs, hji⟩ ⟨xc, pq, hx, hsd, rfl, rfl, hsh⟩
   obtain ⟨_, _, _, q8, q9, _⟩ := MEM.out W hji.on
   have hiN : i < N := by rw [HN2.out] at hik; exact hik
   have hc : (cps l)[i]? = some xc.cp := by rw [cps_get, hx]; rfl
   have hi' : (i : Int) < (N : Int) := by omega
   have hcs2 : csN n (cps l) (i + 1) = csN n (cps l) i + 1 := by rw [cs_step hc, hsd]; rfl
   have HPUT := hid (fun W3 e3 => hji.put (W3 := W3) hc hsd hcs hsh e3)
   obtain ⟨A, hS, _⟩ := hji.ex
   have HSs := hid hS
   have HHv := hid hji.hv
   have HLe := hid hji.le
   have HJ := hid hji
   have HCS := hid hcs
   have HCS2 := hid hcs2
   have HQ8 := hid q8
   have HQ9 := hid q9
   have HSH := hid hsh
   have HHC := hid hc
   have HSD := hid hsd
   clear hcs2 hcs hji hS hsh hc hsd hx hik
   have c8 : W.drew.cell? ⟨b8, 0, none⟩ = some (.slice (some ⟨gs, 0, none⟩) N N) := q8.cell 0
   have c9 : W.drew.cell? ⟨b9, 0, none⟩ = some (.slice (some ⟨gh, 0, none⟩) N N) := q9.cell 0
   clear q8 q9
   refine wpIn_block (wpIn_seq (H.round_any (by kernel_rfl) (fun _ _ h => h) (by kernel_rfl) (wpAny_of_held (S := fun W' => W'.cell? ⟨b8, 0, none⟩ = some (.slice (some ⟨gs, 0, none⟩) N N) ∧ W'.cell? ⟨b9, 0, none⟩ = some (.slice (some ⟨gh, 0, none⟩) N N)) _ _ _ _ ?_)))
   have hHeld : (fun W' : World => W'.cell? ⟨b8, 0, none⟩ = some (.slice (some ⟨gs, 0, none⟩) N N) ∧ W'.cell? ⟨b9, 0, none⟩ = some (.slice (some ⟨gh, 0, none⟩) N N)) W.drew := ⟨c8, c9⟩
   refine wpAnyH_take (i := 0) (oi := ⟨some 34, .load 25 (.tmp 8), _, _, _, none⟩) (v := .slice (some ⟨gs, 0, none⟩) N N) rfl (by kernel_rfl) (by kernel_rfl) (by kernel_rfl) (fun _ _ _ h => h) (Or.inl ⟨by kernel_rfl, by intro W hW; obtain ⟨q0, q1⟩ := hW; go_simp⟩) hHeld ?_
   refine wpAnyH_take (i := 1) (oi := ⟨some 35, .move (.tmp 11), _, _, _, none⟩) (v := .int .i64 (i : Int)) rfl (by kernel_rfl) (by kernel_rfl) (by kernel_rfl) (fun _ _ _ h => h) (Or.inl ⟨by kernel_rfl, by intro W hW; obtain ⟨q0, q1⟩ := hW; go_simp⟩) hHeld ?_
   refine wpAnyH_take (i := 2) (oi := ⟨some 36, .load 112 (.tmp 9), _, _, _, none⟩) (v := .slice (some ⟨gh, 0, none⟩) N N) rfl (by kernel_rfl) (by kernel_rfl) (by kernel_rfl) (fun _ _ _ h => h) (Or.inl ⟨by kernel_rfl, by intro W hW; obtain ⟨q0, q1⟩ := hW; go_simp⟩) hHeld ?_
   refine wpAnyH_take (i := 3) (oi := ⟨some 37, .move (.tmp 11), _, _, _, none⟩) (v := .int .i64 (i : Int)) rfl (by kernel_rfl) (by kernel_rfl) (by kernel_rfl) (fun _ _ _ h => h) (Or.inl ⟨by kernel_rfl, by intro W hW; obtain ⟨q0, q1⟩ := hW; go_simp⟩) hHeld ?_
   refine wpAnyH_take (i := 4) (oi := ⟨some 38, .move (.tmp 12), _, _, _, none⟩) (v := .slice pq n n) rfl (by kernel_rfl) (by kernel_rfl) (by kernel_rfl) (fun _ _ _ h => h) (Or.inl ⟨by kernel_rfl, by intro W hW; obtain ⟨q0, q1⟩ := hW; go_simp⟩) hHeld ?_
   refine wpAnyH_take (i := 5) (oi := ⟨some 39, .indexAddr 25 (.tmp 34) (.tmp 35), _, _, _, none⟩) (v := .pointer (some ⟨gs, i, none⟩)) rfl (by kernel_rfl) (by kernel_rfl) (by kernel_rfl) (fun _ _ _ h => h) (Or.inl ⟨by kernel_rfl, by intro W hW; obtain ⟨q0, q1⟩ := hW; go_simp⟩) hHeld ?_
   refine wpAnyH_ready (rs := [6]) (by kernel_rfl) (by simp) ?_
   refine AllReadyH.cons (o := ⟨none, .store 22 (.tmp 39) (.tmp 38), _, _, _, none⟩) rfl (fun K hK => ?_) AllReadyH.nil
   with_reducible refine step_store1 22 ?_ ?_ (.tmp 39) (.tmp 38) ?_ gs i ?_ (.slice pq n n) ?_ ?_ ?_ ?_ (t := 22) (cs := rowS N i n k (cps l) A) ?_ ?_ ?_
   ·exact rfl
   ·exact rfl
   ·exact rfl
   ·kernel_rfl
   ·kernel_rfl
   ·exact rfl
   ·kernel_rfl
   ·exact rfl
   ·exact HSs.out
   ·unfold rowS; rw [rowF_size]; exact hiN
   have n1 : b8 ≠ gs := cat_ne HQ8.out HSs.out (by decide)
   have n2 : b9 ≠ gs := cat_ne HQ9.out HSs.out (by decide)
   have n3 : b8 ≠ gh := cat_ne HQ8.out HHv.out (by decide)
   have n4 : b9 ≠ gh := cat_ne HQ9.out HHv.out (by decide)
   have n5 : gs ≠ gh := cat_ne HSs.out HHv.out (by decide)
   have n6 : gs ≠ wc.heap.size := cat_ne HSs.out HLe.out (by decide)
   have n7 : gh ≠ wc.heap.size := cat_ne HHv.out HLe.out (by decide)
   have hS2 : (fun W' : World => W'.cell? ⟨b8, 0, none⟩ = some (.slice (some ⟨gs, 0, none⟩) N N) ∧ W'.cell? ⟨b9, 0, none⟩ = some (.slice (some ⟨gh, 0, none⟩) N N)) (W.drew.setCell ⟨gs, i, none⟩ (.slice pq n n)) :=
    ⟨(World.cell?_of_block (heap_setCell_ne _ _ _ _ n1)).trans c8, (World.cell?_of_block (heap_setCell_ne _ _ _ _ n2)).trans c9⟩
   have HH2 := hid (CAt.keep (w' := W.drew.setCell ⟨gs, i, none⟩ (.slice pq n n)) HHv.out (heap_setCell_ne W.drew ⟨gs, i, none⟩ (.slice pq n n) gh n5.symm))
   have HL2 := hid (CAt.keep (w' := W.drew.setCell ⟨gs, i, none⟩ (.slice pq n n)) HLe.out (heap_setCell_ne W.drew ⟨gs, i, none⟩ (.slice pq n n) wc.heap.size n6.symm))
   have HE3 := hid (fun W3 (e : W3 = ((W.drew.setCell ⟨gs, i, none⟩ (.slice pq n n)).setCell ⟨gh, i, none⟩ (.bool true)).setCell ⟨wc.heap.size, 0, none⟩ (.int .i64 ((k - csN n (cps l) (i + 1) : Nat) : Int))) => HPUT.out W3 e)
   refine hK.out _ _ hS2 (fun hHeld => ?_)
   clear hK K hS2 c8 c9 HPUT
   have HKA := hid (Rg.KpL.trans (Rg.KpL.below (B := W0.heap.size) (below_drew W)) (Rg.KpL.set (B := W0.heap.size) (W := W.drew) (a := ⟨gs, i, none⟩) (.slice pq n n) (by have := HLT.out.1; have := HSZ.out; show gs < _; omega)))
   generalize W.drew.setCell ⟨gs, i, none⟩ (.slice pq n n) = Wa at HH2 HL2 HE3 HKA hHeld ⊢
   refine wpAnyH_take (i := 7) (oi := ⟨some 40, .indexAddr 112 (.tmp 36) (.tmp 37), _, _, _, none⟩) (v := .pointer (some ⟨gh, i, none⟩)) rfl (by kernel_rfl) (by kernel_rfl) (by kernel_rfl) (fun _ _ _ h => h) (Or.inl ⟨by kernel_rfl, by intro W hW; obtain ⟨q0, q1⟩ := hW; go_simp⟩) hHeld ?_
   refine wpAnyH_ready (rs := [8]) (by kernel_rfl) (by simp) ?_
   refine AllReadyH.cons (o := ⟨none, .store 4 (.tmp 40) (.const (.bool true)), _, _, _, none⟩) rfl (fun K hK => ?_) AllReadyH.nil
   with_reducible refine step_store1 4 ?_ ?_ (.tmp 40) (.const (.bool true)) ?_ gh i ?_ (.bool true) ?_ ?_ ?_ ?_ (t := 4) (cs := rowH N i n k (cps l)) ?_ ?_ ?_
   ·exact rfl
   ·exact rfl
   ·exact rfl
   ·kernel_rfl
   ·kernel_rfl
   ·exact rfl
   ·kernel_rfl
   ·exact rfl
   ·exact HH2.out
   ·unfold rowH; rw [rowF_size]; exact hiN
   have hS3 : (fun W' : World => W'.cell? ⟨b8, 0, none⟩ = some (.slice (some ⟨gs, 0, none⟩) N N) ∧ W'.cell? ⟨b9, 0, none⟩ = some (.slice (some ⟨gh, 0, none⟩) N N)) (Wa.setCell ⟨gh, i, none⟩ (.bool true)) :=
    ⟨(World.cell?_of_block (heap_setCell_ne _ _ _ _ n3)).trans hHeld.1, (World.cell?_of_block (heap_setCell_ne _ _ _ _ n4)).trans hHeld.2⟩
   refine hK.out _ _ hS3 (fun _ => ?_)
   clear hK K hS3 hHeld
   have HL3 := hid (CAt.keep (w' := Wa.setCell ⟨gh, i, none⟩ (.bool true)) HL2.out (heap_setCell_ne Wa ⟨gh, i, none⟩ (.bool true) wc.heap.size n7.symm))
   have hkp : Rg.KpL W0.heap.size W (Wa.setCell ⟨gh, i, none⟩ (.bool true)) := HKA.out.trans (Rg.KpL.set _ (by have := HLT.out.2; have := HSZ.out; show gh < _; omega))
   have HKP := hid hkp
   generalize Wa.setCell ⟨gh, i, none⟩ (.bool true) = Wb at HL3 HE3 HKP hkp ⊢
   clear hkp HL2 HH2 n1 n2 n3 n4 n5 n6 n7
   obtain ⟨D, hD⟩ : ∃ D, D = k - csN n (cps l) i := ⟨_, rfl⟩
   have hD1 : 1 ≤ D := by have := HCS.out; omega
   have hD2 : D ≤ 16 := by have := HH.out.2.2.1; omega
   have hD3 : k - csN n (cps l) (i + 1) = D - 1 := by rw [HCS2.out]; omega
   have hcl : Wb.cell? ⟨wc.heap.size, 0, none⟩ = some (.int .i64 (D : Int)) := by rw [hD]; exact HL3.out.cell 0
   have hfl : Wb.frozen? ⟨wc.heap.size, 0, none⟩ = false := HL3.out.free 0
   have hsub : IntKind.i64.wrap ((D : Int) - 1) = ((D - 1 : Nat) : Int) := by rw [IntWalk.i64_in _ ⟨by omega, by omega⟩]; omega
   rw [hD3] at HE3
   have HD := hid hD
   have HD3 := hid hD3
   clear hD hD3
   obtain ⟨D1, hD4⟩ : ∃ D1, D1 = D - 1 := ⟨_, rfl⟩
   rw [← hD4] at hsub HE3 HD3
   have HD4 := hid hD4
   clear hD4
   refine wpAnyH_done (by kernel_rfl) ?_ _
   refine wpIn_seq (H.round_list (fun _ _ h => h) (by kernel_rfl) ?_)
   go_wp2
   have HJI := hid (HE3.out _ rfl)
   have HK3 := hid (HKP.out.trans (Rg.KpL.set (B := W0.heap.size) (W := Wb) (a := ⟨wc.heap.size, 0, none⟩) (.int .i64 (D1 : Int)) (by have := HSZ.out; show wc.heap.size < _; omega)))
   have hc2 : (Wb.setCell ⟨wc.heap.size, 0, none⟩ (.int .i64 (D1 : Int))).cell? ⟨wc.heap.size, 0, none⟩ = some (.int .i64 (D1 : Int)) := by
    have := HJI.out.le.cell 0
    rw [HD3.out] at this
    simpa using this
   generalize Wb.setCell ⟨wc.heap.size, 0, none⟩ (.int .i64 (D1 : Int)) = Wd at HJI HK3 hc2 ⊢
   clear hcl hfl HE3 HKP HL3 hsub
   by_cases hz : D1 = 0
   ·have hz' : ((D1 : Int) == 0) = true := by simp [hz]
    have HF := hid (HJI.out.fin (by omega) (.inr (by have := HD3.out; omega)))
    clear hz
    refine wpIn_seq (H.round_list (fun _ _ h => h) (by kernel_rfl) ?_)
    go_wp2
    refine wpIn_cond_true rfl (wpIn_exit ?_)
    exact ⟨HK3.out, rfl, HF.out⟩
   ·have hz' : ((D1 : Int) == 0) = false := by simp [hz]
    have HF := hid (show csN n (cps l) (i + 1) < k by have := HD3.out; omega)
    clear hz
    refine wpIn_seq (H.round_list (fun _ _ h => h) (by kernel_rfl) ?_)
    go_wp2
    refine wpIn_cond_false rfl (wpIn_skip ?_)
    exact ⟨HK3.out, HF.out, HJI.out⟩
  case done =>
   rintro D W hD ⟨_, hji⟩ hd
   have hj := hji.fin (i := l.length) (by rw [HN2.out]; exact Nat.le_refl _) (.inl HN2.out)
   clear hji
   unfold Rg.endAct
   have hm := JF.mat hj (fun c hc z hz => by
    obtain ⟨x, hx, rfl⟩ := List.mem_map.1 hc
    exact ((MEM.out W hj.on).2.2.1.each x hx).byte z hz)
   obtain ⟨AS, hmat⟩ := hm
   have hbo := hj.bools
   obtain ⟨_, _, _, q8, q9, hrb⟩ := MEM.out W hj.on
   have c8 : W.cell? ⟨b8, 0, none⟩ = some (.slice (some ⟨gs, 0, none⟩) N N) := q8.cell 0
   have c9 : W.cell? ⟨b9, 0, none⟩ = some (.slice (some ⟨gh, 0, none⟩) N N) := q9.cell 0
   have c3 := hrb.c3
   have c5 := hrb.c5
   have c6 := hrb.c6
   rw [HS.out] at c3; rw [HK.out] at c5; rw [HM.out] at c6
   have HJN := hid (joinS_cps (l := cps l) HN.out (by rw [cps_len, HN2.out]) HH.out.1 HH.out.2.1 HH.out.2.2.1 HH.out.2.2.2 (by rw [← HNL.out]; exact hmat) (by rw [← HNL.out]; exact hbo))
   have HOW := hid (below_tr HW0.out (Only.below hj.on (B := w.heap.size) HW0.out.size (by rintro b (q | q | q) <;> (have := HGE.out; omega))))
   have HD := hid hd
   clear hmat hbo q8 q9 hrb hj hd
   rcases Nat.lt_or_ge (csN (U.lgt s k) (cps l) (cps l).length) k with hq | hq
   ·have HQ := hid hq
    clear hq
    go_wp2_with (go_at_call 54; refine HJN.out.mono ?_; rintro e w9 ⟨hb9, hans⟩; obtain rfl := (hans.resolve_right (fun h => absurd h.1 (Nat.not_le.2 HQ.out))).2; clear hans)
    have hd9 := (hb9.block D (Array.getElem?_eq_some_iff.1 HD.out).1).trans HD.out
    refine ⟨by simp, .inl ⟨_, _, rfl, run_takeDeferred hd9, ?_⟩⟩
    have hwD : w.heap.size ≤ D := by have := HW0.out.size; omega
    refine ⟨_, by simp [results, Tryz.f34, go_sem]; rfl, ?_⟩
    exact JnU.put ⟨below_on HOW.out hb9, .inl ⟨HQ.out, rfl⟩⟩ _ hd9 rfl hwD
   ·have HQ := hid hq
    clear hq
    go_wp2_with (go_at_call 54; refine HJN.out.mono ?_; rintro e w9 ⟨hb9, hans⟩; obtain ⟨g, rfl, ho⟩ := (hans.resolve_left (fun h => absurd h.1 (Nat.not_lt.2 HQ.out))).2; clear hans)
    have hd9 := (hb9.block D (Array.getElem?_eq_some_iff.1 HD.out).1).trans HD.out
    refine ⟨by simp, .inl ⟨_, _, rfl, run_takeDeferred hd9, ?_⟩⟩
    have hwD : w.heap.size ≤ D := by have := HW0.out.size; omega
    refine ⟨_, by simp [results, Tryz.f34, go_sem]; rfl, ?_⟩
    exact JnU.put ⟨below_on HOW.out hb9, .inr ⟨HQ.out, g, rfl, own_base ho HOW.out.size⟩⟩ _ hd9 rfl hwD
  case stop =>
   rintro D c W hD ⟨rfl, hj⟩ hd
   refine wpIn_exit ?_
   unfold Rg.endAct
   have hm := JF.mat hj (fun c hc z hz => by
    obtain ⟨x, hx, rfl⟩ := List.mem_map.1 hc
    exact ((MEM.out W hj.on).2.2.1.each x hx).byte z hz)
   obtain ⟨AS, hmat⟩ := hm
   have hbo := hj.bools
   obtain ⟨_, _, _, q8, q9, hrb⟩ := MEM.out W hj.on
   have c8 : W.cell? ⟨b8, 0, none⟩ = some (.slice (some ⟨gs, 0, none⟩) N N) := q8.cell 0
   have c9 : W.cell? ⟨b9, 0, none⟩ = some (.slice (some ⟨gh, 0, none⟩) N N) := q9.cell 0
   have c3 := hrb.c3
   have c5 := hrb.c5
   have c6 := hrb.c6
   rw [HS.out] at c3; rw [HK.out] at c5; rw [HM.out] at c6
   have HJN := hid (joinS_cps (l := cps l) HN.out (by rw [cps_len, HN2.out]) HH.out.1 HH.out.2.1 HH.out.2.2.1 HH.out.2.2.2 (by rw [← HNL.out]; exact hmat) (by rw [← HNL.out]; exact hbo))
   have HOW := hid (below_tr HW0.out (Only.below hj.on (B := w.heap.size) HW0.out.size (by rintro b (q | q | q) <;> (have := HGE.out; omega))))
   have HD := hid hd
   clear hmat hbo q8 q9 hrb hj hd
   rcases Nat.lt_or_ge (csN (U.lgt s k) (cps l) (cps l).length) k with hq | hq
   ·have HQ := hid hq
    clear hq
    go_wp2_with (go_at_call 54; refine HJN.out.mono ?_; rintro e w9 ⟨hb9, hans⟩; obtain rfl := (hans.resolve_right (fun h => absurd h.1 (Nat.not_le.2 HQ.out))).2; clear hans)
    have hd9 := (hb9.block D (Array.getElem?_eq_some_iff.1 HD.out).1).trans HD.out
    refine ⟨by simp, .inl ⟨_, _, rfl, run_takeDeferred hd9, ?_⟩⟩
    have hwD : w.heap.size ≤ D := by have := HW0.out.size; omega
    refine ⟨_, by simp [results, Tryz.f34, go_sem]; rfl, ?_⟩
    exact JnU.put ⟨below_on HOW.out hb9, .inl ⟨HQ.out, rfl⟩⟩ _ hd9 rfl hwD
   ·have HQ := hid hq
    clear hq
    go_wp2_with (go_at_call 54; refine HJN.out.mono ?_; rintro e w9 ⟨hb9, hans⟩; obtain ⟨g, rfl, ho⟩ := (hans.resolve_left (fun h => absurd h.1 (Nat.not_lt.2 HQ.out))).2; clear hans)
    have hd9 := (hb9.block D (Array.getElem?_eq_some_iff.1 HD.out).1).trans HD.out
    refine ⟨by simp, .inl ⟨_, _, rfl, run_takeDeferred hd9, ?_⟩⟩
    have hwD : w.heap.size ≤ D := by have := HW0.out.size; omega
    refine ⟨_, by simp [results, Tryz.f34, go_sem]; rfl, ?_⟩
    exact JnU.put ⟨below_on HOW.out hb9, .inr ⟨HQ.out, g, rfl, own_base ho HOW.out.size⟩⟩ _ hd9 rfl hwD
end Go.Proofs.YtdohmokhfajjpaaGreatDoor

/- Contracts of check, whole and Read of package shard: a version's bytes in new memory, or the error's number; what was there is as it was. -/
namespace Go.Proofs.YtdohmokhfajjpaaGreatDoor
open Go Go.RowKit

set_option maxRecDepth 100000 in
theorem neqSum11 {x y : List Nat} (hx : x.length = 32) (hy : y.length = 32) (w : World) : (binOp .neq 41 (.agg (sumC x)) (.agg (sumC y))).run Tryz.prog w = .ok (.bool (!decide (x = y))) w := by
 rw [run_neq_struct, eqSum_in hx hy 9999 (fun a b w => by
  have := run_equalIn_int (P := Tryz.prog) w 9998 5 .u8 .u8 (a : Int) (b : Int) Tryz.underlying5
  unfold u8
  rw [this]
  congr 1
  rw [Bool.eq_iff_iff]; simp; omega) w]
 rfl
theorem step_call {P : Program} {w : World} {ops : Array Oper} {o : Oper} {a : Act} {K : Act → World → Prop} {Q : Exit → Act → World → Prop} {E : Prop} (hgd : o.guard = none) (f : FuncId) (vs : Array Value) (hrun : (execOp a.eval o).run P w = .ok (.enter f vs) w)
  (h : Calls P f vs w fun e w' => ∃ v, e = .returned v ∧ K (a.put o.dst v) w') : if Region.wanted o (yielded ops a.tmps) = true then Oper.wp P o a w K Q else E := by
 rw [if_pos (by simp [Region.wanted, hgd])]
 exact H.wp_enter f vs hrun h
/-- May drives be asked? -/
def mayB (r : Rv) (ps : Ps) (n : Nat) : Bool := okRc (r.rc ps) && !r.mark && decide ((n : Int) = r.k + r.m)
theorem okRc_km {r : Rv} {ps : Ps} (h : okRc (r.rc ps) = true) (hm : r.mark = false) : 1 ≤ r.k ∧ r.k ≤ 15 ∧ 1 ≤ r.m ∧ r.m ≤ 15 ∧ r.k + r.m ≤ 16 ∧ 0 ≤ r.size ∧ r.size ≤ 65536 := by
 unfold okRc Rv.rc at h
 simp [hm, inR] at h
 omega
theorem chk_bad (r : Rv) (hr : r.ok) (ps : Ps) (po : Option Addr) (n c : Nat) (w : World) (hp : PL w r.pv ps) (hok : okRc (r.rc ps) = false) : Calls Tryz.prog 20 #[.slice po n c, .agg r.cs] w fun e w' => e = .returned (i64 2) ∧ Below w.heap.size w w' := by
 have HR := hid hr
 have HCK := hid (fun (w' : World) (hb : Below w.heap.size w w') => check_any r hr ps w' (hp.below hb))
 rw [hok] at HCK
 clear hr hp hok
 go_enter Tryz.func20, Tryz.ntmps20
 go_wp2_with (first
   | ((with_reducible refine wpList_boxR rfl _ rfl r.cs ?_ ?_); exact rfl; intro w1 g1 hc1 hb1 hg1; have HA := hid (RBox.mk' HR.out hc1); have HB := hid hb1; clear hc1 hb1)
   | ((with_reducible refine wpList_load_at 44 _ rfl ?_ g1 0 ?_ r.cs (.struct (Tryz.prog.fieldsOf 44)) ?_ underRec rfl ?_ ?_); exact rfl; exact rfl; exact HA.out.whole; (rw [HR.out.size]; exact sizeR))
   | (go_at_call 33; refine (HCK.out _ HB.out).mono ?_; rintro e w4 ⟨rfl, hb4⟩; have HB4 := hid (below_on HB.out hb4); have HA4 := hid (HA.out.below HR.out hb4); have c2 := HA4.out.c2; have c5 := HA4.out.c5; have c6 := HA4.out.c6; clear hb4))
 go_ret
 exact ⟨rfl, HB4.out⟩
theorem chk_mark (r : Rv) (hr : r.ok) (ps : Ps) (po : Option Addr) (n c : Nat) (w : World) (hp : PL w r.pv ps) (hok : okRc (r.rc ps) = true) (hm : r.mark = true) : Calls Tryz.prog 20 #[.slice po n c, .agg r.cs] w fun e w' => e = .returned (i64 2) ∧ Below w.heap.size w w' := by
 have HR := hid hr
 have HCK := hid (fun (w' : World) (hb : Below w.heap.size w w') => check_any r hr ps w' (hp.below hb))
 rw [hok] at HCK
 simp only [if_true] at HCK
 have HM := hid hm
 clear hr hp hok hm
 go_enter Tryz.func20, Tryz.ntmps20
 go_wp2_with (first
   | ((with_reducible refine wpList_boxR rfl _ rfl r.cs ?_ ?_); exact rfl; intro w1 g1 hc1 hb1 hg1; have HA := hid (RBox.mk' HR.out hc1); have HB := hid hb1; clear hc1 hb1)
   | ((with_reducible refine wpList_load_at 44 _ rfl ?_ g1 0 ?_ r.cs (.struct (Tryz.prog.fieldsOf 44)) ?_ underRec rfl ?_ ?_); exact rfl; exact rfl; exact HA.out.whole; (rw [HR.out.size]; exact sizeR))
   | (go_at_call 33; refine (HCK.out _ HB.out).mono ?_; rintro e w4 ⟨rfl, hb4⟩; have HB4 := hid (below_on HB.out hb4); have HA4 := hid (HA.out.below HR.out hb4); have c2 := HA4.out.c2; have c5 := HA4.out.c5; have c6 := HA4.out.c6; clear hb4; rw [HM.out] at c2))
 go_ret
 exact ⟨rfl, HB4.out⟩
theorem chk_len (r : Rv) (hr : r.ok) (ps : Ps) (po : Option Addr) (n c k m : Nat) (w : World) (hp : PL w r.pv ps) (hok : okRc (r.rc ps) = true) (hm : r.mark = false) (hrk : r.k = k) (hrm : r.m = m) (hkm : k + m ≤ 16) (E : Int) (hE : E = if n = k + m then 0 else 2) : Calls Tryz.prog 20 #[.slice po n c, .agg r.cs] w fun e w' => e = .returned (i64 E) ∧ Below w.heap.size w w' := by
 have HR := hid hr
 have HCK := hid (fun (w' : World) (hb : Below w.heap.size w w') => check_any r hr ps w' (hp.below hb))
 rw [hok] at HCK
 simp only [if_true] at HCK
 have HM := hid hm
 have HRK := hid hrk
 have HRM := hid hrm
 have hw : IntKind.i64.wrap ((k : Int) + (m : Int)) = (k : Int) + (m : Int) := IntWalk.i64_in _ ⟨by omega, by omega⟩
 by_cases hq : n = k + m
 ·have hq' : ((n : Int) != (k : Int) + (m : Int)) = false := by simp; omega
  rw [if_pos hq] at hE
  subst hE
  clear hr hp hok hm hq hrk hrm hkm
  go_enter Tryz.func20, Tryz.ntmps20
  go_wp2_with (first
   | ((with_reducible refine wpList_boxR rfl _ rfl r.cs ?_ ?_); exact rfl; intro w1 g1 hc1 hb1 hg1; have HA := hid (RBox.mk' HR.out hc1); have HB := hid hb1; clear hc1 hb1)
   | ((with_reducible refine wpList_load_at 44 _ rfl ?_ g1 0 ?_ r.cs (.struct (Tryz.prog.fieldsOf 44)) ?_ underRec rfl ?_ ?_); exact rfl; exact rfl; exact HA.out.whole; (rw [HR.out.size]; exact sizeR))
   | (go_at_call 33; refine (HCK.out _ HB.out).mono ?_; rintro e w4 ⟨rfl, hb4⟩; have HB4 := hid (below_on HB.out hb4); have HA4 := hid (HA.out.below HR.out hb4); have c2 := HA4.out.c2; have c5 := HA4.out.c5; have c6 := HA4.out.c6; clear hb4; rw [HM.out] at c2; rw [HRK.out] at c5; rw [HRM.out] at c6))
  go_ret
  exact ⟨rfl, HB4.out⟩
 ·have hq' : ((n : Int) != (k : Int) + (m : Int)) = true := by simp; omega
  rw [if_neg hq] at hE
  subst hE
  clear hr hp hok hm hq hrk hrm hkm
  go_enter Tryz.func20, Tryz.ntmps20
  go_wp2_with (first
   | ((with_reducible refine wpList_boxR rfl _ rfl r.cs ?_ ?_); exact rfl; intro w1 g1 hc1 hb1 hg1; have HA := hid (RBox.mk' HR.out hc1); have HB := hid hb1; clear hc1 hb1)
   | ((with_reducible refine wpList_load_at 44 _ rfl ?_ g1 0 ?_ r.cs (.struct (Tryz.prog.fieldsOf 44)) ?_ underRec rfl ?_ ?_); exact rfl; exact rfl; exact HA.out.whole; (rw [HR.out.size]; exact sizeR))
   | (go_at_call 33; refine (HCK.out _ HB.out).mono ?_; rintro e w4 ⟨rfl, hb4⟩; have HB4 := hid (below_on HB.out hb4); have HA4 := hid (HA.out.below HR.out hb4); have c2 := HA4.out.c2; have c5 := HA4.out.c5; have c6 := HA4.out.c6; clear hb4; rw [HM.out] at c2; rw [HRK.out] at c5; rw [HRM.out] at c6))
  go_ret
  exact ⟨rfl, HB4.out⟩
/-- The error's number of check. -/
def mayE (r : Rv) (ps : Ps) (n : Nat) : Int := if mayB r ps n = true then 0 else 2
theorem chk_any (r : Rv) (hr : r.ok) (ps : Ps) (po : Option Addr) (n c : Nat) (w : World) (hp : PL w r.pv ps) : Calls Tryz.prog 20 #[.slice po n c, .agg r.cs] w fun e w' => e = .returned (i64 (mayE r ps n)) ∧ Below w.heap.size w w' := by
 unfold mayE mayB
 cases hok : okRc (r.rc ps)
 ·exact chk_bad r hr ps po n c w hp hok
 ·cases hm : r.mark
  ·have h := okRc_km hok hm
   obtain ⟨k, hk⟩ : ∃ k : Nat, r.k = k := ⟨r.k.toNat, by omega⟩
   obtain ⟨m, hm2⟩ : ∃ m : Nat, r.m = m := ⟨r.m.toNat, by omega⟩
   refine chk_len r hr ps po n c k m w hp hok hm hk hm2 (by omega) _ ?_
   rw [hk, hm2]
   by_cases hq : n = k + m
   ·rw [if_pos hq, if_pos (by simp; omega)]
   ·rw [if_neg hq, if_neg (by simp; omega)]
  ·exact chk_mark r hr ps po n c w hp hok hm
end Go.Proofs.YtdohmokhfajjpaaGreatDoor
