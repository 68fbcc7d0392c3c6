/- Texts laid into one, cut to what is needed: the remark ahead of each part says what is proved there. -/
import Derived.Test.YtopibkoklagceaaGreatQbo
/- ShardReads, whatever is handed in. -/
namespace Go.Proofs.YtopibkoklagceaaGreat
open Go Go.RowKit

theorem IsC.below11 {w w' : World} {v : Value} {l : List Cv} (h : IsC w v l) (hb : Below w.heap.size w w') : IsC w' v l := by
 obtain ⟨po, c, h1, h2, h3, h4, h5, h6⟩ := h
 refine ⟨po, c, h1, h2, h3, h4, ?_, fun x hx => ?_⟩
 ·rcases h5 with h5 | ⟨b, o, e, h5⟩
  ·exact .inl h5
  ·exact .inr ⟨b, o, e, fun i x hx => ⟨(World.cell?_of_block (hb.block b (World.block_lt_of_cell? _ _ (h5 i x hx).1))).trans (h5 i x hx).1, (World.cell?_of_block (hb.block b (World.block_lt_of_cell? _ _ (h5 i x hx).2))).trans (h5 i x hx).2⟩⟩
 ·obtain ⟨⟨p, c, a1, a2, a3, a4⟩, a5⟩ := h6 x hx
  exact ⟨⟨p, c, a1, a2.below hb, a3, a4⟩, a5⟩
set_option maxRecDepth 100000 in
set_option maxHeartbeats 2000000 in
theorem reads_far (r : Rv) (hs : r.sum.length = 32) (po : Option Addr) (n c : Nat) (x y : Int) (w : World) (hlg : ∀ W, Below w.heap.size w W → Calls Tryz.prog 14 #[.slice po n c, .agg r.cs] W fun e w' => e = .returned (.bool true) ∧ Below W.heap.size W w') :
  Calls Tryz.prog 4 #[.slice po n c, .agg r.cs, .int .i64 x, .int .i64 y] w fun e w' => e = .returned (.bool true) ∧ Below w.heap.size w w' := by
 have HLG := hid hlg
 obtain ⟨X, hX⟩ : ∃ X, r.cs = X := ⟨_, rfl⟩
 have HXS := hid (show X.size = 42 from hX ▸ Rv.size_of hs)
 rw [hX] at HLG ⊢
 clear hlg hX hs
 go_enter Tryz.func4, Tryz.ntmps4
 go_wp2_with (first
  | ((with_reducible refine wpList_boxR rfl _ rfl X ?_ ?_); exact rfl; intro w1 g5 hc1 hb1 hg1; have HC1 := hid hc1; have HB0 := hid hb1; clear hc1 hb1 hg1)
  | ((with_reducible refine wpList_load_at 40 _ rfl ?_ g5 0 ?_ X (.struct (Tryz.prog.fieldsOf 40)) ?_ underRec rfl ?_ ?_); exact rfl; exact rfl; exact HC1.out.whole; (rw [HXS.out]; exact sizeR))
  | (go_at_call 14; refine (HLG.out _ HB0.out).mono ?_; rintro e w3 ⟨rfl, hb3⟩; have HB3 := hid (below_on HB0.out hb3); clear hb3))
 go_ret
 exact ⟨rfl, HB3.out⟩
theorem reads11_all (v : Value) (l : List Cv) (r : Rv) (x y : Int) (w : World) (hl : IsC w v l) (hr : IsRN w r) (hx : (Lit.int .i64 x).wf = true) (hy : (Lit.int .i64 y).wf = true) :
  Calls Tryz.prog 4 #[v, .agg r.cs, .int .i64 x, .int .i64 y] w fun e w' => e = .returned (.bool true) ∧ Below w.heap.size w w' := by
 obtain ⟨hir, hnil⟩ := hr
 have hsl := hir.sl
 have hs8 := hir.s8
 obtain ⟨po, c, ps, hpv, hle, hcells⟩ := hir.parts
 have hlg := fun W (hW : Below w.heap.size w W) => large11_any r hsl po ps.length c hpv v l W (hl.below11 hW)
 cases hb : bigQ l r ps.length
 ·rw [hb] at hlg
  have hb2 := hb
  simp only [bigQ, bigH, Bool.or_eq_false_iff, decide_eq_false_iff_not] at hb2
  obtain ⟨⟨⟨⟨⟨⟨⟨x0, x1⟩, x2⟩, x3⟩, x4⟩, x5⟩, _⟩, x7⟩ := hb2
  have hbs : ∀ z ∈ l, z.bs.length ≤ 5000 := fun z hz => by
   have := List.any_eq_false.1 x7 z hz
   simp only [bigX5, decide_eq_true_eq] at this
   omega
  have hok : r.ok := ⟨hsl, hs8, by omega, by omega, by omega, by omega⟩
  have hpl : PL w r.pv ps := ⟨po, c, hpv, hle, by omega, hcells⟩
  have hcl : CL w v l := by
   obtain ⟨p, d, h1, h2, _, h4, h5, h6⟩ := hl
   exact ⟨p, d, h1, h2, by omega, h4, h5, fun z hz => ⟨(h6 z hz).sl, by have := hbs z hz; omega, (h6 z hz).byte⟩⟩
  exact reads_core r hok po c ps v l x y w hpv hpl (fun e => hnil _ c (by rw [hpv, e])) hcl hx hy hlg
 ·rw [hb] at hlg
  obtain ⟨p, d, rfl, _⟩ := hl
  exact reads_far r hsl p l.length d x y w hlg
end Go.Proofs.YtopibkoklagceaaGreat
