/- Texts laid into one, cut to what is needed: the remark ahead of each part says what is proved there. -/
import Derived.Test.YtopibkoklagceaaGreatQbb
import Derived.Test.YtopibkoklagceaaGreatQbc
import Derived.Test.YtopibkoklagceaaGreatQbg
import Derived.Test.YtopibkoklagceaaGreatQbm
import Derived.Test.YtopibkoklagceaaGreatQbh
/- What ShardReads' walk carries: the copies and the record's copy behind its third region; Mend's answers; lists of bytes that outlive turns of elder blocks. -/
namespace Go.Proofs.YtopibkoklagceaaGreat
open Go Go.RowKit

theorem exec_newR11 {a : Act} {o : Oper} {W : World} (ho : o.op = .alloc 40) : (execOp a.eval o).run Tryz.prog W = .ok (.value (ptr W.heap.size)) (W.alloc (.cells zR.cs 40)) := by
 obtain ⟨i, hq, hz'⟩ := Option.map_eq_some_iff.1 zeroR
 unfold execOp
 simp only [ho, Instr.alloc, zeroValue, typeInfo, Sem.run_bind, newVar, newRow]
 simp [hq, hz', Value.cells, ptr]
/-- Records that are alike but for where their parts lie. -/
def Lk (r s : Rv) : Prop := ({ s with pv := r.pv } : Rv) = r
theorem Lk.rdE {r s : Rv} (h : Lk r s) (ps : Ps) (l : List Cp) : rdrE s ps l = rdrE r ps l := by
 have e : rdrE ({ s with pv := r.pv } : Rv) ps l = rdrE r ps l := by rw [h]
 exact e
theorem Lk.rdB {r s : Rv} (h : Lk r s) (ps : Ps) (l : List Cp) : rdrB s ps l = rdrB r ps l := by
 have e : rdrB ({ s with pv := r.pv } : Rv) ps l = rdrB r ps l := by rw [h]
 exact e
theorem Lk.ptE {r s : Rv} (h : Lk r s) (ps : Ps) (l : List Cp) (a b : Int) : prtE s ps l a b = prtE r ps l a b := by
 have e : prtE ({ s with pv := r.pv } : Rv) ps l a b = prtE r ps l a b := by rw [h]
 exact e
theorem Lk.ptB {r s : Rv} (h : Lk r s) (ps : Ps) (l : List Cp) (a b : Int) : prtB s ps l a b = prtB r ps l a b := by
 have e : prtB ({ s with pv := r.pv } : Rv) ps l a b = prtB r ps l a b := by rw [h]
 exact e
theorem Lk.rc {r s : Rv} (h : Lk r s) (ps : Ps) : s.rc ps = r.rc ps := by
 have e : ({ s with pv := r.pv } : Rv).rc ps = r.rc ps := by rw [h]
 exact e
/-- What the document's Copy tells of a record. -/
def CpR (w : World) (r : Rv) (ps : Ps) (e : Ending) (w' : World) : Prop := ∃ s : Rv, e = .returned (.agg s.cs) ∧ s.ok ∧ s.pv.oneCell' = true ∧ Lk r s ∧ PLF w.heap.size w' s.pv ps ∧ Below w.heap.size w w'
theorem rcopy11_any (r : Rv) (hk : r.ok) (po : Option Addr) (c : Nat) (ps : Ps) (w : World) (hv : r.pv = .slice po ps.length c) (h : PL w r.pv ps) (hc : po = none → c = 0) (hn : ps.length ≤ 100000) : Calls Tryz.prog 16 #[.agg r.cs] w (CpR w r ps) := by
 refine (rcopyN_any r hk po c ps w hv h hc hn).mono ?_
 rintro e w' ⟨p, d, h1, h2, _, h4⟩
 exact ⟨_, h1, ⟨hk.sl, hk.s8, hk.i, hk.e, hk.d, hk.u⟩, rfl, rfl, h2, h4⟩
theorem PL.blk11 {w : World} {v : Value} {ps : Ps} (h : PL w v ps) {a : Addr} {n c : Nat} (e : v = .slice (some a) n c) (hne : ps ≠ []) : a.block < w.heap.size := by
 obtain ⟨po, c', h1, _, _, h2⟩ := h
 rcases h2 with h2 | ⟨b, o, rfl, h2⟩
 ·exact absurd h2 hne
 ·rw [h1] at e
  cases e
  have hl : 0 < ps.length := List.length_pos_iff.2 hne
  exact World.block_lt_of_cell? _ _ (h2 0 hl).1
theorem PL.only11 {w w' : World} {v : Value} {ps : Ps} {g : Nat} (h : PL w v ps) (ho : Only (fun b => b = g) w w') (hne : ∀ a n c, v = .slice (some a) n c → ps ≠ [] → a.block ≠ g) : PL w' v ps := by
 obtain ⟨po, c', h1, h2, h3, h4⟩ := h
 refine ⟨po, c', h1, h2, h3, ?_⟩
 rcases h4 with h4 | ⟨b, o, rfl, h4⟩
 ·exact .inl h4
 ·by_cases h0 : ps = []
  ·exact .inl h0
  ·have hb : b ≠ g := hne _ _ _ h1 h0
   exact .inr ⟨b, o, rfl, fun i hi => ⟨(World.cell?_of_block (ho.block b (World.block_lt_of_cell? _ _ (h4 i hi).1) hb)).trans (h4 i hi).1, (World.cell?_of_block (ho.block b (World.block_lt_of_cell? _ _ (h4 i hi).2) hb)).trans (h4 i hi).2⟩⟩
theorem own_other11 {B e sz n : Nat} {w w' : World} {v : Value} {xs : List Value} {g : Nat} {C : Array Value} {t : TypeId} (ht : t ≠ e) (h : w.ownsRow B e sz v n xs) (hc : CAt w g C t) (ho : Only (fun b => b = g) w w') : w'.ownsRow B e sz v n xs :=
 ownsRow_keep h fun b hb => by
  obtain ⟨cur, hcur⟩ := own_blk9 h hb
  exact ho.block b hcur.lt fun q => by
   have q2 : b = g := q
   subst q2
   exact cat_ne hcur hc (fun e9 => ht e9.symm) rfl
theorem CI.only11 {B : Nat} {w w' : World} {v : Value} {L : List Cv} {g : Nat} {C : Array Value} (h : CI B w v L) (hc : CAt w g C 40) (ho : Only (fun b => b = g) w w') : CI B w' v L :=
 ⟨own_other11 (by decide) h.buf hc ho, fun x hx => ⟨own_other11 (by decide) (h.each x hx).1 hc ho, (h.each x hx).2⟩⟩
/-- Behind the third region: both records' boxes, the copies, the parts. -/
structure E3 (w : World) (g5 g10 : Nat) (r : Rv) (ps : Ps) (l : List Cv) (v : Value) (L : List Cv) (s : Rv) (W : World) : Prop where
 below : Below w.heap.size w W
 c5 : CAt W g5 r.cs 40
 c10 : CAt W g10 s.cs 40
 ok : s.ok
 lk : Lk r s
 pl : PL W s.pv ps
 cl : CL W v L
 eq : cps L = cps l
theorem E3.on {w W W' : World} {g5 g10 : Nat} {r s : Rv} {ps : Ps} {l L : List Cv} {v : Value} (h : E3 w g5 g10 r ps l v L s W) (hb : Below W.heap.size W W') : E3 w g5 g10 r ps l v L s W' :=
 ⟨below_on h.below hb, h.c5.below hb, h.c10.below hb, h.ok, h.lk, h.pl.below hb, h.cl.below hb, h.eq⟩
theorem E3.make {w w1 W W2 : World} {B g5 g10 : Nat} {r s : Rv} {ps : Ps} {l L : List Cv} {v : Value} {C : Array Value} (hb0 : Below w.heap.size w w1) (h5 : CAt w1 g5 r.cs 40) (hb : Below w1.heap.size w1 W) (ci : CI B W v L) (he : cps L = cps l) (hn : l.length ≤ 1000) (hp : PL W s.pv ps) (hne : ∀ a n c, s.pv = .slice (some a) n c → ps ≠ [] → a.block ≠ g10) (hok : s.ok) (hlk : Lk r s) (l10 : w1.heap.size ≤ g10) (hc : CAt W g10 C 40) (h10 : CAt W2 g10 s.cs 40) (ho : Only (fun b => b = g10) W W2) : E3 w g5 g10 r ps l v L s W2 := by
 have hb2 : Below w1.heap.size w1 W2 := below_tr hb (ho.below hb.size (fun i e => by omega))
 have hL : L.length ≤ 1000 := by have := congrArg List.length he; rw [cps_len, cps_len] at this; omega
 exact ⟨below_on hb0 hb2, h5.below hb2, h10, hok, hlk, hp.only11 ho hne, (ci.only11 hc ho).cl hL, he⟩
/-- What Mend tells, told by lists. -/
def MeW (w : World) (E : Int) (Ls : List (List Nat)) (ns : List Nat) (e : Ending) (w' : World) : Prop := ∃ u v, e = .returned (.tuple #[u, v, .int .i64 E]) ∧ Below w.heap.size w w' ∧ ((u = .slice none 0 0 ∧ Ls = []) ∨ LL w.heap.size w' u Ls) ∧ ∃ p c, v = .slice p ns.length c ∧ H.IntAt w' p ns.length (fun i => ns.getD i 0)
theorem NL.ints11 {B : Nat} {w : World} {v : Value} {ns : List Nat} (h : NL B w v (ns.map fun n => ((n : Nat) : Int))) : ∃ p c, v = .slice p ns.length c ∧ H.IntAt w p ns.length (fun i => ns.getD i 0) := by
 obtain ⟨g, h1, _, h3⟩ := h
 rw [List.length_map] at h1
 refine ⟨_, _, h1, .inr ⟨g, 0, rfl, fun i hi => ?_⟩⟩
 rw [Nat.zero_add, h3.cell]
 simp [hi]
theorem mendW_any (r : Rv) (hr : r.ok) (ps : Ps) (v : Value) (l : List Cv) (w : World) (hp : PL w r.pv ps) (hl : CL w v l) : Calls Tryz.prog 21 #[v, .agg r.cs] w (MeW w (rdrE r ps (cps l)) (if rdrE r ps (cps l) = 0 then fls r.k.toNat r.m.toNat (rdrB r ps (cps l)) else []) (if rdrE r ps (cps l) = 0 then stms (cps l) (fls r.k.toNat r.m.toNat (rdrB r ps (cps l))) else [])) := by
 refine (mend_any r hr ps v l w hp hl).mono ?_
 rintro e w' ⟨u, x, h1, h2, h3⟩
 by_cases hE : rdrE r ps (cps l) = 0
 ·rw [if_pos hE, if_pos hE] at h3
  rw [if_pos hE, if_pos hE]
  obtain ⟨_, h4, h5⟩ := h3.resolve_left (fun h => h.1 hE)
  rw [stts_stms] at h5
  exact ⟨u, x, h1, h2, .inr h4, h5.ints11⟩
 ·rw [if_neg hE, if_neg hE]
  obtain ⟨_, h4, h5⟩ := h3.resolve_right (fun h => hE h.1)
  exact ⟨u, x, h1, h2, .inl ⟨h4, rfl⟩, none, 0, by rw [h5]; rfl, .inl rfl⟩
theorem ExR.only11 {B : Nat} {w w' : World} {v : Value} {L : List Nat} {S : Nat → Prop} (h : ExR w v L) (hb : Buf B w v L) (ho : Only S w w') (hS : ∀ i, S i → i < B) : ExR w' v L := by
 obtain ⟨g, h1, h2⟩ := h
 have hg := (own_ge hb g (by rw [h1]; rfl)).1
 exact ⟨g, h1, h2.keep (ho.block g h2.lt fun k => by have := hS _ k; omega)⟩
theorem LL.only11 {B : Nat} {w w' : World} {v : Value} {Ls : List (List Nat)} {S : Nat → Prop} (h : LL B w v Ls) (ho : Only S w w') (hS : ∀ i, S i → i < B) : LL B w' v Ls := by
 obtain ⟨g, vs, h1, h2, h3, h4, h5⟩ := h
 refine ⟨g, vs, h1, h2, h3.keep (ho.block g h3.lt fun k => by have := hS _ k; omega), h4, fun i u L hu hL => ?_⟩
 obtain ⟨h6, h7⟩ := h5 i u L hu hL
 exact ⟨ownsRow_keep h6 fun b hb => ho.block b (own_ge h6 b hb).2 fun k => by have := hS _ k; have := (own_ge h6 b hb).1; omega, h7.only11 h6 ho hS⟩
theorem rdrB_lt (r : Rv) (ps : Ps) (l : List Cp) : ∀ z ∈ rdrB r ps l, z < 256 := by
 intro z hz
 unfold rdrB at hz
 split at hz
 ·unfold whB at hz
  split at hz
  ·exact jnB_lt _ _ _ _ z hz
  ·cases hz
 ·cases hz
theorem prtB_lt (r : Rv) (ps : Ps) (l : List Cp) (a b : Int) : ∀ z ∈ prtB r ps l a b, z < 256 := by
 intro z hz
 unfold prtB at hz
 split at hz
 ·split at hz
  ·cases hz
  ·exact rdrB_lt r ps l z (List.mem_of_mem_drop (List.mem_of_mem_take hz))
 ·cases hz
theorem rdrB_len (r : Rv) (ps : Ps) (l : List Cp) : (rdrB r ps l).length ≤ 65536 := by
 unfold rdrB
 split
 ·rename_i h
  obtain ⟨k, m, s, hk, hm, hs, h0, h1, h2, hs', hn⟩ := mayB_parts h
  unfold whB
  split
  ·rw [jnB_len, hs]; simpa using hs'
  ·simp
 ·simp
/-- The files that Mend tells. -/
def mdL (r : Rv) (ps : Ps) (l : List Cp) : List (List Nat) := if rdrE r ps l = 0 then fls r.k.toNat r.m.toNat (rdrB r ps l) else []
def mdN (r : Rv) (ps : Ps) (l : List Cp) : List Nat := if rdrE r ps l = 0 then stms l (fls r.k.toNat r.m.toNat (rdrB r ps l)) else []
theorem mdL_lt (r : Rv) (ps : Ps) (l : List Cp) : ∀ F ∈ mdL r ps l, ∀ z ∈ F, z < 256 := by
 intro F hF
 unfold mdL at hF
 split at hF
 ·unfold fls at hF
  obtain ⟨i, _, rfl⟩ := List.mem_map.1 hF
  exact flL_lt (shd_lt _ _ i)
 ·cases hF
theorem rdrE_may {r : Rv} {ps : Ps} {l : List Cp} (h : rdrE r ps l = 0) : mayB r ps l.length = true := by
 unfold rdrE at h
 cases q : mayB r ps l.length
 ·rw [q] at h; simp at h
 ·rfl
theorem mdL_len (r : Rv) (ps : Ps) (l : List Cp) : (mdL r ps l).length ≤ 16 := by
 unfold mdL
 split
 ·rename_i h
  obtain ⟨k, m, s, hk, hm, hs, h0, h1, h2, hs', hn⟩ := mayB_parts (rdrE_may h)
  rw [fls_len, hk, hm]
  simpa using h2
 ·simp
theorem mdN_len (r : Rv) (ps : Ps) (l : List Cp) : (mdN r ps l).length ≤ 16 := by
 unfold mdN
 split
 ·rename_i h
  obtain ⟨k, m, s, hk, hm, hs, h0, h1, h2, hs', hn⟩ := mayB_parts (rdrE_may h)
  rw [stms_len]; omega
 ·simp
theorem Lk.mdL {r s : Rv} (h : Lk r s) (ps : Ps) (l : List Cp) : mdL s ps l = mdL r ps l := by
 have e : Go.Proofs.YtopibkoklagceaaGreat.mdL ({ s with pv := r.pv } : Rv) ps l = Go.Proofs.YtopibkoklagceaaGreat.mdL r ps l := by rw [h]
 exact e
theorem Lk.mdN {r s : Rv} (h : Lk r s) (ps : Ps) (l : List Cp) : mdN s ps l = mdN r ps l := by
 have e : Go.Proofs.YtopibkoklagceaaGreat.mdN ({ s with pv := r.pv } : Rv) ps l = Go.Proofs.YtopibkoklagceaaGreat.mdN r ps l := by rw [h]
 exact e
end Go.Proofs.YtopibkoklagceaaGreat
