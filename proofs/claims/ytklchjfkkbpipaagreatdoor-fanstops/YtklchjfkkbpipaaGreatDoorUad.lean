/- Texts laid into one: the remark ahead of each part says what is proved there. -/
import Derived.Test.YtklchjfkkbpipaaGreatDoorPaa
import Derived.Test.YtklchjfkkbpipaaGreatDoorPab
import Derived.Test.YtklchjfkkbpipaaGreatDoorPac
import Derived.Test.YtklchjfkkbpipaaGreatDoorPad
import Derived.Test.YtklchjfkkbpipaaGreatDoorPae
import Derived.Test.YtklchjfkkbpipaaGreatDoorPaf
import Derived.Test.YtklchjfkkbpipaaGreatDoorPag
import Derived.Test.YtklchjfkkbpipaaGreatDoorPah
import Derived.Test.YtklchjfkkbpipaaGreatDoorPai
import Derived.Test.YtklchjfkkbpipaaGreatDoorPaj
import Derived.Test.YtklchjfkkbpipaaGreatDoorPak
import Derived.Test.YtklchjfkkbpipaaGreatDoorPal
import Derived.Test.YtklchjfkkbpipaaGreatDoorPam
import Derived.Test.YtklchjfkkbpipaaGreatDoorPan
import Derived.Test.YtklchjfkkbpipaaGreatDoorPao
import Derived.Test.YtklchjfkkbpipaaGreatDoorUaa
import Derived.Test.YtklchjfkkbpipaaGreatDoorUac
import Derived.Test.YtklchjfkkbpipaaGreatDoorUab
/- FanAll: what its loops carry: drives and the files gathered; clones; both sets at the end. -/
namespace Go.Proofs.YtklchjfkkbpipaaGreatDoor
open Go Go.RowKit Go.Shelf

section
variable {w wr w' : World} {T : Nat → Prop} {k n : Nat} {p : Nat → Nat} {d : Nat → Pd} {f : Fs} {c : Nat}
/-- One drive more, whatever it has, made since wr. -/
theorem FA.moreD (h : FA w wr T k p d none 0) {q : Nat} {x : Pd} (hd : DrAt w' (fun b => wr.heap.size ≤ b ∧ b < w'.heap.size) q none x) (hb : Below wr.heap.size wr w') :
    ∃ T', Grows wr T T' ∧ FA w w' T' (k + 1) (upd p k q) (upd d k x) none 0 := by
  obtain ⟨D, Z, fu, hs, hdd, hf, hq⟩ := h.ex
  have hfu : ∀ i, i < k → (D i).fu = none := fun i hi => by
    have h2 := (hdd i hi).2.1
    rw [h2]
    cases fu with
    | none => simp
    | some q => simp at hf
  let N : Dv := ⟨q, fun b => wr.heap.size ≤ b ∧ b < w'.heap.size, none, x⟩
  have hs' := hs.below hb
  have old : ∀ i, i < k + 1 → i ≠ k → i < k := fun i hi hn => by omega
  refine ⟨fun b => T b ∨ (wr.heap.size ≤ b ∧ b < w'.heap.size), ⟨fun b hb => Or.inl hb, fun b hb => hb.elim Or.inl fun h => Or.inr h.1⟩, ⟨setD D k N, Z, none, ⟨fun i hi => ?_, fun i hi x e => ?_, fun i j hi hj hij b hbi hbj => ?_, fun i hi b hbi => ?_, hs'.be⟩, fun i hi => ?_, rfl, fun _ e => by cases e⟩, fun b hb' => ?_, fun b hb' => ?_, hs'.be⟩
  · by_cases e : i = k
    · subst e; rw [setD_same]; exact hd
    · rw [setD_ne _ _ e]; exact hs'.dr i (old i hi e)
  · by_cases e2 : i = k
    · subst e2; rw [setD_same] at e; cases e
    · rw [setD_ne _ _ e2, hfu i (old i hi e2)] at e; cases e
  · by_cases e1 : i = k
    · subst e1; rw [setD_same] at hbi; rw [setD_ne _ _ (Ne.symm hij)] at hbj
      have := hs.lt (old j hj (Ne.symm hij)) b hbj; have := hbi.1; omega
    · rw [setD_ne _ _ e1] at hbi
      have h1 := hs.lt (old i hi e1) b hbi
      by_cases e2 : j = k
      · subst e2; rw [setD_same] at hbj; have := hbj.1; omega
      · rw [setD_ne _ _ e2] at hbj; exact hs.dj i j (old i hi e1) (old j hj e2) hij b hbi hbj
  · by_cases e : i = k
    · subst e; rw [setD_same] at hbi; exact Nat.le_trans h.be.size hbi.1
    · rw [setD_ne _ _ e] at hbi; exact hs.ge i (old i hi e) b hbi
  · by_cases e : i = k
    · subst e; rw [setD_same, upd_same, upd_same]; exact ⟨rfl, by simp [N], rfl, fun b hb => Or.inr hb⟩
    · rw [setD_ne _ _ e, upd_ne _ _ e, upd_ne _ _ e]
      obtain ⟨g1, g2, g3, g4⟩ := hdd i (old i hi e)
      exact ⟨g1, by rw [hfu i (old i hi e)]; simp, g3, fun b hb => Or.inl (g4 b hb)⟩
  · exact hb'.elim (fun h' => Nat.lt_of_lt_of_le (h.lt b h') hb.size) (fun h' => h'.2)
  · exact hb'.elim (h.ge b) (fun h' => Nat.le_trans h.be.size h'.1)
theorem ls_only {v : Value} (h : LsAt wr T v k p) {Y : Nat → Prop} (ho : Only Y wr w') (hL : ∀ b c, v = .slice (some ⟨b, 0, none⟩) k c → ¬ Y b) {T' : Nat → Prop} (hT : ∀ b, b < wr.heap.size → T' b → T b) : LsAt w' T' v k p := by
  refine ⟨?_⟩
  rcases h.ex with h1 | ⟨h0, b, c, h1, h2, h3⟩
  · exact .inl h1
  · have hb := cell_lt2 (h3 0 h0)
    exact .inr ⟨h0, b, c, h1, fun ht => h2 (hT b hb ht), fun j hj => (World.cell?_of_block (a := ⟨b, j, none⟩) (ho.block b hb (hL b c h1))).trans (h3 j hj)⟩
theorem ls_nt {v : Value} (h : LsAt wr T v k p) {b c : Nat} (e : v = .slice (some ⟨b, 0, none⟩) k c) : b < wr.heap.size ∧ ¬ T b ∧ 0 < k ∧ ∀ j, j < k → wr.cell? ⟨b, j, none⟩ = some (ptr (p j)) := by
  rcases h.ex with ⟨_, h1⟩ | ⟨h0, b', c', h1, h2, h3⟩
  · rw [h1] at e; cases e
  · rw [h1] at e; cases e; exact ⟨cell_lt2 (h3 0 h0), h2, h0, h3⟩
theorem Only.be {Y : Nat → Prop} (ho : Only Y wr w') (hb : Below w.heap.size w wr) (hY : ∀ b, Y b → w.heap.size ≤ b) : Below w.heap.size w w' :=
  ⟨ho.os.trans hb.os, ho.tape.trans hb.tape, ho.output.trans hb.output, Nat.le_trans hb.size ho.size, fun b hb' => (ho.block b (Nat.lt_of_lt_of_le hb' hb.size) (fun hy => by have := hY b hy; omega)).trans (hb.block b hb')⟩
theorem RowV.ok.step {r : RowV} {X T' : Nat → Prop} (h : r.ok wr (fun b => T b ∨ X b)) (hg : Grows wr T T') (ho : Only T wr w') : r.ok w' (fun b => T' b ∨ X b) :=
  h.keep (fun b hb hn => ho.block b hb (fun ht => hn (.inl ht))) (fun b hb ht => ht.elim (fun ht => (hg.2 b ht).elim .inl (fun hl => by omega)) .inr)
theorem RowV.ok.below {r : RowV} {X : Nat → Prop} (h : r.ok wr X) (hb : Below wr.heap.size wr w') : r.ok w' X := h.keep (fun b hb' _ => hb.block b hb') (fun _ _ h => h)
end
/-- Drives, the list of them, and the files gathered so far. -/
structure GaB (w wr : World) (T : Nat → Prop) (n : Nat) (p : Nat → Nat) (lv : Value) (d : Nat → Pd) (v : Value) (rows : List RowV) : Prop where
  fa : FA w wr T n p d none 0
  ls : LsAt wr T lv n p
  ow : wr.ownsRow w.heap.size 63 1 v rows.length (rows.map RowV.v)
  nt : ∀ b, v.ownBlock = some b → ¬ T b
  nl : ∀ b c, lv = .slice (some ⟨b, 0, none⟩) n c → v.ownBlock ≠ some b
  ok : ∀ r ∈ rows, r.ok wr (fun b => T b ∨ v.ownBlock = some b)
section
variable {w wr w' : World} {T : Nat → Prop} {n : Nat} {p : Nat → Nat} {lv v : Value} {d d' : Nat → Pd} {rows : List RowV}
theorem GaB.below (h : GaB w wr T n p lv d v rows) (hb : Below wr.heap.size wr w') : GaB w w' T n p lv d v rows :=
  ⟨h.fa.below hb, h.ls.keep (fun b hb' _ => hb.block b hb') (fun _ _ h => h), ownsRow_keep h.ow fun b hv => hb.block b (own_ge h.ow b hv).2, h.nt, h.nl, fun r hr => (h.ok r hr).below hb⟩
theorem GaB.step (h : GaB w wr T n p lv d v rows) {T' : Nat → Prop} (hg : Grows wr T T') (hf : FA w w' T' n p d' none 0) (ho : Only T wr w') : GaB w w' T' n p lv d' v rows :=
  ⟨hf, h.ls.keep (fun b hb hn => ho.block b hb hn) (fun b hb ht => (hg.2 b ht).elim id (fun hl => by omega)), ownsRow_keep h.ow fun b hv => ho.block b (own_ge h.ow b hv).2 (h.nt b hv),
    fun b hv ht => (hg.2 b ht).elim (h.nt b hv) (fun hl => by have := (own_ge h.ow b hv).2; omega), h.nl, fun r hr => (h.ok r hr).step hg ho⟩
theorem GaB.push (h : GaB w wr T n p lv d v rows) (r : RowV) (hr : r.ok wr (fun b => T b ∨ v.ownBlock = some b)) (hn : rows.length ≤ 1000) :
    ∃ v' w', (Builtin.append_ #[31, 31] 31 #[v, .slice (some ⟨wr.heap.size, 0, none⟩) 1 1]).run Tryz.prog (wr.alloc (.cells #[r.v] 63)) = .ok v' w' ∧ GaB w w' T n p lv d v' (rows ++ [r]) := by
  obtain ⟨v', w', hrun, h1, h2, h3, _⟩ := own_push (T := 31) Tryz.underlying31 Tryz.infoFr rfl (by decide) h.ow #[r.v] rfl (by simp [Value.oneCell']) (by omega) (by decide) h.fa.be.size
  have hT2 : ∀ b, b < wr.heap.size → (T b ∨ v'.ownBlock = some b) → (T b ∨ v.ownBlock = some b) := fun b hb' ht => by
    rcases ht with ht | ht
    · exact .inl ht
    · rcases h3 with h3 | ⟨c, h3, hc⟩
      · exact .inr (h3 ▸ ht)
      · rw [h3] at ht; cases ht; omega
  have hk2 : ∀ b, b < wr.heap.size → ¬ (T b ∨ v.ownBlock = some b) → w'.heap[b]? = wr.heap[b]? := fun b hb' hn => h2.block b hb' (fun hv => hn (.inr hv))
  refine ⟨v', w', hrun, h.fa.only h2 (fun b hb hv => by have := (own_ge h.ow b hv).1; omega) (fun b ht hv => h.nt b hv ht), ls_only h.ls h2 (fun b c e => h.nl b c e) (fun _ _ h => h), ?_, fun b hv ht => ?_, fun b c e hv => ?_, fun r' hr' => ?_⟩
  · rw [List.map_append, List.length_append]; exact h1
  · rcases h3 with h3 | ⟨c, h3, hc⟩
    · exact h.nt b (h3 ▸ hv) ht
    · rw [h3] at hv; cases hv; have := h.fa.lt _ ht; omega
  · have hb := (ls_nt h.ls e).1
    rcases h3 with h3 | ⟨c, h3, hc⟩
    · exact h.nl b _ e (h3 ▸ hv)
    · rw [h3] at hv; cases hv; omega
  · rcases List.mem_append.1 hr' with hr' | hr'
    · exact (h.ok r' hr').keep hk2 hT2
    · simp at hr'; subst hr'; exact hr.keep hk2 hT2
theorem GaB.done (h : GaB w wr T n p lv d v rows) (h0 : 0 < rows.length) : ∃ g c, v = .slice (some ⟨g, 0, none⟩) rows.length c ∧ (⟨some ⟨g, 0, none⟩, c, rows⟩ : FsV).ok wr T := by
  obtain ⟨g, c, rfl, _, hg, hc⟩ := own_get h.ow h0
  refine ⟨g, c, rfl, .inr ⟨g, 0, rfl, h.nt g rfl, fun j hj => ?_⟩, fun r hr => (h.ok r hr).keep (fun _ _ _ => rfl) (fun _ _ ht => .inl ht)⟩
  have hj' : j < rows.length := hj
  rw [Nat.zero_add, hc j hj', getD_in _ _ _ hj]
  simp [hj']
/-- The row just gathered. -/
theorem GaB.last (h : GaB w wr T n p lv d v rows) {i : Nat} (hi : i < rows.length) : ∃ g c, v = .slice (some ⟨g, 0, none⟩) rows.length c ∧ wr.cell? ⟨g, i, none⟩ = some (rows.getD i default).v := by
  obtain ⟨g, c, hv, _, hg, hc⟩ := own_get h.ow (by omega)
  refine ⟨g, c, hv, ?_⟩
  rw [hc i hi, getD_in _ _ _ hi]
  simp [hi]
end
/-- Clones, the list of them: all made since W. -/
structure CnB (w W wr : World) (U : Nat → Prop) (d : Nat → Pd) (i : Nat) (q : Nat → Nat) (v : Value) : Prop where
  fb : FA w wr U i q d none 0
  ow : wr.ownsRow W.heap.size 38 1 v i ((List.range i).map fun j => ptr (q j))
  nt : ∀ b, v.ownBlock = some b → ¬ U b
  ge : ∀ b, U b → W.heap.size ≤ b
  be : Below W.heap.size W wr
  ww : w.heap.size ≤ W.heap.size
section
variable {w W wr w2 : World} {U : Nat → Prop} {d : Nat → Pd} {i pc : Nat} {q : Nat → Nat} {v : Value}
theorem CnB.new (h : CnB w W wr U d i q v) (hd : DrAt w2 (fun b => wr.heap.size ≤ b ∧ b < w2.heap.size) pc none (d i)) (hb : Below wr.heap.size wr w2) (hi : i ≤ 1000) :
    ∃ v' w', (Builtin.append_ #[23, 23] 23 #[v, .slice (some ⟨w2.heap.size, 0, none⟩) 1 1]).run Tryz.prog (w2.alloc (.cells #[ptr pc] 38)) = .ok v' w' ∧ ∃ U' q', CnB w W w' U' d (i + 1) q' v' := by
  obtain ⟨T', hg, hf⟩ := h.fb.moreD hd hb
  rw [upd_id] at hf
  have how : w2.ownsRow W.heap.size 38 1 v i ((List.range i).map fun j => ptr (q j)) := ownsRow_keep h.ow fun b hv => hb.block b (own_ge h.ow b hv).2
  obtain ⟨v', w', hr, h1, h2, h3, _⟩ := own_push (T := 23) Tryz.underlying23 Tryz.infoDp rfl (by decide) how #[ptr pc] rfl (by simp [ptr, Value.oneCell']) (by omega) (by decide) (Nat.le_trans h.be.size hb.size)
  have hnt : ∀ b, v.ownBlock = some b → ¬ T' b := fun b hv ht => (hg.2 b ht).elim (h.nt b hv) (fun hl => by have := (own_ge h.ow b hv).2; omega)
  refine ⟨v', w', hr, T', upd q i pc, hf.only h2 (fun b hb' hv => ?_) (fun b ht hv => hnt b hv ht), ?_, fun b hv ht => ?_, fun b ht => ?_, ?_, h.ww⟩
  · have := (own_ge h.ow b hv).1; have := h.ww; omega
  · rw [List.range_succ, List.map_append]
    have : (List.range i).map (fun j => ptr (upd q i pc j)) = (List.range i).map fun j => ptr (q j) := List.map_congr_left fun j hj => by rw [upd_ne _ _ (by have := List.mem_range.1 hj; omega)]
    rw [this]
    simp only [List.map_cons, List.map_nil, upd_same]
    exact h1
  · rcases h3 with h3 | ⟨c, h3, hc⟩
    · exact hnt b (h3 ▸ hv) ht
    · rw [h3] at hv; cases hv
      have := hf.lt _ ht; omega
  · exact (hg.2 b ht).elim (h.ge b) (fun hl => Nat.le_trans h.be.size hl)
  · refine ⟨h2.os.trans (hb.os.trans h.be.os), h2.tape.trans (hb.tape.trans h.be.tape), h2.output.trans (hb.output.trans h.be.output), Nat.le_trans h.be.size (Nat.le_trans hb.size h2.size), fun b hb' => ?_⟩
    have l1 : b < wr.heap.size := Nat.lt_of_lt_of_le hb' h.be.size
    exact (h2.block b (Nat.lt_of_lt_of_le l1 hb.size) (fun hv => by have := (own_ge h.ow b hv).1; omega)).trans ((hb.block b l1).trans (h.be.block b hb'))
theorem CnB.cells (h : CnB w W wr U d i q v) (h0 : 0 < i) : ∃ g c, v = .slice (some ⟨g, 0, none⟩) i c ∧ W.heap.size ≤ g ∧ g < wr.heap.size ∧ ¬ U g ∧ ∀ j, j < i → wr.cell? ⟨g, j, none⟩ = some (ptr (q j)) := by
  obtain ⟨g, c, hv, _, hg, hc⟩ := own_get h.ow h0
  subst hv
  exact ⟨g, c, rfl, hg, (own_ge h.ow g rfl).2, h.nt g rfl, fun j hj => by rw [hc j hj]; simp [hj]⟩
end
/-- Both sets, since W. -/
structure EnB (w W wr : World) (T U T0 U0 : Nat → Prop) (n : Nat) (p q : Nat → Nat) (d e : Nat → Pd) : Prop where
  fa : FA w wr T n p d none 0
  fb : FA w wr U n q e none 0
  dj : ∀ b, T b → ¬ U b
  on : Only (fun b => T0 b ∨ U0 b) W wr
  gT : ∀ b, b < W.heap.size → T b → T0 b
  gU : ∀ b, b < W.heap.size → U b → U0 b
section
variable {w W wr w' : World} {T U T0 U0 : Nat → Prop} {n : Nat} {p q : Nat → Nat} {d e d' : Nat → Pd}
theorem EnB.below (h : EnB w W wr T U T0 U0 n p q d e) (hb : Below wr.heap.size wr w') : EnB w W w' T U T0 U0 n p q d e :=
  ⟨h.fa.below hb, h.fb.below hb, h.dj, h.on.then (Only.of_below (S := fun _ => False) hb) (fun _ _ h => h.elim), h.gT, h.gU⟩
theorem EnB.stepT (h : EnB w W wr T U T0 U0 n p q d e) (hs : FStep w wr T n p d' none 0 w') : ∃ T', EnB w W w' T' U T0 U0 n p q d' e := by
  obtain ⟨T', hg, hf, ho, _⟩ := hs
  exact ⟨T', hf, h.fb.only ho (fun b hb ht => by have := h.fa.ge b ht; omega) (fun b hu ht => h.dj b ht hu), fun b ht hu => (hg.2 b ht).elim (fun ht => h.dj b ht hu) (fun hl => by have := h.fb.lt b hu; omega), h.on.then ho (fun b hb ht => .inl (h.gT b hb ht)), fun b hb ht => (hg.2 b ht).elim (h.gT b hb) (fun hl => by have := h.on.size; omega), h.gU⟩
theorem EnB.stepU (h : EnB w W wr T U T0 U0 n p q d e) (hs : FStep w wr U n q d' none 0 w') : ∃ U', EnB w W w' T U' T0 U0 n p q d d' := by
  obtain ⟨U', hg, hf, ho, _⟩ := hs
  exact ⟨U', h.fa.only ho (fun b hb ht => by have := h.fb.ge b ht; omega) (fun b ht hu => h.dj b ht hu), hf, fun b ht hu => (hg.2 b hu).elim (fun hu => h.dj b ht hu) (fun hl => by have := h.fa.lt b ht; omega), h.on.then ho (fun b hb ht => .inr (h.gU b hb ht)), h.gT, fun b hb ht => (hg.2 b ht).elim (h.gU b hb) (fun hl => by have := h.on.size; omega)⟩
theorem EnB.cell (h : EnB w W wr T U T0 U0 n p q d e) {b i : Nat} {v : Value} (hc : W.cell? ⟨b, i, none⟩ = some v) (h1 : ¬ T0 b) (h2 : ¬ U0 b) : wr.cell? ⟨b, i, none⟩ = some v :=
  (World.cell?_of_block (a := ⟨b, i, none⟩) (h.on.block b (cell_lt2 hc) (fun hh => hh.elim h1 h2))).trans hc
theorem EnB.row (h : EnB w W wr T U T0 U0 n p q d e) {r : RowV} (hr : r.ok W (fun b => T0 b ∨ U0 b)) : r.ok wr (fun b => T b ∨ U b) :=
  hr.keep (fun b hb hn => h.on.block b hb hn) (fun b hb ht => ht.elim (fun ht => .inl (h.gT b hb ht)) (fun ht => .inr (h.gU b hb ht)))
end
end Go.Proofs.YtklchjfkkbpipaaGreatDoor

/- FanAll: what it comes to, as mathematics. -/
namespace Go.Proofs.YtklchjfkkbpipaaGreatDoor
open Go

theorem readE_one {d : Pd} (ho : d.out = false) (hf : d.offl = false) {s : Nm} (hn : okNm s = true) {x : Fi} (hg : gget d.F s = some x) : d.readE none s = 0 ∧ d.readB none s = x.1 := by
  unfold Pd.readE Pd.readB
  rw [ans_on0 ho hf (by simp [hn])]
  simp [hg]
theorem list_one {d : Pd} (ho : d.out = false) (hf : d.offl = false) : d.list none [] = d.F.map (·.1) := list_all d none (ans_on0 ho hf rfl)
theorem hld_of {F : List (Nm × Fi)} {d1 d2 : Pd} {l : List Fl} (h1 : d1.F = F) (h2 : d2.F = l.foldl putF F) (o1 : d1.out = false) (o2 : d2.out = false) (f1 : d1.offl = false) (f2 : d2.offl = false) (hs : Srt F) (hk : ∀ x ∈ F, okNm x.1 = true) (hn : ∀ x ∈ l, okNm x.1 = true) (hp : l.Pairwise fun a b => a.1 ≠ b.1) (hl : F.length ≤ 1000) : Hld d1 d2 none none l := by
  have L1 : d1.list none [] = F.map (·.1) := by rw [list_one o1 f1, h1]
  refine ⟨fun x hx => readE_one o2 f2 (hn x hx) (by rw [h2]; exact putF_in l hs hp hx), fun s hs' ha => ?_, ?_, by rw [L1]; simpa using hl, fun s hs' => ?_⟩
  · rw [L1] at hs'
    obtain ⟨x, hx, rfl⟩ := List.mem_map.1 hs'
    have hg : gget F x.1 = some x.2 := gget_of_mem hs hx
    have ha' : ∀ y ∈ l, y.1 ≠ x.1 := fun y hy e => by
      have := List.any_eq_false.1 ha y hy
      exact this (by simp [e])
    have r1 := readE_one o1 f1 (hk x hx) (by rw [h1]; exact hg)
    have r2 := readE_one o2 f2 (hk x hx) (x := x.2) (by rw [h2, putF_get l hs ha']; exact hg)
    exact ⟨r1.1, r2.1, r1.2.trans r2.2.symm⟩
  · rw [list_one o2 f2, L1, List.length_map, h2, putF_len l F hp, List.filter_map, List.length_map]
    rfl
  · rw [L1] at hs'
    obtain ⟨x, hx, rfl⟩ := List.mem_map.1 hs'
    have := ok_len (hk x hx)
    unfold maxLen; omega
/-! ### Files of three -/
theorem FilV.fl_of (x : FilV) : x.fl = (if bitI x.has 1 = 1 then [([97], x.a.bs)] else []) ++ ((if bitI x.has 2 = 2 then [([98], x.b.bs)] else []) ++ (if bitI x.has 4 = 4 then [([99], x.c.bs)] else [])) := by
  unfold FilV.fl FilV.fls
  split <;> split <;> split <;> rfl
theorem FilV.fl_nm {x : FilV} {y : Fl} (h : y ∈ x.fl) : y.1 = [97] ∨ y.1 = [98] ∨ y.1 = [99] := by
  rw [x.fl_of] at h
  simp only [List.mem_append] at h
  rcases h with h | h | h <;> split at h <;> simp at h <;> subst h <;> simp
theorem FilV.fl_pw (x : FilV) : x.fl.Pairwise fun a b => a.1 ≠ b.1 := by
  rw [x.fl_of]
  split <;> split <;> split <;> simp
theorem FilV.fl_len (x : FilV) : x.fl.length ≤ 3 := by unfold FilV.fl; rw [List.length_map]; exact x.fls_le
theorem FilV.fl_ok (x : FilV) : okFl [] x.fl = true := by
  rw [x.fl_of]
  split <;> split <;> split <;> rfl
theorem FilV.fl_b {x : FilV} (h : x.lg = false) {y : Fl} (hy : y ∈ x.fl) : y.2.length ≤ 300 := by
  obtain ⟨l1, l2, l3⟩ := lg_le h
  rw [x.fl_of] at hy
  simp only [List.mem_append] at hy
  rcases hy with hy | hy | hy <;> split at hy <;> simp at hy <;> subst hy <;> assumption
theorem sum_le300 : ∀ (l : List Fl) (_ : ∀ y ∈ l, y.2.length ≤ 300), (l.map fun x => x.2.length).sum ≤ 300 * l.length
  | [], _ => by simp
  | x :: r, h => by
    have := sum_le300 r (fun y hy => h y (List.mem_cons_of_mem _ hy))
    have := h x List.mem_cons_self
    simp only [List.map_cons, List.sum_cons, List.length_cons]
    omega
theorem FilV.fl_sum {x : FilV} (h : x.lg = false) : (x.fl.map fun x => x.2.length).sum ≤ 900 := by
  have := sum_le300 x.fl (fun y hy => x.fl_b h hy)
  have := x.fl_len
  omega
theorem nm_ok {s : Nm} (h : s = [97] ∨ s = [98] ∨ s = [99]) : okNm s = true ∧ okNm (tmpN s) = true ∧ s.length = 1 := by rcases h with rfl | rfl | rfl <;> decide
theorem tmp_long (s : Nm) : 4 ≤ (tmpN s).length := by unfold tmpN; simp
/-! ### What a drive has ahead -/
structure OldD (k : Nat) (d : Pd) : Prop where
  size : d.size = 5000
  offl : d.offl = false
  full : d.full = false
  out : d.out = false
  srt : Srt d.F
  one : ∀ x ∈ d.F, x.1.length = 1 ∧ okNm x.1 = true
  used : usedOf d.F ≤ 300 * k
  len : d.F.length ≤ k
  ops : d.ops ≤ k
theorem OldD.fresh : OldD 0 (fresh 5000) := ⟨rfl, rfl, rfl, rfl, List.Pairwise.nil, fun x hx => (by cases hx), Nat.le_refl _, Nat.le_refl _, Nat.le_refl _⟩
theorem OldD.write {k : Nat} {d : Pd} (h : OldD k d) {x : Fl} (hn : x.1 = [97] ∨ x.1 = [98] ∨ x.1 = [99]) (hb : x.2.length ≤ 300) : OldD (k + 1) (d.write none x.1 x.2).2.1 := by
  have same : OldD (k + 1) d := ⟨h.size, h.offl, h.full, h.out, h.srt, h.one, by have := h.used; omega, by have := h.len; omega, by have := h.ops; omega⟩
  unfold Pd.write
  split
  · exact same
  · split
    · exact same
    · unfold Pd.chg
      rw [if_pos (show letsF none = true from rfl)]
      refine ⟨h.size, h.offl, h.full, h.out, h.srt.put _ _, fun y hy => ?_, ?_, ?_, by show d.ops + 1 ≤ k + 1; have := h.ops; omega⟩
      · rcases mem_put.1 hy with rfl | hy
        · exact ⟨(nm_ok hn).2.2, (nm_ok hn).1⟩
        · exact h.one y hy.1
      · have := used_put_le h.srt x.1 (x.2, true)
        have := h.used
        show usedOf (gput d.F x.1 (x.2, true)) ≤ _
        dsimp only at *
        omega
      · show (gput d.F x.1 (x.2, true)).length ≤ _
        have := put_len d.F x.1 (x.2, true)
        have := h.len
        omega
def wrL (l : List Fl) (d : Pd) : Pd := l.foldl (fun d x => (d.write none x.1 x.2).2.1) d
theorem OldD.wr : ∀ (l : List Fl) {k : Nat} {d : Pd} (_ : OldD k d) (_ : ∀ x ∈ l, (x.1 = [97] ∨ x.1 = [98] ∨ x.1 = [99]) ∧ x.2.length ≤ 300), OldD (k + l.length) (wrL l d)
  | [], _, _, h, _ => h
  | x :: r, k, d, h, hl => by
    have := OldD.wr r (h.write (hl x List.mem_cons_self).1 (hl x List.mem_cons_self).2) (fun y hy => hl y (List.mem_cons_of_mem _ hy))
    rw [show k + (x :: r).length = k + 1 + r.length by simp only [List.length_cons]; omega]
    exact this
def oldF (old : List FilV) (j : Nat) : List Fl := (old.map FilV.fl).getD j []
/-- Drive j ahead of the Commit. -/
def dAt (old : List FilV) (aw fu : List Bool) (j : Nat) : Pd := { wrL (oldF old j) (fresh 5000) with offl := aw.getD j false, full := fu.getD j false }
theorem oldF_in {old : List FilV} {j : Nat} (h : j < old.length) : oldF old j = (old[j]).fl := by unfold oldF; rw [getD_in _ _ _ (by simpa using h)]; simp
theorem oldF_out {old : List FilV} {j : Nat} (h : ¬ j < old.length) : oldF old j = [] := by unfold oldF; simp [List.getD]; rw [List.getElem?_eq_none (by omega)]; rfl
theorem old_at (old : List FilV) (j : Nat) (h : ∀ hj : j < old.length, (old[j]).lg = false) : OldD 3 (wrL (oldF old j) (fresh 5000)) := by
  have key : ∃ m, m ≤ 3 ∧ OldD m (wrL (oldF old j) (fresh 5000)) := by
    by_cases hj : j < old.length
    · rw [oldF_in hj]
      have := OldD.wr (old[j]).fl OldD.fresh (fun x hx => ⟨(old[j]).fl_nm hx, (old[j]).fl_b (h hj) hx⟩)
      exact ⟨_, by have := (old[j]).fl_len; omega, this⟩
    · rw [oldF_out hj]; exact ⟨0, by omega, OldD.fresh⟩
  obtain ⟨m, hm, q⟩ := key
  exact ⟨q.size, q.offl, q.full, q.out, q.srt, q.one, by have := q.used; omega, by have := q.len; omega, by have := q.ops; omega⟩
theorem lay_at {d : Pd} (h : OldD 3 d) {x : FilV} (hx : x.lg = false) (a b : Bool) : Lay { d with offl := a, full := b } x.fl :=
  ⟨h.out, h.srt, fun y hy => ⟨(nm_ok (x.fl_nm hy)).1, (nm_ok (x.fl_nm hy)).2.1⟩, x.fl_pw, fun y hy z hz e => by
    have h1 := (nm_ok (x.fl_nm hy)).2.2
    have h2 := tmp_long z.1
    rw [e] at h1; omega, fun y hy => gget_none.2 fun z hz e => by
    have h1 := (h.one z hz).1
    have h2 := tmp_long y.1
    rw [e] at h1; omega, by
    have := h.used
    have := x.fl_sum hx
    have := h.size
    show usedOf d.F + _ ≤ d.size
    omega⟩
def flF (l : List FilV) (j : Nat) : List Fl := (l.map FilV.fl).getD j []
theorem flF_in {l : List FilV} {j : Nat} (h : j < l.length) : flF l j = (l[j]).fl := oldF_in h
theorem comE_fil (l : List FilV) (need : Int) (h1 : 1 ≤ l.length) (h6 : l.length ≤ 6) (hn : 1 ≤ need) (hn2 : need ≤ (l.length : Int)) : comE l.length (l.map FilV.fl) need = 0 := by
  unfold comE
  rw [if_neg (by unfold ckD; rw [if_pos ⟨h1, by omega⟩]; simp), if_neg (by simp; omega), if_neg, if_pos]
  · rw [List.all_eq_true]
    intro y hy
    obtain ⟨x, _, rfl⟩ := List.mem_map.1 hy
    exact x.fl_ok
  · simp only [List.any_eq_true, decide_eq_true_eq, not_exists, not_and]
    intro y hy
    obtain ⟨x, _, rfl⟩ := List.mem_map.1 hy
    have := x.fl_len
    omega
theorem comM_fil (l : List FilV) (need : Int) (h1 : 1 ≤ l.length) (h6 : l.length ≤ 6) (hn : 1 ≤ need) (hn2 : need ≤ (l.length : Int)) (X : FS) : comM l.length (l.map FilV.fl) need X = com (flF l) l.length need X := by
  unfold comM
  rw [comE_fil l need h1 h6 hn hn2, if_neg (by simp)]
  rfl
end Go.Proofs.YtklchjfkkbpipaaGreatDoor

/- FanAll: what its walk carries, turn by turn. -/
namespace Go.Proofs.YtklchjfkkbpipaaGreatDoor
open Go Go.RowKit Go.Shelf

theorem IsFs.form {w : World} {v : Value} {l : List FilV} (h : IsFs w v l) : ∃ po c, v = .slice po l.length c := by obtain ⟨po, c, e, _⟩ := h; exact ⟨po, c, e⟩
theorem IsKs.form {w : World} {v : Value} {l : List Bool} (h : IsKs w v l) : ∃ po c, v = .slice po l.length c := by obtain ⟨po, c, e, _⟩ := h; exact ⟨po, c, e⟩
theorem IsFs.le {w : World} {v : Value} {l : List FilV} (h : IsFs w v l) : l.length ≤ maxLen := by obtain ⟨po, c, e, h, _⟩ := h; exact h
theorem IsKs.le {w : World} {v : Value} {l : List Bool} (h : IsKs w v l) : l.length ≤ maxLen := by obtain ⟨po, c, e, h, _⟩ := h; exact h
/-- The cells of one, whenever. -/
theorem IsFs.cells {w : World} {po : Option Addr} {n c : Nat} {l : List FilV} (h : IsFs w (.slice po n c) l) {i : Nat} (hi : i < l.length) : ∃ b o, po = some ⟨b, o, none⟩ ∧ (∀ W, Below w.heap.size w W → W.cell? ⟨b, o + i * 4, none⟩ = some l[i].a.v ∧ W.cell? ⟨b, o + i * 4 + 1, none⟩ = some l[i].b.v ∧ W.cell? ⟨b, o + i * 4 + 2, none⟩ = some l[i].c.v ∧ W.cell? ⟨b, o + i * 4 + 3, none⟩ = some (.int .i64 l[i].has)) ∧ l[i].ok w := by
  obtain ⟨po', c', e, _, h1, h2⟩ := h
  cases e
  rcases h1 with h1 | ⟨b, o, rfl, h1⟩
  · rw [h1] at hi; exact absurd hi (Nat.not_lt_zero _)
  · have hx := h1 i l[i] (List.getElem?_eq_getElem hi)
    have hk : ∀ W, Below w.heap.size w W → ∀ j v, w.cell? ⟨b, o + i * 4 + j, none⟩ = some v → W.cell? ⟨b, o + i * 4 + j, none⟩ = some v := fun W hb j v hv => (World.cell?_of_block (a := ⟨b, o + i * 4 + j, none⟩) (hb.block b (cell_lt2 hv))).trans hv
    exact ⟨b, o, rfl, fun W hb => ⟨hk W hb 0 _ (hx 0 (by omega)), hk W hb 1 _ (hx 1 (by omega)), hk W hb 2 _ (hx 2 (by omega)), hk W hb 3 _ (hx 3 (by omega))⟩, h2 _ (List.getElem_mem hi)⟩
theorem IsKs.cell {w : World} {po : Option Addr} {n c : Nat} {l : List Bool} (h : IsKs w (.slice po n c) l) {i : Nat} (hi : i < l.length) : ∃ b o, po = some ⟨b, o, none⟩ ∧ ∀ W, Below w.heap.size w W → W.cell? ⟨b, o + i, none⟩ = some (.bool (l.getD i false)) := by
  obtain ⟨po', c', e, _, h1⟩ := h
  cases e
  rcases h1 with h1 | ⟨b, o, rfl, _, h1⟩
  · rw [h1] at hi; exact absurd hi (Nat.not_lt_zero _)
  · exact ⟨b, o, rfl, fun W hb => (World.cell?_of_block (a := ⟨b, o + i, none⟩) (hb.block b (cell_lt2 (h1 i hi)))).trans (h1 i hi)⟩
/-- The drives while they are laid out. -/
def dG (old : List FilV) (aw fu : List Bool) (i : Nat) : Nat → Pd := fun j => if j < i then dAt old aw fu j else fresh 5000
theorem dG_zero (old : List FilV) (aw fu : List Bool) : dG old aw fu 0 = fun _ => fresh 5000 := by funext j; simp [dG]
theorem dG_at (old : List FilV) (aw fu : List Bool) (i : Nat) : dG old aw fu i i = fresh 5000 := by simp [dG]
theorem dG_next (old : List FilV) (aw fu : List Bool) (i : Nat) : upd (dG old aw fu i) i (dAt old aw fu i) = dG old aw fu (i + 1) := by
  funext j
  unfold upd dG
  by_cases e : j = i
  · subst e; rw [if_pos rfl, if_pos (by omega)]
  · rw [if_neg e]
    by_cases h : j < i
    · rw [if_pos h, if_pos (by omega)]
    · rw [if_neg h, if_neg (by omega)]
def NLg (old l : List FilV) (i : Nat) : Prop := ∀ j, j < i → (∀ h : j < l.length, l[j].lg = false) ∧ (∀ h : j < old.length, old[j].lg = false)
/-- How many can be written. -/
def cnd (old l : List FilV) (aw fu : List Bool) (i : Nat) : Nat := cntW (fun j => canW (dAt old aw fu j) (flF l j)) i
theorem cnd_le (old l : List FilV) (aw fu : List Bool) (i : Nat) : cnd old l aw fu i ≤ i := cntW_le _ _
theorem cnd_succ (old l : List FilV) (aw fu : List Bool) (i : Nat) : cnd old l aw fu (i + 1) = cnd old l aw fu i + (if canW (dAt old aw fu i) (flF l i) then 1 else 0) := rfl
/-- What the first loop carries. -/
def G1 (w wr : World) (n : Nat) (p : Nat → Nat) (lv : Value) (old l : List FilV) (aw fu : List Bool) (i : Nat) (v : Value) : Prop :=
  ∃ T rows, GaB w wr T n p lv (dG old aw fu i) v rows ∧ rows.map RowV.l = (l.take i).map FilV.fls ∧ NLg old l i
theorem GaB.own {w wr : World} {T : Nat → Prop} {n : Nat} {p : Nat → Nat} {lv v : Value} {d : Nat → Pd} {rows : List RowV} (h : GaB w wr T n p lv d v rows) : ∀ b, (T b ∨ v.ownBlock = some b) → w.heap.size ≤ b ∧ b < wr.heap.size := fun b hb => hb.elim (fun ht => ⟨h.fa.ge b ht, h.fa.lt b ht⟩) (fun hv => own_ge h.ow b hv)
/-- What list answers may be read and written while the drives are turned. -/
theorem GaB.listed {w wr w' : World} {T : Nat → Prop} {n : Nat} {p : Nat → Nat} {lv v : Value} {d : Nat → Pd} {rows : List RowV} (h : GaB w wr T n p lv d v rows) {x : FilV} (hx : x.ok w) (hg : x.lg = false) {e : Ending} (hl : ListedAt wr x e w') : ∃ r : RowV, e = .returned r.v ∧ r.l = x.fls ∧ Below wr.heap.size wr w' ∧ r.ok w' (fun b => T b ∨ v.ownBlock = some b) ∧ GaB w w' T n p lv d v rows := by
  obtain ⟨r, h1, h2, h3, h4⟩ := hl
  exact ⟨r, h1, h2, h3, h4 _ (fun b hb => (h.own b hb).2) (hx.fls hg h.fa.be (fun b hb => (h.own b hb).1)), h.below h3⟩
/-- A file is written on a drive. -/
theorem GaB.write {w wr : World} {T : Nat → Prop} {n : Nat} {p : Nat → Nat} {lv v : Value} {d : Nat → Pd} {rows : List RowV} (h : GaB w wr T n p lv d v rows) {i : Nat} (hi : i < n) (z : FlV) (hz : z.ok wr (fun b => T b ∨ v.ownBlock = some b)) (hB : Bnd 1000 1000 (d i)) :
    Calls Tryz.prog 24 #[ptr (p i), sv z.nm, z.bv] wr fun e W' => (∃ r : Nat, e = .returned (.int .i64 (r : Int))) ∧ ∃ T', Grows wr T T' ∧ GaB w W' T' n p lv (upd d i ((d i).write none z.nm z.bs).2.1) v rows ∧ Only T wr W' := by
  refine (h.fa.step hi (fun fu S m L hd hf => write_any hd hf z.nm hz.nl z.pb z.cb z.bs hz.b8 hz.bt (Nat.le_trans hz.bl (by decide)) (Nat.lt_of_le_of_lt hB.2 (by decide)) (Nat.lt_of_le_of_lt hB.1 (by decide))) (write_sm _ _ _ _)).mono ?_
  rintro e W' ⟨rfl, T', hg, hf, ho, _⟩
  have hn : ((d i).write none z.nm z.bs).2.2 = none := by
    have := write_sm (d i) none z.nm z.bs
    cases hq : ((d i).write none z.nm z.bs).2.2 with
    | none => rfl
    | some q => rw [hq] at this; cases this
  rw [hn] at hf
  exact ⟨⟨_, rfl⟩, T', hg, h.step hg hf ho, ho⟩
theorem wrL_take (L : List Fl) (k : Nat) (hk : k < L.length) (d : Pd) : wrL (L.take (k + 1)) d = ((wrL (L.take k) d).write none L[k].1 L[k].2).2.1 := by
  unfold wrL
  rw [List.take_succ_eq_append_getElem hk, List.foldl_append]
  rfl
theorem GaB.offline {w wr : World} {T : Nat → Prop} {n : Nat} {p : Nat → Nat} {lv v : Value} {d : Nat → Pd} {rows : List RowV} (h : GaB w wr T n p lv d v rows) {i : Nat} (hi : i < n) (x : Bool) :
    Calls Tryz.prog 25 #[ptr (p i), .bool x] wr fun e W' => e = .returned (.int .i64 0) ∧ ∃ T', GaB w W' T' n p lv (upd d i { d i with offl := x }) v rows := by
  refine (h.fa.setA hi fun fu S m L hd => offline_any hd x).mono ?_
  rintro e W' ⟨rfl, T', hg, hf, ho, _⟩
  exact ⟨rfl, T', h.step hg hf ho⟩
theorem GaB.full {w wr : World} {T : Nat → Prop} {n : Nat} {p : Nat → Nat} {lv v : Value} {d : Nat → Pd} {rows : List RowV} (h : GaB w wr T n p lv d v rows) {i : Nat} (hi : i < n) (x : Bool) :
    Calls Tryz.prog 26 #[ptr (p i), .bool x] wr fun e W' => e = .returned (.int .i64 0) ∧ ∃ T', GaB w W' T' n p lv (upd d i { d i with full := x }) v rows := by
  refine (h.fa.setA hi fun fu S m L hd => full_any hd x).mono ?_
  rintro e W' ⟨rfl, T', hg, hf, ho, _⟩
  exact ⟨rfl, T', h.step hg hf ho⟩
theorem GaB.lastc {w wr : World} {T : Nat → Prop} {n : Nat} {p : Nat → Nat} {lv : Value} {d : Nat → Pd} {rows : List RowV} {g m c : Nat} (h : GaB w wr T n p lv d (.slice (some ⟨g, 0, none⟩) m c) rows) {i : Nat} (hi : i < rows.length) : wr.cell? ⟨g, i, none⟩ = some (rows.getD i default).v := by
  obtain ⟨g', c', e, h1⟩ := h.last hi
  cases e
  exact h1
theorem getD_snoc (rows : List RowV) (r : RowV) {i : Nat} (h : rows.length = i) : (rows ++ [r]).getD i default = r := by subst h; simp [List.getD]
theorem dAt_of (old : List FilV) (aw fu : List Bool) (i : Nat) (d : Nat → Pd) (x : Pd) (hx : x = wrL (oldF old i) (fresh 5000)) : upd (upd (upd d i x) i { (upd d i x) i with offl := aw.getD i false }) i { (upd (upd d i x) i { (upd d i x) i with offl := aw.getD i false }) i with full := fu.getD i false } = upd d i (dAt old aw fu i) := by
  rw [upd_upd, upd_same, upd_same]
  subst hx
  rw [show upd (upd d i (wrL (oldF old i) (fresh 5000))) i = upd d i from by funext z; exact upd_upd d i _ z]
  rfl
/-- Its turn is over. -/
theorem GaB.over {w W : World} {T : Nat → Prop} {n : Nat} {p : Nat → Nat} {lv v : Value} {old l : List FilV} {aw fu : List Bool} {i : Nat} {rows : List RowV} {r : RowV} (h : GaB w W T n p lv (upd (dG old aw fu i) i (dAt old aw fu i)) v (rows ++ [r])) (hi : i < l.length) (hr : rows.map RowV.l = (l.take i).map FilV.fls) (hl : r.l = l[i].fls) (hn : NLg old l i) (h1 : l[i].lg = false) (h2 : ∀ h : i < old.length, old[i].lg = false) : G1 w W n p lv old l aw fu (i + 1) v := by
  rw [dG_next] at h
  refine ⟨T, rows ++ [r], h, ?_, fun j hj => ?_⟩
  · rw [List.map_append, hr, List.take_succ_eq_append_getElem hi, List.map_append]
    simp [hl]
  · by_cases e : j = i
    · subst e; exact ⟨fun _ => h1, h2⟩
    · exact hn j (by omega)
theorem canW_at (old l : List FilV) (aw fu : List Bool) (i : Nat) {n : Nat} (hn : (flF l i).length = n) : canW (dAt old aw fu i) (flF l i) = (decide (n = 0) || (!aw.getD i false && !fu.getD i false)) := by
  subst hn
  unfold canW dAt
  cases flF l i <;> simp
end Go.Proofs.YtklchjfkkbpipaaGreatDoor

/- FanAll: clones, the Commit, and what is held behind it. -/
namespace Go.Proofs.YtklchjfkkbpipaaGreatDoor
open Go Go.RowKit Go.Shelf

/-- The first j answer again. -/
def offD (d : Nat → Pd) (j : Nat) : Nat → Pd := fun i => if i < j then { d i with offl := false } else d i
theorem offD_zero (d : Nat → Pd) : offD d 0 = d := by funext i; simp [offD]
theorem offD_next (d : Nat → Pd) (j : Nat) : upd (offD d j) j { (offD d j) j with offl := false } = offD d (j + 1) := by
  funext i
  unfold upd offD
  by_cases e : i = j
  · subst e; rw [if_pos rfl, if_neg (Nat.lt_irrefl _), if_pos (by omega)]
  · rw [if_neg e]
    by_cases h : i < j
    · rw [if_pos h, if_pos (by omega)]
    · rw [if_neg h, if_neg (by omega)]
theorem offD_at (d : Nat → Pd) (j : Nat) : offD d (j + 1) j = { d j with offl := false } := by unfold offD; rw [if_pos (by omega)]
/-- A clone. -/
def clD (d : Nat → Pd) : Nat → Pd := fun j => { d j with out := (d j).isOut none }
theorem fAt_zero (f : Fs) (i : Nat) : fAt 0 f i = f := by simp [fAt]
section
variable {w W wr : World} {T U T0 U0 : Nat → Prop} {n : Nat} {p q : Nat → Nat} {d e : Nat → Pd}
theorem EnB.offT (h : EnB w W wr T U T0 U0 n p q d e) {i : Nat} (hi : i < n) : Calls Tryz.prog 25 #[ptr (p i), .bool false] wr fun en W' => en = .returned (.int .i64 0) ∧ ∃ T', EnB w W W' T' U T0 U0 n p q (upd d i { d i with offl := false }) e := by
  refine (h.fa.setA hi fun fu S m L hd => offline_any hd false).mono ?_
  rintro en W' ⟨rfl, hs⟩
  exact ⟨rfl, h.stepT hs⟩
theorem EnB.offU (h : EnB w W wr T U T0 U0 n p q d e) {i : Nat} (hi : i < n) : Calls Tryz.prog 25 #[ptr (q i), .bool false] wr fun en W' => en = .returned (.int .i64 0) ∧ ∃ U', EnB w W W' T U' T0 U0 n p q d (upd e i { e i with offl := false }) := by
  refine (h.fb.setA hi fun fu S m L hd => offline_any hd false).mono ?_
  rintro en W' ⟨rfl, hs⟩
  exact ⟨rfl, h.stepU hs⟩
theorem EnB.upU (h : EnB w W wr T U T0 U0 n p q d e) {i : Nat} (hi : i < n) : Calls Tryz.prog 28 #[ptr (q i)] wr fun en W' => en = .returned (.bool ((e i).up none)) ∧ W' = wr := by
  have := h.fb.look hi fun fu S m L hd hf => up_any hd hf
  rwa [fAt_zero] at this
theorem EnB.hold (h : EnB w W wr T U T0 U0 n p q d e) {i : Nat} (hi : i < n) (h1 : (d i).F.length < 1000000000000) (h2 : (e i).F.length < 1000000000000) (r : RowV) (hr : r.ok wr (fun b => T b ∨ U b)) (hl : r.l.length ≤ 1000) (hH : Hld (e i) (d i) none none r.fl) {W' : World} (hb : Below wr.heap.size wr W') :
    Calls Tryz.prog 29 #[ptr (q i), ptr (p i), r.v] W' fun en W2 => en = .returned (.bool true) ∧ EnB w W W2 T U T0 U0 n p q d e := by
  have s1 := (h.fb.below hb).see hi h2
  have s2 := (h.fa.below hb).see hi h1
  rw [fAt_zero] at s1 s2
  refine (holds_any s1 s2 r ((hr.keep (fun _ _ _ => rfl) (fun _ _ h => h.elim)).below hb) hl hH).mono ?_
  rintro en W2 ⟨h3, h4⟩
  exact ⟨h3, (h.below hb).below h4⟩
end
section
variable {old l : List FilV} {aw fu : List Bool} {j : Nat}
theorem old_dAt (hn : NLg old l l.length) (hj : j < l.length) : OldD 3 (wrL (oldF old j) (fresh 5000)) := old_at old j (hn j hj).2
theorem lay_dAt (hn : NLg old l l.length) (hj : j < l.length) : Lay (dAt old aw fu j) (flF l j) := by
  rw [flF_in hj]
  exact lay_at (old_dAt hn hj) ((hn j hj).1 hj) _ _
theorem bnd_dAt (hn : NLg old l l.length) (hj : j < l.length) : Bnd 3 3 (dAt old aw fu j) := ⟨(old_dAt hn hj).len, (old_dAt hn hj).ops⟩
theorem len_dAt (hn : NLg old l l.length) (hj : j < l.length) : (dAt old aw fu j).F.length ≤ 3 := (old_dAt hn hj).len
theorem up_cl (hn : NLg old l l.length) (hj : j < l.length) : ({ clD (dAt old aw fu) j with offl := false } : Pd).up none = true := by
  have ho := (old_dAt hn hj).out
  unfold Pd.up Pd.isOut clD dAt Pd.isOut
  simp [ho, goneF]
theorem hld_end (hn : NLg old l l.length) (hj : j < l.length) {y : Pd} (hF : Flg (dAt old aw fu j) y) (m : Bool) (hy : y.F = if m = true then (flF l j).foldl putF (dAt old aw fu j).F else (dAt old aw fu j).F) :
    Hld { clD (dAt old aw fu) j with offl := false } { y with offl := false } none none (if m = true then flF l j else []) := by
  have ho := old_dAt hn hj
  obtain ⟨f1, f2, f3, f4⟩ := hF
  have hout : (dAt old aw fu j).out = false := ho.out
  refine hld_of (F := (dAt old aw fu j).F) rfl (by show y.F = _; rw [hy]; cases m <;> rfl) ?_ (by show y.out = false; rw [f3]; exact hout) rfl rfl ho.srt (fun x hx => (ho.one x hx).2) (fun x hx => ?_) ?_ (by have : (dAt old aw fu j).F.length ≤ 3 := ho.len; omega)
  · show (dAt old aw fu j).isOut none = false
    unfold Pd.isOut; rw [hout]; rfl
  · cases m with
    | false => simp at hx
    | true => rw [if_pos rfl, flF_in hj] at hx; exact (nm_ok (FilV.fl_nm hx)).1
  · cases m with
    | false => exact List.Pairwise.nil
    | true => rw [if_pos rfl, flF_in hj]; exact FilV.fl_pw _
theorem putF_len3 (l : List Fl) (F : List (Nm × Fi)) (hp : l.Pairwise fun a b => a.1 ≠ b.1) : (l.foldl putF F).length ≤ F.length + l.length := by
  rw [putF_len l F hp]
  have := List.length_filter_le (fun p => !(l.any fun x => x.1 == p.1)) F
  omega
theorem len_end (hn : NLg old l l.length) (hj : j < l.length) {y : Pd} (m : Bool) (hy : y.F = if m = true then (flF l j).foldl putF (dAt old aw fu j).F else (dAt old aw fu j).F) : y.F.length ≤ 6 := by
  have h1 := len_dAt (aw := aw) (fu := fu) hn hj
  rw [hy]
  cases m with
  | false => rw [if_neg (by simp)]; omega
  | true =>
    rw [if_pos rfl, flF_in hj]
    have := putF_len3 (l[j]).fl (dAt old aw fu j).F (FilV.fl_pw _)
    have := (l[j]).fl_len
    omega
end
/-- What the Commit leaves. -/
structure CmE (w W2 W3 : World) (T U : Nat → Prop) (n : Nat) (p q : Nat → Nat) (d d' : Nat → Pd) (T3 : Nat → Prop) : Prop where
  en : EnB w W3 W3 T3 U T3 U n p q d' (clD d)
  on : Only T W2 W3
  gr : Grows W2 T T3
theorem comR_fil {l : List FilV} {rows : List RowV} (hr : rows.map RowV.l = l.map FilV.fls) {need : Int} (h1 : 1 ≤ l.length) (h6 : l.length ≤ 6) (hn : 1 ≤ need) (hn2 : need ≤ (l.length : Int)) (po : Option Addr) (c : Nat) (X : FS) : comR l.length ⟨po, c, rows⟩ need X = com (flF l) l.length need X := by
  have e1 : comR l.length ⟨po, c, rows⟩ need X = comM l.length (rows.map RowV.fl) need X := by unfold comR comM; rw [fl_map]
  have e2 : rows.map RowV.fl = l.map FilV.fl := by
    have := congrArg (List.map (List.map FlV.fl)) hr
    rw [List.map_map, List.map_map] at this
    exact this
  rw [e1, e2, comM_fil l need h1 h6 hn hn2]
theorem fls_at {l : List FilV} {rows : List RowV} (hr : rows.map RowV.l = l.map FilV.fls) {j : Nat} (hj : j < l.length) : (rows.getD j default).fl = flF l j ∧ (rows.getD j default).l.length ≤ 3 := by
  have hl : rows.length = l.length := by have := congrArg List.length hr; simpa using this
  have hj' : j < rows.length := by omega
  have e : (rows[j]).l = (l[j]).fls := by
    have h1 : (rows.map RowV.l)[j]? = some (rows[j]).l := by simp [hj']
    have h2 : (l.map FilV.fls)[j]? = some (l[j]).fls := by simp [hj]
    rw [hr, h2] at h1
    exact (Option.some.inj h1).symm
  rw [getD_in _ _ _ hj', flF_in hj]
  exact ⟨by unfold RowV.fl FilV.fl; rw [e], by rw [e]; exact (l[j]).fls_le⟩
end Go.Proofs.YtklchjfkkbpipaaGreatDoor
