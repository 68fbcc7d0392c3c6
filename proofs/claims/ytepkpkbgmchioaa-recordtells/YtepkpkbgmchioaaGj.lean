/- Texts laid into one: the remark ahead of each part says what is proved there. -/
import Derived.Test.YtepkpkbgmchioaaGi
import Derived.Laws.OwnMore
/- Records that came in. -/
namespace Go.Proofs.Ytepkpkbgmchioaa
open Go Go.RowKit

/-- What is told of a record that came in. -/
structure IsR (w : World) (r : Rv) : Prop where
  sl : r.sum.length = 32
  s8 : ∀ x ∈ r.sum, x < 256
  parts : ∃ (po : Option Addr) (c : Nat) (ps : Ps), r.pv = .slice po ps.length c ∧ ps.length ≤ c ∧ (ps = [] ∨ ∃ b o, po = some ⟨b, o, none⟩ ∧ PCells w b o ps)
theorem take1 {cs : List Value} {k : Nat} {v : Value} (h : (cs.drop k).take 1 = [v]) : cs.drop k = v :: cs.drop (k + 1) := by
  cases hd : cs.drop k with
  | nil => rw [hd] at h; cases h
  | cons a t =>
    rw [hd] at h
    have e : a = v := by simpa using h
    subst e
    have : cs.drop (k + 1) = t := by rw [← List.drop_drop, hd]; rfl
    rw [this]
section
variable {H : Type} {enc : TypeId × Value → H} {w : World} {held : Bool} {fuel : Nat}
theorem sum_read {cs : List Value} {x : DataW H × List MemPlace} (h : DataW.trod enc Try.prog w 0 (fun _ => true) held fuel 42 cs = some x) : ∃ l : List Nat, l.length = 32 ∧ (∀ z ∈ l, z < 256) ∧ cs = l.map u8 := by
  obtain ⟨xs, m, _, _, hcl, hxl, hf⟩ := DataW.trod_array Try.underlying42 h
  have h32 : cs.length = 32 := by rw [hcl]; kernel_rfl
  have k5 : Try.prog.cellsOf 5 = 1 := by kernel_rfl
  have each : ∀ i, i < 32 → ∃ z : Nat, z < 256 ∧ cs[i]? = some (u8 z) := fun i hi => by
    have h1 := hf i hi
    rw [k5, Nat.mul_one, List.getElem?_eq_getElem (by omega)] at h1
    obtain ⟨z, e, _, wz⟩ := DataW.trod_int Try.underlying5 h1
    have hb := bounds8 wz
    refine ⟨z.toNat, by omega, ?_⟩
    have e2 := congrArg (·[0]?) e
    simp only [List.getElem?_take, List.getElem?_drop] at e2
    simp at e2
    rw [e2]; unfold u8; rw [Int.toNat_of_nonneg hb.1]
  refine ⟨(List.range 32).map fun i => if h : i < 32 then (each i h).choose else 0, by simp, fun z hz => ?_, ?_⟩
  · obtain ⟨i, hi, rfl⟩ := List.mem_map.1 hz
    have hi' : i < 32 := by simpa using hi
    simp only [hi', dite_true]
    exact (each i hi').choose_spec.1
  · apply List.ext_getElem?
    intro i
    by_cases hi : i < 32
    · rw [(each i hi).choose_spec.2]
      simp [hi]
    · rw [List.getElem?_eq_none (by omega), List.getElem?_eq_none (by simp; omega)]
theorem part_read {cs : List Value} {x : DataW H × List MemPlace} (h : DataW.trod enc Try.prog w 0 (fun _ => true) held fuel 53 cs = some x) : ∃ a b : Int, cs = [i64 a, i64 b] := by
  obtain ⟨xs, n, _, _, hcl, hxl, hf⟩ := DataW.trod_struct Try.underlying53 h
  have h2 : cs.length = 2 := by rw [hcl]; kernel_rfl
  have hx2 : xs.length = 2 := by rw [hxl]; rfl
  have k3 : Try.prog.cellsOf 3 = 1 := by kernel_rfl
  match cs, h2, xs, hx2 with
  | [c0, c1], _, [y0, y1], _ =>
    have f0 : DataW.trod enc Try.prog w 0 (fun _ => true) held n 3 (([c0, c1].drop 0).take (Try.prog.cellsOf 3)) = some y0 := hf 0 _ rfl
    rw [k3] at f0
    have f1 : DataW.trod enc Try.prog w 0 (fun _ => true) held n 3 (([c0, c1].drop 1).take (Try.prog.cellsOf 3)) = some y1 := hf 1 _ rfl
    rw [k3] at f1
    obtain ⟨z0, e0, _, _⟩ := DataW.trod_int Try.underlying3 f0
    obtain ⟨z1, e1, _, _⟩ := DataW.trod_int Try.underlying3 f1
    simp at e0 e1
    subst e0 e1
    exact ⟨z0, z1, rfl⟩
theorem parts_read {cs : List Value} {x : DataW H × List MemPlace} (h : DataW.trod enc Try.prog w 0 (fun _ => true) held fuel 43 cs = some x) :
    ∃ (po : Option Addr) (c : Nat) (ps : Ps), cs = [.slice po ps.length c] ∧ ps.length ≤ c ∧ (ps = [] ∨ ∃ b o, po = some ⟨b, o, none⟩ ∧ PCells w b o ps) := by
  have k2 : Try.prog.cellsOf 53 = 2 := by kernel_rfl
  rcases DataW.trod_slice Try.underlying43 h with ⟨hcs, _⟩ | ⟨ad, l, c, elems, rest, n, _, hcs, _, _, hl, _, hlen, hel, _, _⟩
  · exact ⟨none, 0, [], hcs, Nat.le_refl _, Or.inl rfl⟩
  · rw [k2] at hel
    have each : ∀ i, i < l → ∃ a b : Int, w.cell? ((ad.add (i * 2)).add 0) = some (i64 a) ∧ w.cell? ((ad.add (i * 2)).add 1) = some (i64 b) := fun i hi => by
      have h1 := hel i hi
      rw [List.getElem?_eq_getElem (by omega)] at h1
      obtain ⟨ds, hc1, hc2⟩ := Option.bind_eq_some_iff.1 h1
      obtain ⟨a, b, rfl⟩ := part_read hc2
      obtain ⟨_, _, hcell⟩ := World.cells?_some hc1
      exact ⟨a, b, by rw [hcell 0 (by decide)]; rfl, by rw [hcell 1 (by decide)]; rfl⟩
    by_cases h0 : l = 0
    · subst h0; exact ⟨some ad, c, [], hcs, hl, Or.inl rfl⟩
    obtain ⟨a0, b0, h00, _⟩ := each 0 (by omega)
    rw [Nat.zero_mul, add_zero', add_zero'] at h00
    obtain ⟨b, o, rfl⟩ := plain_at ad w (by rw [h00]; simp)
    have each2 : ∀ i, i < l → ∃ q : Int × Int, w.cell? ⟨b, o + i * 2, none⟩ = some (i64 q.1) ∧ w.cell? ⟨b, o + i * 2 + 1, none⟩ = some (i64 q.2) := fun i hi => by
      obtain ⟨u, v, h1, h2⟩ := each i hi
      rw [add_none, add_none] at h1 h2
      exact ⟨(u, v), h1, h2⟩
    clear each
    refine ⟨_, c, (List.range l).map fun i => if h : i < l then (each2 i h).choose else (0, 0), by rw [hcs]; simp, by simpa using hl, Or.inr ⟨b, o, rfl, fun i hi => ?_⟩⟩
    have hi' : i < l := by simpa using hi
    have e := (each2 i hi').choose_spec
    have eg : ((List.range l).map fun i => if h : i < l then (each2 i h).choose else (0, 0)).getD i (0, 0) = (each2 i hi').choose := by simp [List.getD, hi']
    rw [eg]
    exact e
set_option maxRecDepth 100000 in
theorem rec_read {cs : List Value} {x : DataW H × List MemPlace} (h : DataW.trod enc Try.prog w 0 (fun _ => true) held fuel 45 cs = some x) : ∃ r : Rv, IsR w r ∧ cs = r.cs.toList := by
  obtain ⟨xs, n, _, _, hcl, hxl, hf⟩ := DataW.trod_struct Try.underlying45 h
  have h42 : cs.length = 42 := by rw [hcl]; kernel_rfl
  have hx : xs.length = 11 := by rw [hxl]; rfl
  have k3 : Try.prog.cellsOf 3 = 1 := by kernel_rfl
  have k9 : Try.prog.cellsOf 9 = 1 := by kernel_rfl
  have k4 : Try.prog.cellsOf 4 = 1 := by kernel_rfl
  have kD : Try.prog.cellsOf 42 = 32 := by kernel_rfl
  have kP : Try.prog.cellsOf 43 = 1 := by kernel_rfl
  match xs, hx with
  | [y0, y1, y2, y3, y4, y5, y6, y7, y8, y9, y10], _ =>
    have f0 : DataW.trod enc Try.prog w 0 (fun _ => true) held n 9 ((cs.drop 0).take (Try.prog.cellsOf 9)) = some y0 := hf 0 _ rfl
    have f1 : DataW.trod enc Try.prog w 0 (fun _ => true) held n 3 ((cs.drop 1).take (Try.prog.cellsOf 3)) = some y1 := hf 1 _ rfl
    have f2 : DataW.trod enc Try.prog w 0 (fun _ => true) held n 4 ((cs.drop 2).take (Try.prog.cellsOf 4)) = some y2 := hf 2 _ rfl
    have f3 : DataW.trod enc Try.prog w 0 (fun _ => true) held n 3 ((cs.drop 3).take (Try.prog.cellsOf 3)) = some y3 := hf 3 _ rfl
    have f4 : DataW.trod enc Try.prog w 0 (fun _ => true) held n 9 ((cs.drop 4).take (Try.prog.cellsOf 9)) = some y4 := hf 4 _ rfl
    have f5 : DataW.trod enc Try.prog w 0 (fun _ => true) held n 3 ((cs.drop 5).take (Try.prog.cellsOf 3)) = some y5 := hf 5 _ rfl
    have f6 : DataW.trod enc Try.prog w 0 (fun _ => true) held n 3 ((cs.drop 6).take (Try.prog.cellsOf 3)) = some y6 := hf 6 _ rfl
    have f7 : DataW.trod enc Try.prog w 0 (fun _ => true) held n 9 ((cs.drop 7).take (Try.prog.cellsOf 9)) = some y7 := hf 7 _ rfl
    have f8 : DataW.trod enc Try.prog w 0 (fun _ => true) held n 42 ((cs.drop 8).take (Try.prog.cellsOf 42)) = some y8 := hf 8 _ rfl
    have f9 : DataW.trod enc Try.prog w 0 (fun _ => true) held n 43 ((cs.drop 40).take (Try.prog.cellsOf 43)) = some y9 := hf 9 _ rfl
    have f10 : DataW.trod enc Try.prog w 0 (fun _ => true) held n 9 ((cs.drop 41).take (Try.prog.cellsOf 9)) = some y10 := hf 10 _ rfl
    rw [k9] at f0 f4 f7 f10
    rw [k3] at f1 f3 f5 f6
    rw [k4] at f2
    rw [kD] at f8
    rw [kP] at f9
    obtain ⟨s0, e0, _, _⟩ := DataW.trod_string Try.underlying9 f0
    obtain ⟨z1, e1, _, _⟩ := DataW.trod_int Try.underlying3 f1
    obtain ⟨b2, e2, _⟩ := DataW.trod_bool Try.underlying4 f2
    obtain ⟨z3, e3, _, _⟩ := DataW.trod_int Try.underlying3 f3
    obtain ⟨s4, e4, _, _⟩ := DataW.trod_string Try.underlying9 f4
    obtain ⟨z5, e5, _, _⟩ := DataW.trod_int Try.underlying3 f5
    obtain ⟨z6, e6, _, _⟩ := DataW.trod_int Try.underlying3 f6
    obtain ⟨s7, e7, _, _⟩ := DataW.trod_string Try.underlying9 f7
    obtain ⟨l8, hl8, h8, e8⟩ := sum_read f8
    obtain ⟨po, c, ps, e9, hc, hp⟩ := parts_read f9
    obtain ⟨s10, e10, _, _⟩ := DataW.trod_string Try.underlying9 f10
    refine ⟨⟨s0, z1, b2, z3, s4, z5, z6, s7, l8, .slice po ps.length c, s10⟩, ⟨hl8, h8, po, c, ps, rfl, hc, hp⟩, ?_⟩
    have d8 : cs.drop 8 = l8.map u8 ++ cs.drop 40 := by
      have := (List.take_append_drop 32 (cs.drop 8)).symm
      rw [e8, List.drop_drop] at this
      exact this
    have d42 : cs.drop 42 = [] := List.drop_of_length_le (by omega)
    rw [Rv.toL]
    have := take1 e0
    rw [List.drop_zero] at this
    rw [this, take1 e1, take1 e2, take1 e3, take1 e4, take1 e5, take1 e6, take1 e7, d8, take1 e9, take1 e10, d42]
    rfl
end
#print axioms rec_read
end Go.Proofs.Ytepkpkbgmchioaa

/- RecordBack, whatever comes in. -/
namespace Go.Proofs.Ytepkpkbgmchioaa
open Go Go.RowKit

theorem bigR_no {r : Rv} {n : Nat} (h : ¬ bigR r n = true) : n ≤ 100 ∧ r.id.size ≤ 1000 ∧ r.etag.size ≤ 1000 ∧ r.data.size ≤ 1000 ∧ r.up.size ≤ 1000 := by
  simp [bigR] at h; omega
theorem back_all (ra rb : Rv) (b : Option Addr) (len cap : Nat) (w : World) (ia : IsR w ra) (ib : IsR w rb) (h : IsB w b len cap) : Calls Try.prog 5 #[.agg ra.cs, .agg rb.cs, .slice b len cap] w fun e w' => e = .returned (.bool true) ∧ Below w.heap.size w w' := by
  obtain ⟨pa, ca, ps, ea, hca, hpa⟩ := ia.parts
  obtain ⟨pb, cb, qs, eb, hcb, hpb⟩ := ib.parts
  by_cases bA : bigR ra ps.length = true
  · exact back_big0 ra rb ia.sl ib.sl pa pb _ ca _ cb ea eb b len cap w bA
  have bA' : bigR ra ps.length = false := by simpa using bA
  by_cases bB : bigR rb qs.length = true
  · exact back_big1 ra rb ia.sl ib.sl pa pb _ ca _ cb ea eb b len cap w bA' bB
  have bB' : bigR rb qs.length = false := by simpa using bB
  by_cases hl : 200 < len
  · exact back_big2 ra rb ia.sl ib.sl pa pb _ ca _ cb ea eb b len cap w bA' bB' hl
  obtain ⟨bs, rfl, hcap, hbl, h8, hn0⟩ := h
  obtain ⟨a0, a1, a2, a3, a4⟩ := bigR_no bA
  obtain ⟨c0, c1, c2, c3, c4⟩ := bigR_no bB
  have ka : ra.ok := ⟨ia.sl, ia.s8, by omega, by omega, by omega, by omega⟩
  have kb : rb.ok := ⟨ib.sl, ib.s8, by omega, by omega, by omega, by omega⟩
  have pla : PL w ra.pv ps := ⟨pa, ca, ea, hca, by omega, hpa⟩
  have plb : PL w rb.pv qs := ⟨pb, cb, eb, hcb, by omega, hpb⟩
  have hl2 : bs.length ≤ 200 := by omega
  cases oA : okRc (ra.rc ps)
  · exact back_abad ra rb ka kb ps qs b cap bs w pla plb bA' bB' hl2 oA
  cases oC : okRc (rb.rc qs)
  · exact back_cbad ra rb ka kb ps qs b cap bs w pla plb bA' bB' hl2 hbl hcap hn0 h8 oA oC
  by_cases eq : ra.rc ps = rb.rc qs
  · exact back_same ra rb ka kb ps qs b cap bs w pla plb bA' bB' hl2 hbl hcap hn0 h8 oA oC eq
  by_cases sh : (rcB (rb.rc qs)).length < (rcB (ra.rc ps)).length
  · exact back_short ra rb ka kb ps qs b cap bs w pla plb bA' bB' hl2 hbl hcap hn0 h8 oA oC eq sh
  · exact back_unlike ra rb ka kb ps qs b cap bs w pla plb bA' bB' hl2 hbl hcap hn0 h8 oA oC eq (by omega)
#print axioms back_all
end Go.Proofs.Ytepkpkbgmchioaa

/- Parts appended to parts; fresh for parts. -/
namespace Go.Proofs.Ytepkpkbgmchioaa
open Go Go.RowKit

theorem flatP_app (ps qs : Ps) : flatP (ps ++ qs) = flatP ps ++ flatP qs := by simp [flatP]
theorem PBuf.app {B : Nat} {w : World} {v : Value} {ps : Ps} (hv : PBuf B w v ps) (po : Option Addr) (c : Nat) (qs : Ps) (hq : PL w (.slice po qs.length c) qs) (hc : po = none → c = 0) (hn : ps.length + qs.length ≤ 1000000) (hB : B ≤ w.heap.size) :
    ∃ v' w', (Builtin.append_ #[43, 43] 43 #[v, .slice po qs.length c]).run Try.prog w = .ok v' w' ∧ PBuf B w' v' (ps ++ qs) ∧ w.grownBy w' v.ownBlock := by
  obtain ⟨i0, hi0, hz0, hz1, hz2⟩ := info_parts Try.infoP
  obtain ⟨po', c', he, _, _, h⟩ := hq
  cases he
  cases po with
  | none =>
    have : qs = [] := by
      rcases h with h | ⟨b, o, h, _⟩
      · exact h
      · cases h
    subst this
    obtain rfl := hc rfl
    refine ⟨v, w, run_append_owned_none (P := Try.prog) (w := w) B 43 43 53 i0 2 Try.underlying43 hi0 v _ _ hv, by simpa using hv, ⟨rfl, rfl, rfl, Nat.le_refl _, fun _ _ _ => rfl⟩⟩
  | some a =>
    obtain ⟨v', w', hr, h3, h4, _, _⟩ := run_append_own_at (P := Try.prog) w B 43 43 53 i0 _ 2 16 Try.underlying43 hi0 hz0 hz1 hz2 rfl (by decide) v ps.length (flatP ps) hv a qs.length c (flatP qs) (flatP_len qs) (fun j u hj => by
      rcases h with h | ⟨b, o, e2, h⟩
      · subst h; simp [flatP] at hj
      · cases e2
        have hjl : j < qs.length * 2 := by
          rcases Nat.lt_or_ge j (qs.length * 2) with q | q
          · exact q
          · rw [List.getElem?_eq_none (by rw [flatP_len]; exact q)] at hj; cases hj
        have hi : j / 2 < qs.length := by omega
        obtain ⟨a1, a2⟩ := flatP_get qs (j / 2) hi
        obtain ⟨c1, c2⟩ := h (j / 2) hi
        rw [add_none]
        rcases Nat.mod_two_eq_zero_or_one j with hm | hm
        · have ej : j = j / 2 * 2 := by omega
          rw [ej] at hj ⊢
          rw [a1] at hj; rw [c1]; exact hj
        · have ej : j = j / 2 * 2 + 1 := by omega
          rw [ej] at hj ⊢
          rw [a2] at hj
          rw [show o + (j / 2 * 2 + 1) = o + j / 2 * 2 + 1 by omega, c2]; exact hj) (by
      intro u hu
      unfold flatP at hu
      simp at hu
      obtain ⟨_, _, _, h⟩ := hu
      rcases h with rfl | rfl <;> rfl) (by unfold maxLen; omega) (by omega) hB
    refine ⟨v', w', hr, ?_, h4⟩
    unfold PBuf
    rw [List.length_append, flatP_app]; exact h3
/-- What Copy tells: the same record, its parts in memory of their own. -/
def CopS (w : World) (r : Rv) (ps : Ps) (e : Ending) (w' : World) : Prop := ∃ v, e = .returned (.agg ({ r with pv := v } : Rv).cs) ∧ PLF w.heap.size w' v ps ∧ Below w.heap.size w w'
set_option maxRecDepth 100000 in
theorem freshP_any (po : Option Addr) (c : Nat) (ps : Ps) (w : World) (h : PL w (.slice po ps.length c) ps) (hc : po = none → c = 0) (hn : ps.length ≤ 100000) : Calls Try.prog 53 #[.slice po ps.length c] w fun e w' => ∃ v, e = .returned v ∧ PLF w.heap.size w' v ps ∧ Below w.heap.size w w' := by
  obtain ⟨v1, w1, hr, hb1, hg⟩ := (PBuf.nil w.heap.size w).app po c ps h hc (by simpa using by omega) (Nat.le_refl _)
  rw [List.nil_append] at hb1
  obtain ⟨p1, c1, hv1, hc1⟩ := hb1.form
  subst hv1
  have HRUN := hid hr
  have HB := hid hb1
  have HW := hid (below_grown (Below.refl w.heap.size w) hg (Nat.le_refl _) (by intro b hb; cases hb))
  clear h hr hb1 hg
  go_enter Try.func53, Try.ntmps53
  go_wp2_with (first
    | (at_builtin; refine wpList_append_run _ _ 43 43 rfl rfl _ _ _ rfl rfl HRUN.out ?_)
    | (go_at_call 66; refine (clipP_any p1 ps.length c1 hc1 _).mono ?_; rintro e w2 ⟨rfl, hw2⟩; have hw3 := hw2.symm; subst hw3))
  go_ret
  exact ⟨_, rfl, (HB.out.pl hn ps.length (Nat.le_refl _)).2, HW.out⟩
set_option maxRecDepth 100000 in
set_option maxHeartbeats 400000 in
theorem copy_any (r : Rv) (hk : r.ok) (po : Option Addr) (c : Nat) (ps : Ps) (w : World) (hv : r.pv = .slice po ps.length c) (h : PL w r.pv ps) (hc : po = none → c = 0) (hn : ps.length ≤ 100000) : Calls Try.prog 29 #[.agg r.cs] w (CopS w r ps) := by
  have HF := hid (fun W (hb : Below w.heap.size w W) => freshP_any po c ps W (hv ▸ h.below hb) hc hn)
  have HV := hid hv
  clear h hc hv
  go_enter Try.func29, Try.ntmps29
  go_wp2_with (first
    | ((with_reducible refine wpList_boxR rfl _ rfl r.cs ?_ ?_); exact rfl; intro w1 g1 hc1 hb1 hg1; have HA1 := hid (RBox.mk' hk hc1); have HB1 := hid hb1; clear hc1 hb1)
    | ((with_reducible refine wpList_allocR rfl rfl ?_); intro w2 g2 hz2 hb2 hg2; have HZ2 := hid hz2; have HA2 := hid (HA1.out.below hk hb2); have HB2 := hid (below_on HB1.out hb2); have HG := hid (show g1 < g2 ∧ w.heap.size ≤ g1 ∧ g2 < w2.heap.size from ⟨by have := HA1.out.at_.lt; omega, by omega, HZ2.out.at_.lt⟩); have c40 := HA2.out.c40; rw [HV.out] at c40; clear hz2 hb2 hg2 HA1 HB1)
    | (go_at_call 53; refine (HF.out _ HB2.out).mono ?_; rintro e w3 ⟨v3, rfl, hp3, hb3⟩; obtain ⟨p3, n3, c3, hv3⟩ := hp3.form; subst hv3; have HZ3 := hid (HZ2.out.below zR_ok hb3); have ha3 := HA2.out.below hk hb3; clear c40; have d40 := ha3.c40; have f40 := ha3.free; have hs := ha3.set40 hk (.slice p3 n3 c3); have ho : Only (fun b => b = g1) w3 (w3.setCell ⟨g1, 40, none⟩ (.slice p3 n3 c3)) := Only.set w3 _ _ rfl; have HA4 := hid hs; have HZ4 := hid (HZ3.out.only zR_ok ho (by have := HG.out; omega)); have HP4 := hid (hp3.only ho (fun i e => by have := HG.out; omega)); have HB4 := hid (below_tr (below_on HB2.out hb3) (ho.below (below_on HB2.out hb3).size (fun i e => by have := HG.out; omega))); clear hp3 hb3 ha3 hs ho)
    | ((with_reducible refine wpList_load_at 45 _ rfl ?_ g1 0 ?_ ({ r with pv := .slice p3 n3 c3 } : Rv).cs (.struct (Try.prog.fieldsOf 45)) ?_ underRec rfl ?_ ?_); exact rfl; exact rfl; exact HA4.out.whole; (rw [Rv.size_of (r := { r with pv := .slice p3 n3 c3 }) hk.sl]; exact sizeR))
    | ((with_reducible refine wpList_storeR rfl rfl _ _ rfl g2 ?_ (r := { r with pv := .slice p3 n3 c3 }) ?_ zR_ok ?_ ?_ HZ4.out ?_); exact rfl; exact rfl; exact ⟨hk.sl, hk.s8, hk.i, hk.e, hk.d, hk.u⟩; exact rfl; intro w5 h5 o5; have H5 := hid h5; have O5 := hid o5; clear h5 o5))
  refine ret_rowR rfl g2 rfl rfl H5.out ⟨hk.sl, hk.s8, hk.i, hk.e, hk.d, hk.u⟩ ⟨_, rfl, ?_, ?_⟩
  · exact (HP4.out.only O5.out (fun i e => by have := HG.out; omega)).base HB2.out.size
  · exact below_tr HB4.out (O5.out.below HB4.out.size (fun i e => by have := HG.out; omega))
#print axioms PBuf.app
#print axioms copy_any
end Go.Proofs.Ytepkpkbgmchioaa

/- Contract of Copy, the document's. -/
namespace Go.Proofs.Ytepkpkbgmchioaa
open Go Go.RowKit

theorem PBuf.made0 (w : World) (B : Nat) (hB : B ≤ w.heap.size) : PBuf B (w.alloc (.cells #[] 53)) (.slice (some ⟨w.heap.size, 0, none⟩) 0 0) [] := World.ownsRow_made w #[] 0 hB (by unfold maxLen; omega) (by simp)
set_option maxRecDepth 100000 in
set_option maxHeartbeats 400000 in
theorem rcopy_any (r : Rv) (hk : r.ok) (po : Option Addr) (c : Nat) (ps : Ps) (w : World) (hv : r.pv = .slice po ps.length c) (h : PL w r.pv ps) (hc : po = none → c = 0) (hn : ps.length ≤ 100000) : Calls Try.prog 22 #[.agg r.cs] w (CopS w r ps) := by
  have HF : Hid (∀ W, Below w.heap.size w W → ∃ p3 c3 W', (Builtin.append_ #[43, 43] 43 #[.slice (some ⟨W.heap.size, 0, none⟩) 0 0, .slice po ps.length c]).run Try.prog (W.alloc (.cells #[] 53)) = .ok (.slice p3 ps.length c3) W' ∧ PLF W.heap.size W' (.slice p3 ps.length c3) ps ∧ Below W.heap.size W W') := hid (fun W hb => by
    obtain ⟨v1, w1, hr, hb1, hg⟩ := (PBuf.made0 W W.heap.size (Nat.le_refl _)).app po c ps (hv ▸ (h.below hb).below (below_al _ _)) hc (by simpa using by omega) (by rw [size_al]; omega)
    rw [List.nil_append] at hb1
    obtain ⟨p1, c1, hv1, hc1⟩ := hb1.form
    subst hv1
    refine ⟨p1, c1, w1, hr, (hb1.pl hn c1 hc1).2, below_grown (below_al W _) hg (Nat.le_refl _) (fun b hb => ?_)⟩
    simp [Value.ownBlock] at hb
    omega)
  have HV := hid hv
  clear h hc hv
  go_enter Try.func22, Try.ntmps22
  go_wp2_with (first
    | ((with_reducible refine wpList_boxR rfl _ rfl r.cs ?_ ?_); exact rfl; intro w1 g1 hc1 hb1 hg1; have HA1 := hid (RBox.mk' hk hc1); have HB1 := hid hb1; clear hc1 hb1)
    | ((with_reducible refine wpList_allocR rfl rfl ?_); intro w2 g2 hz2 hb2 hg2; have HZ2 := hid hz2; have HA2 := hid (HA1.out.below hk hb2); have HB2 := hid (below_on HB1.out hb2); have HG := hid (show g1 < g2 ∧ w.heap.size ≤ g1 ∧ g2 < w2.heap.size from ⟨by have := HA1.out.at_.lt; omega, by omega, HZ2.out.at_.lt⟩); have c40 := (HA2.out.below hk (below_al w2 (.cells #[] 53))).c40; rw [HV.out] at c40; obtain ⟨p3, c3, w3, hr3, hp3, hb3⟩ := HF.out _ HB2.out; have HRUN := hid hr3; have HP3 := hid hp3; have HB3 := hid hb3; clear hz2 hb2 hg2 HA1 HB1 hr3 hp3 hb3)
    | (at_builtin; (refine wpList_append_run _ _ 43 43 rfl rfl _ _ _ rfl rfl HRUN.out ?_); have HZ3 := hid (HZ2.out.below zR_ok HB3.out); have ha3 := HA2.out.below hk HB3.out; clear c40; have d40 := ha3.c40; have f40 := ha3.free; have hs := ha3.set40 hk (.slice p3 ps.length c3); have ho : Only (fun b => b = g1) w3 (w3.setCell ⟨g1, 40, none⟩ (.slice p3 ps.length c3)) := Only.set w3 _ _ rfl; have HA4 := hid hs; have HZ4 := hid (HZ3.out.only zR_ok ho (by have := HG.out; omega)); have HP4 := hid (HP3.out.only ho (fun i e => by have := HG.out; omega)); have HB4 := hid (below_tr (below_on HB2.out HB3.out) (ho.below (below_on HB2.out HB3.out).size (fun i e => by have := HG.out; omega))); clear ha3 hs ho)
    | ((with_reducible refine wpList_load_at 45 _ rfl ?_ g1 0 ?_ ({ r with pv := .slice p3 ps.length c3 } : Rv).cs (.struct (Try.prog.fieldsOf 45)) ?_ underRec rfl ?_ ?_); exact rfl; exact rfl; exact HA4.out.whole; (rw [Rv.size_of (r := { r with pv := .slice p3 ps.length c3 }) hk.sl]; exact sizeR))
    | ((with_reducible refine wpList_storeR rfl rfl _ _ rfl g2 ?_ (r := { r with pv := .slice p3 ps.length c3 }) ?_ zR_ok ?_ ?_ HZ4.out ?_); exact rfl; exact rfl; exact ⟨hk.sl, hk.s8, hk.i, hk.e, hk.d, hk.u⟩; exact rfl; intro w5 h5 o5; have H5 := hid h5; have O5 := hid o5; clear h5 o5))
  refine ret_rowR rfl g2 rfl rfl H5.out ⟨hk.sl, hk.s8, hk.i, hk.e, hk.d, hk.u⟩ ⟨_, rfl, ?_, ?_⟩
  · exact (HP4.out.only O5.out (fun i e => by have := HG.out; omega)).base HB2.out.size
  · exact below_tr HB4.out (O5.out.below HB4.out.size (fun i e => by have := HG.out; omega))
#print axioms rcopy_any
end Go.Proofs.Ytepkpkbgmchioaa

/- The document's numbers: rows of ints, and what is read. -/
namespace Go.Proofs.Ytepkpkbgmchioaa
open Go Go.RowKit

/-- So many numbers from the front. -/
def rdN : Nat → List Nat → Option (List Nat × List Nat)
  | 0, b => some ([], b)
  | n + 1, b => (rdU b).bind fun q => (rdN n q.2).map fun r => (q.1 :: r.1, r.2)
def pairs : List Nat → Ps
  | a :: b :: r => ((a : Int), (b : Int)) :: pairs r
  | _ => []
theorem rdPs_rdN : ∀ (n : Nat) (b : List Nat), rdPs n b = (rdN (2 * n) b).map fun q => (pairs q.1, q.2)
  | 0, b => rfl
  | n + 1, b => by
    rw [rdPs_succ, show 2 * (n + 1) = (2 * n + 1) + 1 by omega, rdN]
    cases rdU b with
    | none => rfl
    | some q =>
      simp only [Option.bind_some]
      rw [rdN]
      cases rdU q.2 with
      | none => rfl
      | some q2 =>
        simp only [Option.bind_some]
        rw [rdPs_rdN n q2.2]
        cases rdN (2 * n) q2.2 with
        | none => rfl
        | some r => rfl
theorem rdN_len : ∀ {n : Nat} {b : List Nat} {xs c : List Nat}, rdN n b = some (xs, c) → xs.length = n
  | 0, b, xs, c, h => by simp [rdN] at h; rw [h.1]; rfl
  | n + 1, b, xs, c, h => by
    rw [rdN] at h
    cases h1 : rdU b with
    | none => rw [h1] at h; cases h
    | some q =>
      rw [h1] at h
      simp only [Option.bind_some] at h
      cases h2 : rdN n q.2 with
      | none => rw [h2] at h; cases h
      | some r =>
        rw [h2] at h
        simp at h
        rw [← h.1, List.length_cons, rdN_len h2]
/-- What is read so far, and what then. -/
def NAcc (n : Nat) (c : List Nat) (k : Nat) (xs : List Nat) (d : List Nat) : Prop := xs.length = k ∧ rdN n c = (rdN (n - k) d).map fun q => (xs ++ q.1, q.2)
theorem NAcc.start (n : Nat) (c : List Nat) : NAcc n c 0 [] c := ⟨rfl, by simp⟩
theorem NAcc.next {n k : Nat} {c d xs : List Nat} (h : NAcc n c k xs d) (hk : k < n) {m : Nat} {r : List Nat} (hx : rdU d = some (m, r)) : NAcc n c (k + 1) (xs ++ [m]) r := by
  refine ⟨by simp [h.1], ?_⟩
  have h2 := h.2
  rw [show n - k = (n - (k + 1)) + 1 by omega, rdN, hx] at h2
  simp only [Option.bind_some] at h2
  rw [h2]
  cases rdN (n - (k + 1)) r with
  | none => rfl
  | some q => simp
theorem NAcc.stop {n k : Nat} {c d xs : List Nat} (h : NAcc n c k xs d) (hk : k < n) (hx : rdU d = none) : rdN n c = none := by
  have h2 := h.2
  rw [show n - k = (n - (k + 1)) + 1 by omega, rdN, hx] at h2
  exact h2
theorem NAcc.last {n : Nat} {c d xs : List Nat} (h : NAcc n c n xs d) : rdN n c = some (xs, d) := by
  have h2 := h.2
  rw [Nat.sub_self] at h2
  rw [h2]; simp [rdN]
/-- Ints in a row of their own. -/
def IBuf (B : Nat) (w : World) (v : Value) (xs : List Nat) : Prop := w.ownsRow B 3 1 v xs.length (xs.map fun n : Nat => i64 n)
theorem Try.infoI : (Try.prog.info? 3).map (fun i => (i.zero, i.size, i.bytes)) = some (some (.int .i64 0), 1, 8) := by kernel_rfl
theorem IBuf.nil (B : Nat) (w : World) : IBuf B w (.slice none 0 0) [] := World.ownsRow_nil w B 3 1
theorem IBuf.keep {B : Nat} {w w' : World} {v : Value} {xs : List Nat} (h : IBuf B w v xs) (hk : ∀ b, v.ownBlock = some b → w'.heap[b]? = w.heap[b]?) : IBuf B w' v xs := ownsRow_keep h hk
theorem IBuf.below {B : Nat} {w w' : World} {v : Value} {xs : List Nat} (h : IBuf B w v xs) (hb : Below w.heap.size w w') : IBuf B w' v xs := h.keep fun b e => hb.block b (own_ge h b e).2
theorem IBuf.push {B : Nat} {w : World} {v : Value} {xs : List Nat} (h : IBuf B w v xs) (x : Nat) (hn : xs.length ≤ 1000000) (hB : B ≤ w.heap.size) :
    ∃ v' w', (Builtin.append_ #[89, 89] 89 #[v, .slice (some ⟨w.heap.size, 0, none⟩) 1 1]).run Try.prog (w.alloc (.cells #[i64 x] 3)) = .ok v' w' ∧ IBuf B w' v' (xs ++ [x]) ∧ (w.alloc (.cells #[i64 x] 3)).grownBy w' v.ownBlock := by
  obtain ⟨i0, hi0, hz0, hz1, hz2⟩ := info_parts Try.infoI
  have h2 : (w.alloc (.cells #[i64 x] 3)).ownsRow B 3 1 v xs.length (xs.map fun n : Nat => i64 n) := h.alloc _
  have hc : CAt (w.alloc (.cells #[i64 x] 3)) w.heap.size #[i64 x] 3 := CAt.made w _ _
  obtain ⟨v', w', hr, h3, h4, _, _⟩ := run_append_own_at (P := Try.prog) (w.alloc (.cells #[i64 x] 3)) B 89 89 3 i0 _ 1 8 Try.underlying89 hi0 hz0 hz1 hz2 rfl (by decide) v xs.length _ h2 ⟨w.heap.size, 0, none⟩ 1 1 [i64 x] rfl (fun j u hj => by
      rw [add_none, Nat.zero_add, hc.cell]
      rcases j with _ | j
      · simpa using hj
      · simp at hj) (by intro u hu; simp at hu; rw [hu]; rfl) (by unfold maxLen; omega) (by omega) (by rw [size_al]; omega)
  refine ⟨v', w', hr, ?_, h4⟩
  unfold IBuf
  rw [show (xs ++ [x]).map (fun n : Nat => i64 n) = xs.map (fun n : Nat => i64 n) ++ [i64 x] by simp]
  simpa using h3
#print axioms IBuf.push
#print axioms rdPs_rdN
end Go.Proofs.Ytepkpkbgmchioaa
