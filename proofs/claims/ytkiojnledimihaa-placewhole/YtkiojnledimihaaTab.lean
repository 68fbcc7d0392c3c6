/- Texts laid into one: the remark ahead of each part says what is proved there. -/
import Derived.Test.YtkiojnledimihaaPaa
import Derived.Test.YtkiojnledimihaaPab
import Derived.Test.YtkiojnledimihaaPac
import Derived.Test.YtkiojnledimihaaPad
import Derived.Test.YtkiojnledimihaaPae
import Derived.Test.YtkiojnledimihaaPaf
import Derived.Test.YtkiojnledimihaaPag
import Derived.Test.YtkiojnledimihaaPah
import Derived.Test.YtkiojnledimihaaPai
import Derived.Test.YtkiojnledimihaaPaj
import Derived.Test.YtkiojnledimihaaPak
import Derived.Test.YtkiojnledimihaaPal
import Derived.Test.YtkiojnledimihaaTaa
/- What PlaceWhole merges: the parts, the parts the other way round, all paths in one list. -/
namespace Go.Proofs.Ytkiojnledimihaa
open Go Go.RowKit Go.Shelf

section
variable {W0 W W' : World} {g n : Nat} {vs : Nat → Value} {ns : List Nm}
theorem own_rm {B : Nat} {v : Value} {m : Nat} {xs : List Value} {t : TypeId} (h : W.ownsRow B t 1 v m xs) : ∃ po c, v = .slice po m c ∧ Rm po m c := by
  rcases h.2 with ⟨e, h0⟩ | ⟨g, cap, cur, e, _, _, h1, _, _, _⟩
  · exact ⟨none, 0, by rw [e, h0], by rw [h0]; exact ⟨Nat.le_refl _, fun _ => rfl⟩⟩
  · exact ⟨some ⟨g, 0, none⟩, cap, e, h1, fun e => by cases e⟩
/-- The parts as lists of texts. -/
theorem PtM.tv (h : PtM W0 W g n vs (ptS ns n)) : ∃ tv : Nat → TV, ∀ j, j < n → vs j = (tv j).v ∧ (tv j).ns = ptS ns n j ∧ Rm (tv j).po (tv j).ns.length (tv j).c := by
  have each : ∀ j, j < n → ∃ t : TV, vs j = t.v ∧ t.ns = ptS ns n j ∧ Rm t.po t.ns.length t.c := fun j hj => by
    obtain ⟨po, c, e, hr⟩ := own_rm (h.tx j hj).t
    exact ⟨⟨po, c, ptS ns n j⟩, e, rfl, hr⟩
  exact ⟨fun j => if hj : j < n then (each j hj).choose else default, fun j hj => by dsimp only; rw [dif_pos hj]; exact (each j hj).choose_spec⟩
theorem PtM.tx1 (h : PtM W0 W g n vs (ptS ns n)) {tv : Nat → TV} (ht : ∀ j, j < n → vs j = (tv j).v ∧ (tv j).ns = ptS ns n j ∧ Rm (tv j).po (tv j).ns.length (tv j).c) {j : Nat} (hj : j < n) : TxO W (tv j).po (tv j).ns := by
  have h1 := (h.tx j hj).t
  rw [(ht j hj).1, ← (ht j hj).2.1] at h1
  exact tx_of h1
def tvs (tv : Nat → TV) (n : Nat) : List TV := (List.range n).map tv
def tvb (tv : Nat → TV) (n : Nat) : List TV := (List.range n).map fun q => tv (n - 1 - q)
theorem PtM.ts (h : PtM W0 W g n vs (ptS ns n)) {tv : Nat → TV} (ht : ∀ j, j < n → vs j = (tv j).v ∧ (tv j).ns = ptS ns n j ∧ Rm (tv j).po (tv j).ns.length (tv j).c) : TsO W (some ⟨g, 0, none⟩) (tvs tv n) := by
  refine ⟨.inr ⟨g, 0, rfl, fun i hi => ?_⟩, fun t hm => ?_⟩
  · have hi' : i < n := by simpa [tvs] using hi
    rw [Nat.zero_add, h.cell hi', (ht i hi').1, getD_in (tvs tv n) _ _ hi]
    simp [tvs]
  · obtain ⟨j, hj, rfl⟩ := List.mem_map.1 hm
    exact h.tx1 ht (List.mem_range.1 hj)
theorem mem_tvs {tv : Nat → TV} (ht : ∀ j, j < n → (tv j).ns = ptS ns n j) (hk : ∀ x ∈ ns, stN x n < n) {x : Nm} : x ∈ flT (tvs tv n) ↔ x ∈ ns := by
  rw [mem_flT]
  constructor
  · rintro ⟨t, hm, hx⟩
    obtain ⟨j, hj, rfl⟩ := List.mem_map.1 hm
    rw [ht j (List.mem_range.1 hj)] at hx
    exact (mem_ptS.1 hx).1
  · intro hx
    have := hk x hx
    exact ⟨tv (stN x n), List.mem_map.2 ⟨_, List.mem_range.2 this, rfl⟩, by rw [ht _ this]; exact mem_ptS.2 ⟨hx, rfl⟩⟩
theorem mem_tvb {tv : Nat → TV} (ht : ∀ j, j < n → (tv j).ns = ptS ns n j) (hk : ∀ x ∈ ns, stN x n < n) {x : Nm} : x ∈ flT (tvb tv n) ↔ x ∈ ns := by
  rw [mem_flT]
  constructor
  · rintro ⟨t, hm, hx⟩
    obtain ⟨j, hj, rfl⟩ := List.mem_map.1 hm
    have := List.mem_range.1 hj
    rw [ht _ (by omega)] at hx
    exact (mem_ptS.1 hx).1
  · intro hx
    have := hk x hx
    refine ⟨tv (stN x n), List.mem_map.2 ⟨n - 1 - stN x n, List.mem_range.2 (by omega), ?_⟩, by rw [ht _ this]; exact mem_ptS.2 ⟨hx, rfl⟩⟩
    rw [show n - 1 - (n - 1 - stN x n) = stN x n by omega]
/-- All three merged are one list. -/
theorem mg_tvs {tv : Nat → TV} (ht : ∀ j, j < n → (tv j).ns = ptS ns n j) (hk : ∀ x ∈ ns, stN x n < n) : mgT (tvs tv n) = wths [] ns := wths_eq fun _ => mem_tvs ht hk
theorem mg_tvb {tv : Nat → TV} (ht : ∀ j, j < n → (tv j).ns = ptS ns n j) (hk : ∀ x ∈ ns, stN x n < n) : mgT (tvb tv n) = wths [] ns := wths_eq fun _ => mem_tvb ht hk
theorem mg_one (po : Option Addr) (c : Nat) : mgT [⟨po, c, ns⟩] = wths [] ns := by unfold mgT flT; simp
/-- The parts, from the last one on, so far. -/
structure BkI (w : World) (tv : Nat → TV) (n q : Nat) (v : Value) (W : World) : Prop where
  be : Below w.heap.size w W
  ow : W.ownsRow w.heap.size 30 1 v q ((List.range q).map fun j => (tv (n - 1 - j)).v)
theorem BkI.next {w : World} {tv : Nat → TV} {q : Nat} {v : Value} (h : BkI w tv n q v W) (hq : q ≤ 1000) :
    ∃ vp vc w', (Builtin.append_ #[33, 33] 33 #[v, .slice (some ⟨W.heap.size, 0, none⟩) 1 1]).run Try.prog (W.alloc (.cells #[(tv (n - 1 - q)).v] 30)) = .ok (.slice vp (q + 1) vc) w' ∧ BkI w tv n (q + 1) (.slice vp (q + 1) vc) w' := by
  obtain ⟨v', w', hr, ho, hg, _⟩ := run_pushTs h.ow (tv (n - 1 - q)).po (tv (n - 1 - q)).ns.length (tv (n - 1 - q)).c (by omega) h.be.size
  obtain ⟨vp, vc, rfl⟩ := own_form ho
  refine ⟨vp, vc, w', hr, below_on_grown (below_on _ _ h.be ((Below.refl _ _).alloc (Nat.le_refl _) _)) hg (fun b hb => (own_ge h.ow b hb).1), ?_⟩
  rw [List.range_succ, List.map_append]; exact ho
theorem BkI.ts {w : World} {tv : Nat → TV} {vp : Option Addr} {vc : Nat} (h : BkI w tv n n (.slice vp n vc) W) (ht : ∀ j, j < n → TxO W (tv j).po (tv j).ns) : TsO W vp (tvb tv n) ∧ Rm vp n vc := by
  refine ⟨⟨?_, fun t hm => ?_⟩, ?_⟩
  · rcases Nat.eq_zero_or_pos n with e | h0
    · subst e; exact .inl rfl
    · obtain ⟨g, c, e, _, _, hc⟩ := own_get h.ow h0
      cases e
      refine .inr ⟨g, 0, rfl, fun i hi => ?_⟩
      have hi' : i < n := by simpa [tvb] using hi
      rw [Nat.zero_add, hc i hi', getD_in (tvb tv n) _ _ hi]
      simp [tvb, hi']
  · obtain ⟨j, hj, rfl⟩ := List.mem_map.1 hm
    have := List.mem_range.1 hj
    exact ht _ (by omega)
  · obtain ⟨po, c, e, hr⟩ := own_rm h.ow
    cases e; exact hr
/-- All paths in one list. -/
theorem one_ts {po : Option Addr} (c : Nat) (h : TxO W po ns) : TsO (W.alloc (.cells #[.slice po ns.length c] 30)) (some ⟨W.heap.size, 0, none⟩) [⟨po, c, ns⟩] := by
  have hb : Below W.heap.size W (W.alloc (.cells #[.slice po ns.length c] 30)) := (Below.refl _ _).alloc (Nat.le_refl _) _
  refine ⟨.inr ⟨_, 0, rfl, fun i hi => ?_⟩, fun t hm => ?_⟩
  · have : i = 0 := by simpa using hi
    subst this
    exact (CAt.made W #[.slice po ns.length c] 30).cell 0
  · have : t = ⟨po, c, ns⟩ := by simpa using hm
    subst this
    exact h.below hb
end
end Go.Proofs.Ytkiojnledimihaa

/- What the end of PlaceWhole asks: three merged lists that are one. -/
namespace Go.Proofs.Ytkiojnledimihaa
open Go Go.RowKit Go.Shelf

theorem flT_len {a : Nat} : ∀ (l : List TV), (∀ t ∈ l, t.ns.length ≤ a) → (flT l).length ≤ l.length * a
  | [], _ => by simp [flT]
  | t :: r, h => by
    have h1 := flT_len r (fun t ht => h t (List.mem_cons_of_mem _ ht))
    have h2 := h t (List.mem_cons_self ..)
    have e : flT (t :: r) = t.ns ++ flT r := rfl
    rw [e, List.length_append, List.length_cons, Nat.add_mul, Nat.one_mul]; omega
/-- What the loops behind the merging ask: w3 and all worlds above it. -/
structure WhT (w3 : World) (po : Option Addr) (c ga k : Nat) (tv : Nat → TV) (ns m : List Nm) : Prop where
  bk : ∀ W, Below w3.heap.size w3 W → BkI w3 tv k 0 (.slice none 0 0) W
  m1 : ∀ W, Below w3.heap.size w3 W → Calls Try.prog 20 #[.slice (some ⟨ga, 0, none⟩) k k] W (RsP W m)
  m2 : ∀ vp vc W0, BkI w3 tv k k (.slice vp k vc) W0 → ∀ W, Below W0.heap.size W0 W → Calls Try.prog 20 #[.slice vp k vc] W (RsP W m)
  m3 : ∀ W, Below w3.heap.size w3 W → Calls Try.prog 20 #[.slice (some ⟨W.heap.size, 0, none⟩) 1 1] (W.alloc (.cells #[.slice po ns.length c] 30)) (RsP (W.alloc (.cells #[.slice po ns.length c] 30)) m)
  ml : m.length ≤ 60
  lt : ∀ i, 0 < i → i < m.length → Op.bytesLess (m.getD i []) (m.getD (i - 1) []) = false ∧ m.getD i [] ≠ m.getD (i - 1) []
  inl : ∀ i, i < m.length → 0 < cnT ns (m.getD i [])
  one : ∀ i, i < ns.length → cnT m (ns.getD i []) = 1
theorem WhT.made (hP : PlC) {w1 w3 : World} {po : Option Addr} {ns : List Nm} {ga k : Nat} {va : Nat → Value} {tv : Nat → TV} (c : Nat) (htx : TxO w1 po ns) (hr : Rm po ns.length c) (hn : ns.length ≤ 60) (hls : ∀ x ∈ ns, x.length ≤ 500) (hk : 1 ≤ k ∧ k ≤ 4) (hok : ∀ x ∈ ns, okP x = true) (h : PtM w1 w3 ga k va (ptS ns k)) (ht : ∀ j, j < k → va j = (tv j).v ∧ (tv j).ns = ptS ns k j ∧ Rm (tv j).po (tv j).ns.length (tv j).c) : WhT w3 po c ga k tv ns (wths [] ns) := by
  have ht2 : ∀ j, j < k → (tv j).ns = ptS ns k j := fun j hj => (ht j hj).2.1
  have hst : ∀ x ∈ ns, stN x k < k := fun x hx => by
    have := stN_lt (s := x) (n := (k : Int)) (by unfold okS; rw [hok x hx]; simp; omega)
    rwa [Int.toNat_natCast] at this
  have hsub : ∀ j, j < k → (tv j).ns.length ≤ 60 := fun j hj => by rw [ht2 j hj]; exact Nat.le_trans (ptS_len ns k j) hn
  have hend : ∀ W l, mgT l = wths [] ns → ∀ e w', MgP W l e w' → RsP W (wths [] ns) e w' := by
    rintro W l he e w' ⟨v, rfl, h1, h2⟩
    rw [he] at h1
    obtain ⟨p, cc, rfl⟩ := own_form h1.t
    exact ⟨p, cc, rfl, h1, h2⟩
  have hml : (wths [] ns).length ≤ 60 := by have := wths_len ns []; simp only [List.length_nil] at this; omega
  have l1 : (tvs tv k).length = k := by simp [tvs]
  have l2 : (tvb tv k).length = k := by simp [tvb]
  have q1 : ∀ t ∈ tvs tv k, Rm t.po t.ns.length t.c ∧ t.ns.length ≤ 60 := fun t hm => by
    obtain ⟨j, hj, rfl⟩ := List.mem_map.1 hm
    have hj := List.mem_range.1 hj
    exact ⟨(ht j hj).2.2, hsub j hj⟩
  have q2 : ∀ t ∈ tvb tv k, Rm t.po t.ns.length t.c ∧ t.ns.length ≤ 60 := fun t hm => by
    obtain ⟨j, hj, rfl⟩ := List.mem_map.1 hm
    have hj := List.mem_range.1 hj
    exact ⟨(ht _ (by omega)).2.2, hsub _ (by omega)⟩
  have s1 : ∀ x ∈ flT (tvs tv k), x.length ≤ 512 := fun x hx => by have := hls x ((mem_tvs ht2 hst).1 hx); omega
  have s2 : ∀ x ∈ flT (tvb tv k), x.length ≤ 512 := fun x hx => by have := hls x ((mem_tvb ht2 hst).1 hx); omega
  have f1 := flT_len (tvs tv k) (fun t hm => (q1 t hm).2)
  have f2 := flT_len (tvb tv k) (fun t hm => (q2 t hm).2)
  have hk60 : k * 60 ≤ 240 := by omega
  rw [l1] at f1
  rw [l2] at f2
  refine ⟨fun W hb => ⟨hb, World.ownsRow_nil _ _ _ _⟩, fun W hb => ?_, fun vp vc W0 hbk W hb => ?_, fun W hb => ?_, hml, fun i h0 hi => ?_, fun i hi => ?_, fun i hi => ?_⟩
  · have := hP.merge (w := W) (po := some ⟨ga, 0, none⟩) (l := tvs tv k) k ((h.below hb).ts ht) (by rw [l1]; exact ⟨Nat.le_refl _, fun e => by cases e⟩) (fun t hm => ⟨(q1 t hm).1, by have := (q1 t hm).2; omega⟩) (by omega) (by omega) s1
    rw [l1] at this
    exact this.mono (hend W _ (mg_tvs ht2 hst))
  · obtain ⟨h1, h2⟩ := hbk.ts (fun j hj => (h.below hbk.be).tx1 ht hj)
    have := hP.merge (w := W) (po := vp) (l := tvb tv k) vc (h1.below hb) (by rw [l2]; exact h2) (fun t hm => ⟨(q2 t hm).1, by have := (q2 t hm).2; omega⟩) (by omega) (by omega) s2
    rw [l2] at this
    exact this.mono (hend W _ (mg_tvb ht2 hst))
  · have hx := htx.below (below_on _ _ h.be hb)
    have := hP.merge (w := W.alloc (.cells #[.slice po ns.length c] 30)) (po := some ⟨W.heap.size, 0, none⟩) (l := [⟨po, c, ns⟩]) 1 (one_ts c hx) ⟨Nat.le_refl _, fun e => by cases e⟩ (fun t hm => by
      have : t = ⟨po, c, ns⟩ := by simpa using hm
      subst this; exact ⟨hr, Nat.le_trans hn (by decide)⟩) (by simp) (by simp [flT]; omega) (fun x hx => by have := hls x (by simpa [flT] using hx); omega)
    exact this.mono (hend _ _ (mg_one po c))
  · have hb := wths_lt ns i h0 hi
    rw [less_before]
    refine ⟨?_, fun e => bb_ne hb e.symm⟩
    cases hq : bytesBefore ((wths [] ns).getD i []) ((wths [] ns).getD (i - 1) []) with
    | false => rfl
    | true => have := bb_trans hb hq; rw [bb_irrefl] at this; cases this
  · unfold cnT
    have hm : (wths [] ns).getD i [] ∈ ns := by
      have h1 : (wths [] ns).getD i [] ∈ wths [] ns := by rw [getD_in _ _ _ hi]; exact List.getElem_mem hi
      rw [wths_mem] at h1; simpa using h1
    exact List.count_pos_iff.2 hm
  · exact wths_cnt (by rw [getD_in _ _ _ hi]; exact List.getElem_mem hi)
end Go.Proofs.Ytkiojnledimihaa
