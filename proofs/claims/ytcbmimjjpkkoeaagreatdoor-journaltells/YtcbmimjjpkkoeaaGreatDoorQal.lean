/- Texts laid into one: the remark ahead of each part says what is proved there. -/
import Derived.Test.YtcbmimjjpkkoeaaGreatDoorQak
import Derived.Laws.OwnMore
import Derived.Test.YtcbmimjjpkkoeaaGreatDoorQaa
import Derived.Deep.MidRow
import Derived.Deep.LoopGhost
import Derived.Shelf.Abstract
/- Parts appended to parts; fresh for parts. -/
namespace Go.Proofs.YtcbmimjjpkkoeaaGreatDoor
open Go Go.RowKit

theorem flatP_app (ps qs : Ps) : flatP (ps ++ qs) = flatP ps ++ flatP qs := by simp [flatP]
theorem PBuf.app {B : Nat} {w : World} {v : Value} {ps : Ps} (hv : PBuf B w v ps) (po : Option Addr) (c : Nat) (qs : Ps) (hq : PL w (.slice po qs.length c) qs) (hc : po = none → c = 0) (hn : ps.length + qs.length ≤ 1000000) (hB : B ≤ w.heap.size) :
    ∃ v' w', (Builtin.append_ #[43, 43] 43 #[v, .slice po qs.length c]).run Tryz.prog w = .ok v' w' ∧ PBuf B w' v' (ps ++ qs) ∧ w.grownBy w' v.ownBlock := by
  obtain ⟨i0, hi0, hz0, hz1, hz2⟩ := info_parts Tryz.infoP
  obtain ⟨po', c', he, _, _, h⟩ := hq
  cases he
  cases po with
  | none =>
    have : qs = [] := by
      rcases h with h | ⟨b, o, h, _⟩
      · exact h
      · cases h
    subst this
    obtain rfl := hc rfl
    refine ⟨v, w, run_append_owned_none (P := Tryz.prog) (w := w) B 43 43 59 i0 2 Tryz.underlying43 hi0 v _ _ hv, by simpa using hv, ⟨rfl, rfl, rfl, Nat.le_refl _, fun _ _ _ => rfl⟩⟩
  | some a =>
    obtain ⟨v', w', hr, h3, h4, _, _⟩ := run_append_own_at (P := Tryz.prog) w B 43 43 59 i0 _ 2 16 Tryz.underlying43 hi0 hz0 hz1 hz2 rfl (by decide) v ps.length (flatP ps) hv a qs.length c (flatP qs) (flatP_len qs) (fun j u hj => by
      rcases h with h | ⟨b, o, e2, h⟩
      · subst h; simp [flatP] at hj
      · cases e2
        have hjl : j < qs.length * 2 := by
          rcases Nat.lt_or_ge j (qs.length * 2) with q | q
          · exact q
          · rw [List.getElem?_eq_none (by rw [flatP_len]; exact q)] at hj; cases hj
        have hi : j / 2 < qs.length := by omega
        obtain ⟨a1, a2⟩ := flatP_get qs (j / 2) hi
        obtain ⟨c1, c2⟩ := h (j / 2) hi
        rw [add_none]
        rcases Nat.mod_two_eq_zero_or_one j with hm | hm
        · have ej : j = j / 2 * 2 := by omega
          rw [ej] at hj ⊢
          rw [a1] at hj; rw [c1]; exact hj
        · have ej : j = j / 2 * 2 + 1 := by omega
          rw [ej] at hj ⊢
          rw [a2] at hj
          rw [show o + (j / 2 * 2 + 1) = o + j / 2 * 2 + 1 by omega, c2]; exact hj) (by
      intro u hu
      unfold flatP at hu
      simp at hu
      obtain ⟨_, _, _, h⟩ := hu
      rcases h with rfl | rfl <;> rfl) (by unfold maxLen; omega) (by omega) hB
    refine ⟨v', w', hr, ?_, h4⟩
    unfold PBuf
    rw [List.length_append, flatP_app]; exact h3
/-- What Copy tells: the same record, its parts in memory of their own. -/
def CopS (w : World) (r : Rv) (ps : Ps) (e : Ending) (w' : World) : Prop := ∃ v, e = .returned (.agg ({ r with pv := v } : Rv).cs) ∧ PLF w.heap.size w' v ps ∧ Below w.heap.size w w'
set_option maxRecDepth 100000 in
theorem freshP_any (po : Option Addr) (c : Nat) (ps : Ps) (w : World) (h : PL w (.slice po ps.length c) ps) (hc : po = none → c = 0) (hn : ps.length ≤ 100000) : Calls Tryz.prog 89 #[.slice po ps.length c] w fun e w' => ∃ v, e = .returned v ∧ PLF w.heap.size w' v ps ∧ Below w.heap.size w w' := by
  obtain ⟨v1, w1, hr, hb1, hg⟩ := (PBuf.nil w.heap.size w).app po c ps h hc (by simpa using by omega) (Nat.le_refl _)
  rw [List.nil_append] at hb1
  obtain ⟨p1, c1, hv1, hc1⟩ := hb1.form
  subst hv1
  have HRUN := hid hr
  have HB := hid hb1
  have HW := hid (below_grown (Below.refl w.heap.size w) hg (Nat.le_refl _) (by intro b hb; cases hb))
  clear h hr hb1 hg
  go_enter Tryz.func89, Tryz.ntmps89
  go_wp2_with (first
    | (at_builtin; refine wpList_append_run _ _ 43 43 rfl rfl _ _ _ rfl rfl HRUN.out ?_)
    | (go_at_call 102; refine (clipP_any p1 ps.length c1 hc1 _).mono ?_; rintro e w2 ⟨rfl, hw2⟩; have hw3 := hw2.symm; subst hw3))
  go_ret
  exact ⟨_, rfl, (HB.out.pl hn ps.length (Nat.le_refl _) (Or.inl rfl)).2, HW.out⟩
set_option maxRecDepth 100000 in
set_option maxHeartbeats 400000 in
theorem copy_any (r : Rv) (hk : r.ok) (po : Option Addr) (c : Nat) (ps : Ps) (w : World) (hv : r.pv = .slice po ps.length c) (h : PL w r.pv ps) (hc : po = none → c = 0) (hn : ps.length ≤ 100000) : Calls Tryz.prog 66 #[.agg r.cs] w (CopS w r ps) := by
  have HF := hid (fun W (hb : Below w.heap.size w W) => freshP_any po c ps W (hv ▸ h.below hb) hc hn)
  have HV := hid hv
  clear h hc hv
  go_enter Tryz.func66, Tryz.ntmps66
  go_wp2_with (first
    | ((with_reducible refine wpList_boxR rfl _ rfl r.cs ?_ ?_); exact rfl; intro w1 g1 hc1 hb1 hg1; have HA1 := hid (RBox.mk' hk hc1); have HB1 := hid hb1; clear hc1 hb1)
    | ((with_reducible refine wpList_allocR rfl rfl ?_); intro w2 g2 hz2 hb2 hg2; have HZ2 := hid hz2; have HA2 := hid (HA1.out.below hk hb2); have HB2 := hid (below_on HB1.out hb2); have HG := hid (show g1 < g2 ∧ w.heap.size ≤ g1 ∧ g2 < w2.heap.size from ⟨by have := HA1.out.at_.lt; omega, by omega, HZ2.out.at_.lt⟩); have c40 := HA2.out.c40; rw [HV.out] at c40; clear hz2 hb2 hg2 HA1 HB1)
    | (go_at_call 89; refine (HF.out _ HB2.out).mono ?_; rintro e w3 ⟨v3, rfl, hp3, hb3⟩; obtain ⟨p3, n3, c3, hv3⟩ := hp3.form; subst hv3; have HZ3 := hid (HZ2.out.below zR_ok hb3); have ha3 := HA2.out.below hk hb3; clear c40; have d40 := ha3.c40; have f40 := ha3.free; have hs := ha3.set40 hk (.slice p3 n3 c3); have ho : Only (fun b => b = g1) w3 (w3.setCell ⟨g1, 40, none⟩ (.slice p3 n3 c3)) := Only.set w3 _ _ rfl; have HA4 := hid hs; have HZ4 := hid (HZ3.out.only zR_ok ho (by have := HG.out; omega)); have HP4 := hid (hp3.only ho (fun i e => by have := HG.out; omega)); have HB4 := hid (below_tr (below_on HB2.out hb3) (ho.below (below_on HB2.out hb3).size (fun i e => by have := HG.out; omega))); clear hp3 hb3 ha3 hs ho)
    | ((with_reducible refine wpList_load_at 45 _ rfl ?_ g1 0 ?_ ({ r with pv := .slice p3 n3 c3 } : Rv).cs (.struct (Tryz.prog.fieldsOf 45)) ?_ underRec rfl ?_ ?_); exact rfl; exact rfl; exact HA4.out.whole; (rw [Rv.size_of (r := { r with pv := .slice p3 n3 c3 }) hk.sl]; exact sizeR))
    | ((with_reducible refine wpList_storeR rfl rfl _ _ rfl g2 ?_ (r := { r with pv := .slice p3 n3 c3 }) ?_ zR_ok ?_ ?_ HZ4.out ?_); exact rfl; exact rfl; exact ⟨hk.sl, hk.s8, hk.i, hk.e, hk.d, hk.u⟩; exact rfl; intro w5 h5 o5; have H5 := hid h5; have O5 := hid o5; clear h5 o5))
  refine ret_rowR rfl g2 rfl rfl H5.out ⟨hk.sl, hk.s8, hk.i, hk.e, hk.d, hk.u⟩ ⟨_, rfl, ?_, ?_⟩
  · exact (HP4.out.only O5.out (fun i e => by have := HG.out; omega)).base HB2.out.size
  · exact below_tr HB4.out (O5.out.below HB4.out.size (fun i e => by have := HG.out; omega))
#print axioms PBuf.app
#print axioms copy_any
end Go.Proofs.YtcbmimjjpkkoeaaGreatDoor

/- Journals as bytes: mathematics alone. D: the digest, of which nothing is asked but its length. -/
namespace Go.Proofs.YtcbmimjjpkkoeaaGreatDoor

structure Jr where
  seq : Int
  recs : List Rc
  deriving DecidableEq
def okJ (j : Jr) : Bool := inR j.seq 1 1099511627776 && decide (j.recs.length ≤ 64) && j.recs.all okRc && decide ((j.recs.map Rc.id).Nodup)
def rsB (l : List Rc) : List Nat := (l.map rcB).flatten
def jBody (j : Jr) : List Nat := [83, 74, 49] ++ ib j.seq ++ nb j.recs.length ++ rsB j.recs
def jB (D : List Nat → List Nat) (j : Jr) : List Nat := jBody j ++ D (jBody j)
def rdRs : Nat → List Nat → Option (List Rc × List Nat)
  | 0, b => some ([], b)
  | n + 1, b => do
    let (r, b) ← rdR b
    let (l, b) ← rdRs n b
    return (r :: l, b)
def rdMid (b : List Nat) : Option Jr := do
  let (s, b) ← rdU b
  let (n, b) ← rdU b
  if 64 < n then none else
  let (l, b) ← rdRs n b
  if b = [] then some ⟨s, l⟩ else none
/-- The error's number, and the journal. -/
def rdJ (D : List Nat → List Nat) (b : List Nat) : Nat × Option Jr :=
  if b.length < 35 ∨ b.take 3 ≠ [83, 74, 49] then (4, none) else
  if D (b.take (b.length - 32)) ≠ b.drop (b.length - 32) then (14, none) else
  match rdMid ((b.take (b.length - 32)).drop 3) with
  | some j => if okJ j then (0, some j) else (4, none)
  | none => (4, none)
theorem rdRs_rsB : ∀ (l : List Rc) (t : List Nat), l.all okRc = true → rdRs l.length (rsB l ++ t) = some (l, t)
  | [], t, _ => by simp [rdRs, rsB]
  | r :: l, t, h => by
    simp only [List.all_cons, Bool.and_eq_true] at h
    have e : rsB (r :: l) ++ t = rcB r ++ (rsB l ++ t) := by simp [rsB]
    rw [e]
    show rdRs (l.length + 1) _ = _
    unfold rdRs
    rw [rdR_rcB _ h.1]
    simp only [Option.bind_eq_bind, Option.bind_some]
    rw [rdRs_rsB l t h.2]
    rfl
theorem rdRs_some : ∀ {n : Nat} {b c : List Nat} {l : List Rc}, (∀ z ∈ b, z < 256) → rdRs n b = some (l, c) → b = rsB l ++ c ∧ l.length = n ∧ l.all okRc = true
  | 0, b, c, l, _, h => by simp [rdRs] at h; obtain ⟨rfl, rfl⟩ := h; simp [rsB]
  | n + 1, b, c, l, hb, h => by
    unfold rdRs at h
    cases h1 : rdR b with
    | none => rw [h1] at h; cases h
    | some p =>
      obtain ⟨r, b1⟩ := p
      rw [h1] at h
      simp only [Option.bind_eq_bind, Option.bind_some] at h
      obtain ⟨k1, e1⟩ := rdR_some hb h1
      subst e1
      cases h2 : rdRs n b1 with
      | none => rw [h2] at h; cases h
      | some p =>
        obtain ⟨l', b2⟩ := p
        rw [h2] at h
        simp only [Option.bind_some, Option.pure_def, Option.some.injEq, Prod.mk.injEq] at h
        obtain ⟨rfl, rfl⟩ := h
        obtain ⟨e2, k2, k3⟩ := rdRs_some (sub256 hb).2 h2
        exact ⟨by rw [e2]; simp [rsB], by simp [k2], by simp [k1, k3]⟩
theorem okJ_parts {j : Jr} (h : okJ j = true) : 1 ≤ j.seq ∧ j.seq ≤ 1099511627776 ∧ j.recs.length ≤ 64 ∧ j.recs.all okRc = true ∧ (j.recs.map Rc.id).Nodup := by
  simp only [okJ, Bool.and_eq_true, decide_eq_true_eq, inR_iff] at h
  exact ⟨h.1.1.1.1, h.1.1.1.2, h.1.1.2, h.1.2, h.2⟩
theorem rdMid_body {j : Jr} (h : okJ j = true) : rdMid ((jBody j).drop 3) = some j := by
  obtain ⟨h1, h2, h3, h4, _⟩ := okJ_parts h
  have e : (jBody j).drop 3 = ib j.seq ++ (nb j.recs.length ++ (rsB j.recs ++ [])) := by simp [jBody]
  rw [e]
  unfold rdMid ib
  rw [rdU_nb _ (by omega)]
  simp only [Option.bind_eq_bind, Option.bind_some]
  rw [rdU_nb _ (by omega)]
  simp only [Option.bind_some]
  rw [if_neg (by omega), rdRs_rsB _ _ h4]
  simp only [Option.bind_some, if_true]
  rw [ib_toNat (by omega)]
theorem rdMid_some {b : List Nat} {j : Jr} (hb : ∀ z ∈ b, z < 256) (h : rdMid b = some j) : [83, 74, 49] ++ b = jBody j := by
  unfold rdMid at h
  cases h1 : rdU b with
  | none => rw [h1] at h; cases h
  | some p =>
  obtain ⟨s, b1⟩ := p
  rw [h1] at h; simp only [Option.bind_eq_bind, Option.bind_some] at h
  obtain ⟨e1, _⟩ := rdU_some hb h1; subst e1; have hb := (sub256 hb).2
  cases h2 : rdU b1 with
  | none => rw [h2] at h; cases h
  | some p =>
  obtain ⟨n, b2⟩ := p
  rw [h2] at h; simp only [Option.bind_some] at h
  obtain ⟨e2, _⟩ := rdU_some hb h2; subst e2; have hb := (sub256 hb).2
  by_cases hn : 64 < n
  · rw [if_pos hn] at h; cases h
  rw [if_neg hn] at h
  cases h3 : rdRs n b2 with
  | none => rw [h3] at h; cases h
  | some p =>
  obtain ⟨l, b3⟩ := p
  rw [h3] at h; simp only [Option.bind_some] at h
  obtain ⟨e3, k3, _⟩ := rdRs_some hb h3; subst e3
  by_cases h0 : b3 = []
  · rw [if_pos h0] at h
    simp only [Option.some.injEq] at h
    subst h
    subst h0
    subst k3
    simp [jBody, ib]
  · rw [if_neg h0] at h; cases h
theorem body_len (j : Jr) : 5 ≤ (jBody j).length := by
  have h1 := nb_pos j.seq.toNat
  have h2 := nb_pos j.recs.length
  simp only [jBody, ib, List.length_append, List.length_cons, List.length_nil]
  omega
section
variable {D : List Nat → List Nat}
theorem rdJ_jB (hD : ∀ b, (D b).length = 32) {j : Jr} (h : okJ j = true) : rdJ D (jB D j) = (0, some j) := by
  have hl := body_len j
  have hlen : (jB D j).length = (jBody j).length + 32 := by simp [jB, hD]
  have ht : (jB D j).take ((jB D j).length - 32) = jBody j := by rw [hlen, Nat.add_sub_cancel]; exact List.take_left
  have hd : (jB D j).drop ((jB D j).length - 32) = D (jBody j) := by rw [hlen, Nat.add_sub_cancel]; exact List.drop_left
  unfold rdJ
  rw [if_neg (by
    rintro (k | k)
    · omega
    · exact k (by simp [jB, jBody])), ht, hd, if_neg (fun k => k rfl), rdMid_body h]
  simp [h]
theorem rdJ_some {b : List Nat} {j : Jr} (hb : ∀ z ∈ b, z < 256) {e : Nat} (h : rdJ D b = (e, some j)) : e = 0 ∧ okJ j = true ∧ b = jB D j := by
  unfold rdJ at h
  by_cases h1 : b.length < 35 ∨ b.take 3 ≠ [83, 74, 49]
  · rw [if_pos h1] at h; cases h
  rw [if_neg h1] at h
  by_cases h2 : D (b.take (b.length - 32)) ≠ b.drop (b.length - 32)
  · rw [if_pos h2] at h; cases h
  rw [if_neg h2] at h
  have h1a : ¬ b.length < 35 := fun k => h1 (Or.inl k)
  have h1b : b.take 3 = [83, 74, 49] := Classical.byContradiction fun k => h1 (Or.inr k)
  have h2' : D (b.take (b.length - 32)) = b.drop (b.length - 32) := Classical.byContradiction h2
  cases h3 : rdMid ((b.take (b.length - 32)).drop 3) with
  | none => rw [h3] at h; cases h
  | some j' =>
    rw [h3] at h
    by_cases hok : okJ j' = true
    · simp only [hok, if_true, Prod.mk.injEq, Option.some.injEq] at h
      obtain ⟨rfl, rfl⟩ := h
      have hb2 : ∀ z ∈ (b.take (b.length - 32)).drop 3, z < 256 := fun z hz => hb z (List.mem_of_mem_take (List.mem_of_mem_drop hz))
      have e := rdMid_some hb2 h3
      have e2 : jBody j' = b.take (b.length - 32) := by
        rw [← e, ← h1b]
        have : b.take 3 = (b.take (b.length - 32)).take 3 := by rw [List.take_take, Nat.min_eq_left (by omega)]
        rw [this, List.take_append_drop]
      refine ⟨rfl, hok, ?_⟩
      unfold jB
      rw [e2, h2', List.take_append_drop]
    · simp [hok] at h
theorem jB_inj (hD : ∀ b, (D b).length = 32) {a c : Jr} (ha : okJ a = true) (hc : okJ c = true) (h : jB D a = jB D c) : a = c := by
  have h1 := rdJ_jB hD ha
  rw [h, rdJ_jB hD hc] at h1
  simp only [Prod.mk.injEq, Option.some.injEq, true_and] at h1
  exact h1.symm
end
#print axioms rdJ_some
#print axioms jB_inj
end Go.Proofs.YtcbmimjjpkkoeaaGreatDoor

/- Journals: what is added, removed, found. Mathematics alone. -/
namespace Go.Proofs.YtcbmimjjpkkoeaaGreatDoor

/-- The records but one's. -/
def wout (l : List Rc) (id : List Nat) : List Rc := l.filter fun r => decide (r.id ≠ id)
/-- The place of a record. -/
def atI : List Rc → List Nat → Option Nat
  | [], _ => none
  | r :: l, id => if r.id = id then some 0 else (atI l id).map (· + 1)
/-- May be added to? -/
def okA (j : Jr) : Bool := (decide (j.seq = 0) && j.recs.isEmpty) || okJ j
/-- The error's number, and the journal. -/
def addJ (j : Jr) (r : Rc) : Nat × Option Jr :=
  if okA j = false ∨ okRc r = false then (2, none) else
  if j.seq = 1099511627776 ∨ 64 ≤ (wout j.recs r.id).length then (8, none) else (0, some ⟨j.seq + 1, r :: wout j.recs r.id⟩)
def remJ (j : Jr) (id : List Nat) : Nat × Option Jr :=
  if okJ j = false then (2, none) else
  if atI j.recs id = none then (6, none) else
  if j.seq = 1099511627776 then (8, none) else (0, some ⟨j.seq + 1, wout j.recs id⟩)
def findJ (j : Jr) (id : List Nat) : Nat × Option (Nat × Rc) :=
  if okJ j = false then (2, none) else
  match atI j.recs id with
  | none => (6, none)
  | some i => (0, (j.recs[i]?).map fun r => (i, r))
def newJ (j : Jr) : Nat × Option Rc :=
  if okJ j = false then (2, none) else
  match j.recs with
  | [] => (6, none)
  | r :: _ => (0, some r)
theorem okA_parts {j : Jr} (h : okA j = true) : 0 ≤ j.seq ∧ j.seq ≤ 1099511627776 ∧ j.recs.length ≤ 64 ∧ j.recs.all okRc = true ∧ (j.recs.map Rc.id).Nodup := by
  unfold okA at h
  rw [Bool.or_eq_true] at h
  rcases h with h | h
  · simp only [Bool.and_eq_true, decide_eq_true_eq, List.isEmpty_iff] at h
    rw [h.1, h.2]; simp
  · obtain ⟨h1, h2, h3, h4, h5⟩ := okJ_parts h
    exact ⟨by omega, h2, h3, h4, h5⟩
theorem okJ_mk {s : Int} {l : List Rc} (h1 : 1 ≤ s) (h2 : s ≤ 1099511627776) (h3 : l.length ≤ 64) (h4 : l.all okRc = true) (h5 : (l.map Rc.id).Nodup) : okJ ⟨s, l⟩ = true := by
  simp only [okJ, Bool.and_eq_true, decide_eq_true_eq, inR_iff]
  exact ⟨⟨⟨⟨h1, h2⟩, h3⟩, h4⟩, h5⟩
theorem wout_nodup {l : List Rc} (h : (l.map Rc.id).Nodup) (id : List Nat) : ((wout l id).map Rc.id).Nodup := List.Pairwise.sublist (List.Sublist.map _ List.filter_sublist) h
theorem wout_all {l : List Rc} (h : l.all okRc = true) (id : List Nat) : (wout l id).all okRc = true := by
  rw [List.all_eq_true] at h ⊢
  exact fun x hx => h x ((List.mem_filter.1 hx).1)
theorem wout_len (l : List Rc) (id : List Nat) : (wout l id).length ≤ l.length := List.length_filter_le _ _
theorem wout_not (l : List Rc) (id : List Nat) : id ∉ (wout l id).map Rc.id := by
  intro h
  obtain ⟨r, hr, e⟩ := List.mem_map.1 h
  have := (List.mem_filter.1 hr).2
  simp [e] at this
theorem okJ_add {j j' : Jr} {r : Rc} {e : Nat} (h : addJ j r = (e, some j')) : okJ j' = true ∧ e = 0 := by
  unfold addJ at h
  by_cases h1 : okA j = false ∨ okRc r = false
  · rw [if_pos h1] at h; cases h
  rw [if_neg h1] at h
  by_cases h2 : j.seq = 1099511627776 ∨ 64 ≤ (wout j.recs r.id).length
  · rw [if_pos h2] at h; cases h
  rw [if_neg h2] at h
  cases h
  have hA : okA j = true := by cases hh : okA j <;> simp_all
  have hr : okRc r = true := by cases hh : okRc r <;> simp_all
  obtain ⟨k1, k2, k3, k4, k5⟩ := okA_parts hA
  refine ⟨okJ_mk (by omega) (by omega) (by simp; omega) (by simp only [List.all_cons, hr, wout_all k4, Bool.and_self]) ?_, rfl⟩
  rw [List.map_cons, List.nodup_cons]
  exact ⟨wout_not _ _, wout_nodup k5 _⟩
theorem okJ_rem {j j' : Jr} {id : List Nat} {e : Nat} (h : remJ j id = (e, some j')) : okJ j' = true ∧ e = 0 := by
  unfold remJ at h
  by_cases h1 : okJ j = false
  · rw [if_pos h1] at h; cases h
  rw [if_neg h1] at h
  by_cases h2 : atI j.recs id = none
  · rw [if_pos h2] at h; cases h
  rw [if_neg h2] at h
  by_cases h3 : j.seq = 1099511627776
  · rw [if_pos h3] at h; cases h
  rw [if_neg h3] at h
  cases h
  have hA : okJ j = true := by cases hh : okJ j <;> simp_all
  obtain ⟨k1, k2, k3, k4, k5⟩ := okJ_parts hA
  exact ⟨okJ_mk (by omega) (by omega) (by have := wout_len j.recs id; omega) (wout_all k4 _) (wout_nodup k5 _), rfl⟩
theorem atI_none : ∀ {l : List Rc} {id : List Nat}, atI l id = none ↔ id ∉ l.map Rc.id
  | [], id => by simp [atI]
  | r :: l, id => by
    by_cases h : r.id = id
    · simp [atI, h]
    · rw [atI, if_neg h, Option.map_eq_none_iff, atI_none, List.map_cons, List.mem_cons]
      exact ⟨fun h1 h2 => h2.elim (fun e => h e.symm) h1, fun h1 h2 => h1 (Or.inr h2)⟩
theorem atI_some : ∀ {l : List Rc} {id : List Nat} {i : Nat}, atI l id = some i → ∃ h : i < l.length, l[i].id = id ∧ ∀ j (hj : j < i), (l[j]'(by omega)).id ≠ id
  | [], _, _, h => by cases h
  | r :: l, id, i, h => by
    rw [atI] at h
    by_cases h1 : r.id = id
    · rw [if_pos h1] at h
      cases h
      exact ⟨by simp, h1, fun j hj => absurd hj (Nat.not_lt_zero _)⟩
    · rw [if_neg h1] at h
      obtain ⟨k, hk, e⟩ := Option.map_eq_some_iff.1 h
      subst e
      obtain ⟨h2, h3, h4⟩ := atI_some hk
      refine ⟨by simp; omega, by simpa using h3, fun j hj => ?_⟩
      cases j with
      | zero => simpa using h1
      | succ j => simpa using h4 j (by omega)
/-- Where no two have one ID, each is found at its place. -/
theorem atI_at : ∀ {l : List Rc}, (l.map Rc.id).Nodup → ∀ i (h : i < l.length), atI l l[i].id = some i
  | r :: l, hn, 0, _ => by simp [atI]
  | r :: l, hn, i + 1, h => by
    rw [List.map_cons, List.nodup_cons] at hn
    have hi : i < l.length := by simpa using h
    have e : (r :: l)[i + 1].id = l[i].id := rfl
    rw [e, atI, if_neg (fun e2 => hn.1 (by rw [e2]; exact List.mem_map.2 ⟨_, List.getElem_mem hi, rfl⟩)), atI_at hn.2 i hi]
    rfl
/-- .. and only there. -/
theorem nodup_of_at {l : List Rc} (h : ∀ i (hi : i < l.length), atI l l[i].id = some i) : (l.map Rc.id).Nodup := by
  rw [List.nodup_iff_pairwise_ne, List.pairwise_iff_getElem]
  intro i j hi hj hij e
  have hi' : i < l.length := by simpa using hi
  have hj' : j < l.length := by simpa using hj
  have h1 := h i hi'
  have h2 := h j hj'
  have e2 : l[i].id = l[j].id := by simpa using e
  rw [e2, h2] at h1
  cases h1
  omega
/-- Of one's ID none is left; no other one is gone. -/
theorem wout_at {l : List Rc} (hn : (l.map Rc.id).Nodup) : ∀ i (h : i < l.length), wout l l[i].id = l.take i ++ l.drop (i + 1) := by
  induction l with
  | nil => intro i h; simp at h
  | cons r l ih =>
    intro i h
    rw [List.map_cons, List.nodup_cons] at hn
    cases i with
    | zero =>
      have e : wout (r :: l) r.id = wout l r.id := by simp [wout]
      have e2 : wout l r.id = l := by
        unfold wout
        rw [List.filter_eq_self]
        intro x hx
        simp only [ne_eq, decide_eq_true_eq]
        exact fun e => hn.1 (by rw [← e]; exact List.mem_map.2 ⟨x, hx, rfl⟩)
      simpa [e2] using e
    | succ i =>
      have hi : i < l.length := by simpa using h
      have hne : r.id ≠ l[i].id := fun e => hn.1 (by rw [e]; exact List.mem_map.2 ⟨_, List.getElem_mem hi, rfl⟩)
      have e : wout (r :: l) l[i].id = r :: wout l l[i].id := by simp [wout, hne]
      have := ih hn.2 i hi
      simpa [this] using e
/-- All that was added, one behind the other. -/
def growJ : Jr → List Rc → Jr
  | j, [] => j
  | j, r :: l => growJ ((addJ j r).2.getD j) l
theorem okA_next {j : Jr} (h : okA j = true) (r : Rc) : okA ((addJ j r).2.getD j) = true ∧ ((addJ j r).2.getD j).seq ≤ j.seq + 1 := by
  cases e : addJ j r with
  | mk n o =>
    cases o with
    | none => exact ⟨h, by show j.seq ≤ _; omega⟩
    | some j' =>
      refine ⟨by unfold okA; rw [Bool.or_eq_true]; exact Or.inr (okJ_add e).1, ?_⟩
      unfold addJ at e
      split at e
      · cases e
      · split at e
        · cases e
        · cases e; exact Int.le_refl _
#print axioms okJ_add
#print axioms wout_at
#print axioms nodup_of_at
end Go.Proofs.YtcbmimjjpkkoeaaGreatDoor

/- Lists of records in memory. -/
namespace Go.Proofs.YtcbmimjjpkkoeaaGreatDoor
open Go Go.RowKit

/-- A record as a value, and its parts. -/
structure Rp where
  r : Rv
  ps : Ps
def Rp.rc (x : Rp) : Rc := x.r.rc x.ps
def rcs (l : List Rp) : List Rc := l.map Rp.rc
theorem rcs_len (l : List Rp) : (rcs l).length = l.length := by simp [rcs]
theorem rcs_get (l : List Rp) (i : Nat) : (rcs l)[i]? = l[i]?.map Rp.rc := by simp [rcs]
theorem rc_id (x : Rp) : x.rc.id = lst x.r.id := rfl
/-- A record whose parts lie in memory. -/
structure RpOk (w : World) (x : Rp) : Prop where
  ok : x.r.ok
  pl : PL w x.r.pv x.ps
  nil : ∀ n c, x.r.pv = .slice none n c → c = 0
theorem RpOk.keep {w w' : World} {x : Rp} (h : RpOk w x) (hk : ∀ a, w.cell? a ≠ none → w'.cell? a = w.cell? a) : RpOk w' x := ⟨h.ok, h.pl.keep hk, h.nil⟩
theorem RpOk.below {w w' : World} {x : Rp} (h : RpOk w x) (hb : Below w.heap.size w w') : RpOk w' x := ⟨h.ok, h.pl.below hb, h.nil⟩
theorem RpOk.form {w : World} {x : Rp} (h : RpOk w x) : ∃ po c, x.r.pv = .slice po x.ps.length c ∧ (po = none → c = 0) ∧ x.ps.length ≤ c ∧ x.ps.length ≤ 100000 := by
  obtain ⟨po, c, h1, h2, h3, _⟩ := h.pl
  exact ⟨po, c, h1, fun e => h.nil _ c (by rw [h1, e]), h2, h3⟩
/-- .. in no block below B; they may be written. -/
structure RpX (B : Nat) (w : World) (x : Rp) : Prop where
  ok : x.r.ok
  pl : PLF B w x.r.pv x.ps
theorem RpX.one {B : Nat} {w : World} {x : Rp} (h : RpX B w x) : RpOk w x := ⟨h.ok, h.pl.1, h.pl.2.2⟩
theorem RpX.only {B : Nat} {w w' : World} {x : Rp} {S : Nat → Prop} (h : RpX B w x) (hO : Only S w w') (hS : ∀ i, S i → i < B) : RpX B w' x := ⟨h.ok, h.pl.only hO hS⟩
theorem RpX.below {B : Nat} {w w' : World} {x : Rp} (h : RpX B w x) (hb : Below w.heap.size w w') : RpX B w' x := h.only (S := fun _ => False) (Only.of_below hb) (fun _ h => h.elim)
theorem RpX.base {B C : Nat} {w : World} {x : Rp} (h : RpX B w x) (hC : C ≤ B) : RpX C w x := ⟨h.ok, h.pl.base hC⟩
theorem sizeR42 {x : Rp} (h : x.r.ok) : x.r.cs.toList.length = 42 := by rw [Array.length_toList, h.size]

def flatR (l : List Rp) : List Value := l.flatMap fun x => x.r.cs.toList
theorem flatR_nil : flatR [] = [] := rfl
theorem flatR_cons (x : Rp) (l : List Rp) : flatR (x :: l) = x.r.cs.toList ++ flatR l := rfl
theorem flatR_app (l m : List Rp) : flatR (l ++ m) = flatR l ++ flatR m := by simp [flatR]
theorem flatR_len : ∀ {l : List Rp}, (∀ x ∈ l, x.r.ok) → (flatR l).length = l.length * 42
  | [], _ => rfl
  | x :: l, h => by
    rw [flatR_cons, List.length_append, sizeR42 (h x (by simp)), flatR_len (l := l) (fun y hy => h y (by simp [hy])), List.length_cons]; omega
theorem flatR_get : ∀ {l : List Rp}, (∀ x ∈ l, x.r.ok) → ∀ {i : Nat} {x : Rp}, l[i]? = some x → ∀ {j : Nat}, j < 42 → (flatR l)[i * 42 + j]? = x.r.cs[j]?
  | [], _, i, x, e, j, _ => by simp at e
  | y :: l, h, 0, x, e, j, hj => by
    simp at e
    subst e
    rw [flatR_cons, Nat.zero_mul, Nat.zero_add, List.getElem?_append_left (by rw [sizeR42 (h y (by simp))]; exact hj), Array.getElem?_toList]
  | y :: l, h, i + 1, x, e, j, hj => by
    rw [flatR_cons, List.getElem?_append_right (by rw [sizeR42 (h y (by simp))]; omega), sizeR42 (h y (by simp)), show (i + 1) * 42 + j - 42 = i * 42 + j by omega]
    exact flatR_get (l := l) (fun z hz => h z (by simp [hz])) (by simpa using e) hj
theorem Rv.cs_one (r : Rv) (hp : r.pv.oneCell' = true) : ∀ v ∈ r.cs.toList, v.oneCell' = true := by
  intro v hv
  rw [Rv.toL] at hv
  simp only [List.mem_append, List.mem_cons, List.not_mem_nil, or_false, List.mem_map] at hv
  rcases hv with (rfl | rfl | rfl | rfl | rfl | rfl | rfl | rfl) | ⟨_, _, rfl⟩ | rfl | rfl <;> first | rfl | exact hp
theorem RpOk.one {w : World} {x : Rp} (h : RpOk w x) : ∀ v ∈ x.r.cs.toList, v.oneCell' = true := by
  obtain ⟨po, c, e, _⟩ := h.form
  exact x.r.cs_one (by rw [e]; rfl)
theorem flatR_one {w : World} {l : List Rp} (h : ∀ x ∈ l, RpOk w x) : ∀ v ∈ flatR l, v.oneCell' = true := by
  intro v hv
  obtain ⟨x, hx, hv⟩ := List.mem_flatMap.1 hv
  exact (h x hx).one v hv

/-- The cells of the records lie there, one behind the other. -/
def RCells (w : World) (b o : Nat) (l : List Rp) : Prop := ∀ i x, l[i]? = some x → ∀ j v, x.r.cs[j]? = some v → w.cell? ⟨b, o + i * 42 + j, none⟩ = some v
theorem RCells.range {w : World} {b o : Nat} {l : List Rp} (h : RCells w b o l) {i : Nat} {x : Rp} (e : l[i]? = some x) : w.rangeAt b (o + i * 42) x.r.cs.toList := fun j v hv => h i x e j v (by simpa using hv)
theorem RCells.keep {w w' : World} {b o : Nat} {l : List Rp} (h : RCells w b o l) (hk : ∀ a, w.cell? a ≠ none → w'.cell? a = w.cell? a) : RCells w' b o l := fun i x e j v hv => by
  have := h i x e j v hv
  rw [hk _ (by rw [this]; simp)]; exact this
theorem RCells.flat {w : World} {b o : Nat} {l : List Rp} (hk : ∀ x ∈ l, x.r.ok) (h : w.rangeAt b o (flatR l)) : RCells w b o l := fun i x e j v hv => by
  have hj : j < 42 := by
    rcases Nat.lt_or_ge j 42 with q | q
    · exact q
    · rw [Array.getElem?_eq_none (by rw [(hk x (List.mem_of_getElem? e)).size]; exact q)] at hv; cases hv
  rw [Nat.add_assoc]
  exact h (i * 42 + j) v (by rw [flatR_get hk e hj]; exact hv)
theorem RCells.unflat {w : World} {b o : Nat} {l : List Rp} (hk : ∀ x ∈ l, x.r.ok) (h : RCells w b o l) : w.rangeAt b o (flatR l) := fun j v hv => by
  have hj : j < l.length * 42 := by
    rcases Nat.lt_or_ge j (l.length * 42) with q | q
    · exact q
    · rw [List.getElem?_eq_none (by rw [flatR_len hk]; exact q)] at hv; cases hv
  have hi : j / 42 < l.length := by omega
  obtain ⟨x, hx⟩ : ∃ x, l[j / 42]? = some x := ⟨_, List.getElem?_eq_getElem hi⟩
  have e := flatR_get hk hx (j := j % 42) (Nat.mod_lt _ (by omega))
  rw [show j / 42 * 42 + j % 42 = j by omega, hv] at e
  have := h (j / 42) x hx (j % 42) v e.symm
  rwa [show o + j / 42 * 42 + j % 42 = o + j by omega] at this
/-- The slice v leads to the records l. -/
def RL (w : World) (v : Value) (l : List Rp) : Prop := ∃ po c, v = .slice po l.length c ∧ l.length ≤ c ∧ l.length ≤ 100000 ∧ (po = none → c = 0) ∧ (l = [] ∨ ∃ b o, po = some ⟨b, o, none⟩ ∧ RCells w b o l) ∧ ∀ x ∈ l, RpOk w x
theorem RL.each {w : World} {v : Value} {l : List Rp} (h : RL w v l) : ∀ x ∈ l, RpOk w x := by obtain ⟨_, _, _, _, _, _, _, h⟩ := h; exact h
theorem RL.ok {w : World} {v : Value} {l : List Rp} (h : RL w v l) : ∀ x ∈ l, x.r.ok := fun x hx => (h.each x hx).ok
theorem RL.keep {w w' : World} {v : Value} {l : List Rp} (h : RL w v l) (hk : ∀ a, w.cell? a ≠ none → w'.cell? a = w.cell? a) : RL w' v l := by
  obtain ⟨po, c, h1, h2, h3, h4, h5, h6⟩ := h
  refine ⟨po, c, h1, h2, h3, h4, ?_, fun x hx => (h6 x hx).keep hk⟩
  rcases h5 with h5 | ⟨b, o, e, h5⟩
  · exact Or.inl h5
  · exact Or.inr ⟨b, o, e, h5.keep hk⟩
theorem RL.below {w w' : World} {v : Value} {l : List Rp} (h : RL w v l) (hb : Below w.heap.size w w') : RL w' v l :=
  h.keep fun a ha => World.cell?_of_block (hb.block a.block (cell_lt' ha))
theorem RL.nil (w : World) : RL w (.slice none 0 0) [] := ⟨none, 0, rfl, Nat.le_refl _, by simp, fun _ => rfl, Or.inl rfl, fun x hx => by cases hx⟩
theorem RL.len {w : World} {v : Value} {l : List Rp} (h : RL w v l) : l.length ≤ 100000 := by obtain ⟨_, _, _, _, h, _⟩ := h; exact h
/-- Records in a row of their own. -/
def RBuf (B : Nat) (w : World) (v : Value) (l : List Rp) : Prop := w.ownsRow B 45 42 v l.length (flatR l)
theorem RBuf.nil (B : Nat) (w : World) : RBuf B w (.slice none 0 0) [] := World.ownsRow_nil w B _ 42
theorem RBuf.form {B : Nat} {w : World} {v : Value} {l : List Rp} (h : RBuf B w v l) : ∃ po c, v = .slice po l.length c ∧ l.length ≤ c ∧ (po = none → c = 0) := by
  rcases h.2 with ⟨rfl, h0⟩ | ⟨g, cap, cur, rfl, _, _, h1, _⟩
  · exact ⟨none, 0, by rw [h0], by omega, fun _ => rfl⟩
  · exact ⟨_, cap, rfl, h1, fun e => by cases e⟩
theorem RBuf.keep {B : Nat} {w w' : World} {v : Value} {l : List Rp} (h : RBuf B w v l) (hk : ∀ b, v.ownBlock = some b → w'.heap[b]? = w.heap[b]?) : RBuf B w' v l := ownsRow_keep h hk
theorem RBuf.below {B : Nat} {w w' : World} {v : Value} {l : List Rp} (h : RBuf B w v l) (hb : Below w.heap.size w w') : RBuf B w' v l := h.keep fun b hv => hb.block b (own_ge h b hv).2
theorem RBuf.base {B C : Nat} {w : World} {v : Value} {l : List Rp} (h : RBuf B w v l) (hC : C ≤ B) : RBuf C w v l := own_base h hC
theorem RBuf.rl {B : Nat} {w : World} {v : Value} {l : List Rp} (h : RBuf B w v l) (hx : ∀ x ∈ l, RpOk w x) (hn : l.length ≤ 100000) : RL w v l := by
  rcases h.2 with ⟨rfl, h0⟩ | ⟨g, cap, cur, rfl, hB, hg, h1, _, h3, h4⟩
  · obtain rfl := List.eq_nil_of_length_eq_zero h0
    exact RL.nil w
  · refine ⟨_, cap, rfl, h1, hn, (fun e => by cases e), Or.inr ⟨g, 0, rfl, RCells.flat (fun x hx' => (hx x hx').ok) fun j v hv => ?_⟩, hx⟩
    have hc : CAt w g cur 45 := hg
    have hl := flatR_len (l := l) (fun x hx' => (hx x hx').ok)
    have hj : j < l.length * 42 := by
      rcases Nat.lt_or_ge j (l.length * 42) with q | q
      · exact q
      · rw [List.getElem?_eq_none (by omega)] at hv; cases hv
    rw [Nat.zero_add, hc.cell]
    rw [← h4, List.getElem?_take, if_pos hj] at hv
    simpa using hv
/-- Records in memory of their own, their parts too. -/
structure Rs (B : Nat) (w : World) (v : Value) (l : List Rp) : Prop where
  buf : RBuf B w v l
  each : ∀ x ∈ l, RpX B w x
theorem Rs.nil (B : Nat) (w : World) : Rs B w (.slice none 0 0) [] := ⟨RBuf.nil B w, fun x hx => by cases hx⟩
theorem Rs.rl {B : Nat} {w : World} {v : Value} {l : List Rp} (h : Rs B w v l) (hn : l.length ≤ 100000) : RL w v l := h.buf.rl (fun x hx => (h.each x hx).one) hn
theorem Rs.below {B : Nat} {w w' : World} {v : Value} {l : List Rp} (h : Rs B w v l) (hb : Below w.heap.size w w') : Rs B w' v l := ⟨h.buf.below hb, fun x hx => (h.each x hx).below hb⟩
theorem Rs.only {B : Nat} {w w' : World} {v : Value} {l : List Rp} {S : Nat → Prop} (h : Rs B w v l) (hO : Only S w w') (hS : ∀ i, S i → i < B) : Rs B w' v l :=
  ⟨h.buf.keep fun b hv => hO.block b (own_ge h.buf b hv).2 (fun k => by have := hS b k; have := (own_ge h.buf b hv).1; omega), fun x hx => (h.each x hx).only hO hS⟩
theorem Rs.base {B C : Nat} {w : World} {v : Value} {l : List Rp} (h : Rs B w v l) (hC : C ≤ B) : Rs C w v l := ⟨h.buf.base hC, fun x hx => (h.each x hx).base hC⟩
theorem setAll_splice {cs vs : List Value} {o : Nat} (h : o + vs.length ≤ cs.length) : setAll cs o vs = cs.take o ++ (vs ++ cs.drop (o + vs.length)) := by
  have e : cs = cs.take o ++ ((cs.drop o).take vs.length ++ cs.drop (o + vs.length)) := by
    rw [← List.drop_drop, List.take_append_drop, List.take_append_drop]
  have hl : (cs.take o).length = o := by rw [List.length_take]; omega
  have := setAll_app (cs.take o) vs ((cs.drop o).take vs.length) (cs.drop (o + vs.length)) (by rw [List.length_take, List.length_drop]; omega)
  rw [hl, ← e] at this
  exact this
theorem flatR_set {l : List Rp} (hk : ∀ x ∈ l, x.r.ok) {i : Nat} (hi : i < l.length) {y : Rp} : flatR (l.set i y) = (flatR l).take (i * 42) ++ (y.r.cs.toList ++ (flatR l).drop (i * 42 + 42)) := by
  have e : l = l.take i ++ l[i] :: l.drop (i + 1) := by rw [List.getElem_cons_drop, List.take_append_drop]
  have hl : (flatR (l.take i)).length = i * 42 := by
    rw [flatR_len (fun x hx => hk x (List.mem_of_mem_take hx)), List.length_take, Nat.min_eq_left (by omega)]
  have hl2 : (l[i].r.cs.toList).length = 42 := sizeR42 (hk _ (List.getElem_mem hi))
  have e2 : flatR l = flatR (l.take i) ++ (l[i].r.cs.toList ++ flatR (l.drop (i + 1))) := by
    conv => lhs; rw [e]
    rw [flatR_app, flatR_cons]
  have e3 : (flatR l).drop (i * 42 + 42) = flatR (l.drop (i + 1)) := by
    rw [e2, ← List.drop_drop, List.drop_left' hl, List.drop_left' hl2]
  rw [List.set_eq_take_append_cons_drop, if_pos hi, flatR_app, flatR_cons, e3, e2, List.take_left' hl]
/-- A record is stored at its place. -/
theorem RBuf.set {B : Nat} {w : World} {v : Value} {l : List Rp} (h : RBuf B w v l) (hk : ∀ x ∈ l, x.r.ok) {i : Nat} (hi : i < l.length) {y : Rp} (hy : y.r.ok) :
    ∃ g c, v = .slice (some ⟨g, 0, none⟩) l.length c ∧ B ≤ g ∧ w.there g (i * 42) 42 ∧ (∃ cs, CAt w g cs 45) ∧ RBuf B (w.setCells g (i * 42) y.r.cs.toList) v (l.set i y) ∧ Only (fun b => b = g) w (w.setCells g (i * 42) y.r.cs.toList) := by
  rcases h.2 with ⟨rfl, h0⟩ | ⟨g, cap, cur, rfl, hB, hg, h1, hm, h3, h4⟩
  · omega
  have hc : CAt w g cur 45 := hg
  refine ⟨g, cap, rfl, hB, fun j hj => ⟨?_, hc.free _⟩, ⟨cur, hc⟩, ⟨?_, Or.inr ⟨g, cap, _, by rw [List.length_set], hB, CAt.setCells y.r.cs.toList (i * 42) cur w hc, by rw [List.length_set]; exact h1, hm, ?_, ?_⟩⟩, only_setCells _ _ _ _ rfl⟩
  · rw [hc.cell, Array.getElem?_eq_getElem (by omega)]; rfl
  · rw [flatR_len (fun x hx => ?_)]
    rcases List.mem_or_eq_of_mem_set hx with hx | rfl
    · exact hk x hx
    · exact hy
  · have e := setAll_splice (cs := cur.toList) (vs := y.r.cs.toList) (o := i * 42) (by rw [sizeR42 hy, Array.length_toList]; omega)
    rw [List.size_toArray, e, List.length_append, List.length_append, List.length_take, List.length_drop, sizeR42 hy, Array.length_toList]; omega
  · have e := setAll_splice (cs := cur.toList) (vs := y.r.cs.toList) (o := i * 42) (by rw [sizeR42 hy, Array.length_toList]; omega)
    rw [List.toList_toArray, e, sizeR42 hy, List.length_set, flatR_set hk hi, ← h4]
    have ha : (cur.toList.take (i * 42)).length = i * 42 := by rw [List.length_take, Array.length_toList]; omega
    rw [List.take_append, ha, List.take_append, sizeR42 hy, List.take_of_length_le (l := cur.toList.take (i * 42)) (by omega), List.take_of_length_le (l := y.r.cs.toList) (by rw [sizeR42 hy]; omega), List.take_take, Nat.min_eq_left (by omega), List.drop_take, show l.length * 42 - i * 42 - 42 = l.length * 42 - (i * 42 + 42) by omega]
theorem Tryz.infoRec : (Tryz.prog.info? 45).map (fun i => (i.zero, i.size, i.bytes)) = some (some (.agg zR.cs), 42, 160) := by kernel_rfl
#print axioms RBuf.set
end Go.Proofs.YtcbmimjjpkkoeaaGreatDoor

/- slices.IndexFunc with has, and place. -/
namespace Go.Proofs.YtcbmimjjpkkoeaaGreatDoor
open Go Go.RowKit Go.Shelf

/-- A record is read at its place. -/
theorem wpList_loadM {ops : Array Oper} {rest : List Oper} {op : Oper} {a : Act} {w : World} {Q : Exit → Act → World → Prop} (hgd : op.guard = none) (x : Operand) (ho : op.op = .load 45 x)
    (b o : Nat) (hx : a.eval x = .pointer (some ⟨b, o, none⟩)) (r : Rv) (hr : r.ok) (hc : w.rangeAt b o r.cs.toList) (h : wpList Tryz.prog ops Q rest (a.put op.dst (.agg r.cs)) w) : wpList Tryz.prog ops Q (op :: rest) a w :=
  wpList_load_mid hgd 45 x ho b o hx r.cs.toList (.struct (Tryz.prog.fieldsOf 45)) hc underRec rfl (by rw [sizeR42 (x := ⟨r, []⟩) hr]; exact sizeR) h
/-- has(id): a function of one captured text. -/
def HasF (w : World) (v : Value) (s : ByteArray) : Prop := ∃ g, v = .func (.func 83) #[] #[ptr g] ∧ CAt w g #[.string s] 9
theorem HasF.below {w w' : World} {v : Value} {s : ByteArray} (h : HasF w v s) (hb : Below w.heap.size w w') : HasF w' v s := by
  obtain ⟨g, e, h⟩ := h; exact ⟨g, e, h.below hb⟩
theorem has_any (s : ByteArray) (w : World) : Calls Tryz.prog 45 #[.string s] w fun e w' => ∃ v, e = .returned v ∧ HasF w' v s ∧ Below w.heap.size w w' := by
  go_enter Tryz.func45, Tryz.ntmps45
  go_wp2
  go_ret
  exact ⟨_, rfl, ⟨_, rfl, CAt.made w _ _⟩, below_al w _⟩
theorem hasF_any (r : Rv) (hr : r.ok) (s : ByteArray) (g : Nat) (w : World) (h : CAt w g #[.string s] 9) : Calls Tryz.prog 83 #[.agg r.cs, ptr g] w fun e w' => e = .returned (.bool (decide (lst r.id = lst s))) ∧ Below w.heap.size w w' := by
  have HG := hid h
  clear h
  go_enter Tryz.func83, Tryz.ntmps83
  go_wp2_with ((with_reducible refine wpList_boxR rfl _ rfl r.cs ?_ ?_); exact rfl; intro w1 g1 hc1 hb1 hg1; have hbx := RBox.mk' hr hc1; have c0 := hbx.c0; have d0 := (HG.out.below hb1).cell 0; have HB := hid hb1; clear hbx hb1 hc1)
  go_ret
  refine ⟨?_, HB.out⟩
  rw [← lst_beq]; rfl
def plI (o : Option Nat) : Int := match o with | none => -1 | some i => (i : Int)
theorem atI_snoc_none {l : List Rc} {id : List Nat} {k : Nat} (h : ∀ j x, l[j]? = some x → j < k → x.id ≠ id) (hk : l.length ≤ k) : atI l id = none := by
  rw [atI_none]
  intro hm
  obtain ⟨x, hx, e⟩ := List.mem_map.1 hm
  obtain ⟨j, hj, e2⟩ := List.getElem_of_mem hx
  exact h j x (by rw [List.getElem?_eq_getElem hj, e2]) (by omega) e
theorem atI_hit : ∀ {l : List Rc} {id : List Nat} {k : Nat} {x : Rc}, (∀ j y, l[j]? = some y → j < k → y.id ≠ id) → l[k]? = some x → x.id = id → atI l id = some k
  | [], _, _, _, _, h, _ => by simp at h
  | r :: l, id, 0, x, _, h, e => by simp at h; subst h; simp [atI, e]
  | r :: l, id, k + 1, x, h0, h, e => by
    have h1 : r.id ≠ id := h0 0 r (by simp) (by omega)
    rw [atI, if_neg h1, atI_hit (l := l) (k := k) (x := x) (fun j y hy hj => h0 (j + 1) y (by simpa using hy) (by omega)) (by simpa using h) e]
    rfl
set_option maxRecDepth 100000 in
set_option maxHeartbeats 1000000 in
theorem index_any (v f : Value) (l : List Rp) (s : ByteArray) (w : World) (hl : RL w v l) (hf : HasF w f s) : Calls Tryz.prog 44 #[v, f] w fun e w' => e = .returned (i64 (plI (atI (rcs l) (lst s)))) ∧ Below w.heap.size w w' := by
  obtain ⟨gf, rfl, hgf⟩ := hf
  obtain ⟨po, c, rfl, hc1, hn, hz, hcell, heach⟩ := hl
  have HF := hid hgf
  have HE := hid heach
  have HC := hid hcell
  clear hgf heach hcell
  go_enter Tryz.func44, Tryz.ntmps44
  go_wp2
  go_loopg [5, 8] l.length (fun gg _ s8 wr => ∃ kk : Nat, kk ≤ l.length ∧ l.length - kk ≤ gg ∧ s8 = i64 kk ∧ Hid (Below w.heap.size w wr) ∧ Hid (∀ j x, l[j]? = some x → j < kk → lst x.r.id ≠ lst s))
  case atStart => exact ⟨0, Nat.zero_le _, by omega, rfl, Below.refl _ w, fun j x _ hj => absurd hj (Nat.not_lt_zero _)⟩
  case round =>
    obtain ⟨kk, hkk, hg, rfl, BW, A⟩ := hrel
    by_cases hlt : kk < l.length
    · have hltz : (kk : Int) < (l.length : Int) := by omega
      obtain ⟨x, hx⟩ : ∃ x, l[kk]? = some x := ⟨_, List.getElem?_eq_getElem hlt⟩
      have hxm := List.mem_of_getElem? hx
      obtain ⟨b, o, hpo, hcells⟩ : ∃ b o, po = some ⟨b, o, none⟩ ∧ RCells w b o l := by
        rcases HC.out with h | h
        · rw [h] at hlt; simp at hlt
        · exact h
      subst hpo
      have hcw : RCells wr b o l := hcells.keep fun a ha => World.cell?_of_block (BW.out.block a.block (cell_lt' ha))
      have HR := hid (hcw.range hx)
      have hok := (HE.out x hxm).ok
      have HX := hid hx
      have hcall := hasF_any x.r hok s gf wr (HF.out.below BW.out)
      have HCALL := hid hcall
      clear hcells hcw hx hxm hcall
      by_cases hq : lst x.r.id = lst s
      · rw [decide_eq_true hq] at HCALL
        go_wp2_with (first
          | ((with_reducible refine wpList_loadM rfl _ rfl b (o + kk * 42) ?_ x.r hok HR.out ?_); exact rfl)
          | (go_at_call 83; refine HCALL.out.mono ?_; rintro e w' ⟨rfl, hb'⟩))
        go_ret
        refine ⟨?_, below_on BW.out hb'⟩
        rw [atI_hit (k := kk) (x := x.rc) (fun j y hy hj => ?_) (by rw [rcs_get, HX.out]; rfl) hq]
        · rfl
        · rw [rcs_get] at hy
          obtain ⟨z, hz1, rfl⟩ := Option.map_eq_some_iff.1 hy
          exact A.out j z hz1 hj
      · rw [decide_eq_false hq] at HCALL
        go_wp2_with (first
          | ((with_reducible refine wpList_loadM rfl _ rfl b (o + kk * 42) ?_ x.r hok HR.out ?_); exact rfl)
          | (go_at_call 83; refine HCALL.out.mono ?_; rintro e w' ⟨rfl, hb'⟩))
        go_roundg (l.length - (kk + 1))
        case measure => omega
        case rel =>
          refine ⟨kk + 1, by omega, by omega, by go_num, below_on BW.out hb', (show Hid _ from fun j y hy hj => ?_)⟩
          by_cases e : j = kk
          · subst e
            rw [HX.out] at hy; cases hy; exact hq
          · exact A.out j y hy (by omega)
    · have hltz : ¬ (kk : Int) < (l.length : Int) := by omega
      go_wp2
      go_ret
      refine ⟨?_, BW.out⟩
      rw [atI_snoc_none (k := kk) (fun j y hy hj => ?_) (by rw [rcs_len]; omega)]
      · rfl
      · rw [rcs_get] at hy
        obtain ⟨z, hz1, rfl⟩ := Option.map_eq_some_iff.1 hy
        exact A.out j z hz1 hj
theorem place_any (v : Value) (l : List Rp) (s : ByteArray) (w : World) (hl : RL w v l) : Calls Tryz.prog 22 #[v, .string s] w fun e w' => e = .returned (i64 (plI (atI (rcs l) (lst s)))) ∧ Below w.heap.size w w' := by
  have HL := hid hl
  obtain ⟨po, c, rfl, _⟩ := hl
  go_enter Tryz.func22, Tryz.ntmps22
  go_wp2_with (first
    | (go_at_call 45; refine (has_any s w).mono ?_; rintro e w1 ⟨f, rfl, hf, hb1⟩; have HF := hid hf; have HB1 := hid hb1; obtain ⟨gf, hf2, _⟩ := hf; subst hf2; clear hb1)
    | (go_at_call 44; refine (index_any _ _ l s _ (HL.out.below HB1.out) HF.out).mono ?_; rintro e w2 ⟨rfl, hb2⟩))
  go_ret
  exact ⟨rfl, below_on HB1.out hb2⟩
#print axioms place_any
end Go.Proofs.YtcbmimjjpkkoeaaGreatDoor
