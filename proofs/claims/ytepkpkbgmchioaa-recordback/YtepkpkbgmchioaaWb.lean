/- Contract of parts of the reader of package record: the loop. -/
import Derived.Test.YtepkpkbgmchioaaWa
namespace Go.Proofs.Ytepkpkbgmchioaa
open Go Go.RowKit

/-- So many parts have been read; what is left of them. -/
def PAcc (n : Nat) (c : List Nat) (k : Nat) (qs : Ps) (st : Option (List Nat)) : Prop := qs.length = k ∧ match st with
  | none => rdPs n c = none
  | some d => rdPs n c = (rdPs (n - k) d).map fun q => (qs ++ q.1, q.2)
theorem PAcc.start (n : Nat) (c : List Nat) : PAcc n c 0 [] (some c) := ⟨rfl, by simp⟩
theorem rdPs_succ (n : Nat) (b : List Nat) : rdPs (n + 1) b = (rdU b).bind fun q => (rdU q.2).bind fun q2 => (rdPs n q2.2).bind fun q3 => some (((q.1 : Int), (q2.1 : Int)) :: q3.1, q3.2) := by
  rw [rdPs]; rfl
theorem PAcc.next {n k : Nat} {c d : List Nat} {qs : Ps} (h : PAcc n c k qs (some d)) (hk : k < n) {x y : Int} (hx : ∀ m r, rdU d = some (m, r) → x = m) (hy : ∀ m r, ((rdU d).map (·.2)).bind rdU = some (m, r) → y = m) :
    PAcc n c (k + 1) (qs ++ [(x, y)]) ((((rdU d).map (·.2)).bind rdU).map (·.2)) := by
  refine ⟨by simp [h.1], ?_⟩
  have h2 : rdPs n c = (rdPs (n - k) d).map fun q => (qs ++ q.1, q.2) := h.2
  rw [show n - k = (n - (k + 1)) + 1 by omega, rdPs_succ] at h2
  cases e1 : rdU d with
  | none => rw [e1] at h2; exact h2
  | some q =>
    obtain ⟨m1, d1⟩ := q
    rw [e1] at h2 hy
    simp only [Option.map_some, Option.bind_some] at h2 hy ⊢
    have hx' := hx m1 d1 e1
    cases e2 : rdU d1 with
    | none => rw [e2] at h2; exact h2
    | some q2 =>
      obtain ⟨m2, d2⟩ := q2
      rw [e2] at h2
      have hy' := hy m2 d2 e2
      simp only [Option.bind_some, Option.map_some] at h2 ⊢
      rw [h2, hx', hy']
      cases rdPs (n - (k + 1)) d2 with
      | none => rfl
      | some q3 => simp
theorem Rd.bind (s : Option (List Nat)) : (s.bind rdU).map (·.2) = s.bind fun L => (rdU L).map (·.2) := by cases s <;> rfl
set_option maxRecDepth 100000 in
set_option maxHeartbeats 2000000 in
theorem parts_ok (w : World) (p : Nat) (s : Option (List Nat)) (h : Rd w p s) (n : Nat) (c : List Nat) (hs : s.bind rdU = some (n, c)) (hn : n ≤ 32) : Calls Try.prog 69 #[ptr p] w (ParS w p s) := by
  have hnum := number_any w p s h
  have HP : Hid (rdP s = rdPs n c) := by have e := rdP_some hs; rw [if_neg (by omega)] at e; exact e
  have hp := h.lt
  have HS := hid hs
  have hn' : (n : Int) ≤ 32 := by omega
  clear h hs
  go_enter Try.func69, Try.ntmps69
  go_wp2_with (first
    | (go_at_call 41; refine hnum.mono ?_; rintro e w1 ⟨v, rfl, hr1, ho1, hv⟩; have hv2 := hv n c HS.out; subst hv2; rw [HS.out] at hr1; have HR1 := hid hr1; have HO1 := hid ho1; clear hr1 ho1 hv)
    | (go_at_call 59; refine (need_true _ p).mono ?_; rintro e w2 ⟨rfl, hw2⟩; have hw3 := hw2.symm; subst hw3))
  go_loopw [4] (fun pv wr => ∃ (k : Nat) (qs : Ps) (st : Option (List Nat)), k ≤ n ∧ PBuf w.heap.size wr pv qs ∧ Rd wr p st ∧ Only (fun b => b = p) w wr ∧ PAcc n c k qs st) (fun pv _ => n - (match pv with | .slice _ l _ => l | _ => 0))
  case atStart => exact ⟨0, [], some c, by omega, PBuf.nil _ _, HR1.out, HO1.out, PAcc.start n c⟩
  case round =>
    obtain ⟨k, qs, st, hk, hb, hr, ho, ha⟩ := hrel
    have HB := hid hb
    have HR := hid hr
    have HO := hid ho
    have HA := hid ha
    have hlen := ha.1
    obtain ⟨po, cc, hform, hcc⟩ := hb.form
    subst hform
    obtain ⟨po1, L1, k1, _⟩ := hr
    have c1 := k1.cell 1
    clear k1 hb ho HR1 HO1
    rw [hlen] at hcc ⊢
    by_cases hlt : k < n
    · have hlt' : (k : Int) < (n : Int) := by omega
      cases st with
      | none =>
        simp at c1
        have HN : Hid (rdPs n c = none) := ha.2
        clear ha
        go_wp2_with (go_at_call 66; refine (clipP_any po k cc hcc _).mono ?_; rintro e w2 ⟨rfl, hw2⟩; have hw3 := hw2.symm; subst hw3)
        go_ret
        have hpl := (HB.out.pl (by omega) k (by omega)).2
        rw [hlen] at hpl
        refine ⟨_, qs, rfl, hpl, by rw [HP.out, HN.out]; exact HR.out, HO.out, fun qs r h => by rw [HP.out, HN.out] at h; cases h⟩
      | some d =>
        simp at c1
        clear ha
        have HOW := hid (fun b (hb : (Value.slice po k cc).ownBlock = some b) => own_ge (by have := HB.out; rw [hlen] at this; exact this) b hb)
        go_wp2_with (first
          | (go_at_call 41; refine (number_any _ p _ HR2.out).mono ?_; rintro e w3 ⟨y, rfl, hr3, ho3, hy⟩; have HR3 := hid hr3; have HO3 := hid (HO2.out.trans ho3); have HY := hid hy; clear hr3 ho3 hy; have hkeep := HB.out.keep (w' := w3) (fun b hb => HO3.out.block b (own_ge HB.out b hb).2 (fun e => by have := (own_ge HB.out b hb).1; omega)); rw [hlen] at hkeep; obtain ⟨v4, w4, hrun, hpb, hgr⟩ := hkeep.push x y (by omega) (by have := HO.out.size; have := HO3.out.size; omega); have HRUN := hid hrun; have HPB := hid hpb; have HGR := hid hgr; clear hkeep hrun hpb hgr)
          | (go_at_call 41; refine (number_any _ p _ HR.out).mono ?_; rintro e w2 ⟨x, rfl, hr2, ho2, hx⟩; have HR2 := hid hr2; have HO2 := hid ho2; have HX := hid hx; clear hr2 ho2 hx)
          | (at_builtin; refine wpList_append_run _ _ 43 43 rfl rfl _ _ _ rfl rfl HRUN.out ?_))
        have hgo : Only (fun b => (Value.slice po k cc).ownBlock = some b) w3 w4 := (Only.alloc w3 _).trans (Only.of_grown HGR.out fun b e _ => e)
        have hT : ∀ i, i < w.heap.size → (Value.slice po k cc).ownBlock = some i → i = p := fun i hi e => by have := (HOW.out i e).1; omega
        have hlt4 : ∀ i, (Value.slice po k cc).ownBlock = some i → p < i := fun i e => by have := (HOW.out i e).1; omega
        obtain ⟨po4, c4, hf4, _⟩ := HPB.out.form
        refine ⟨⟨k + 1, qs ++ [(x, y)], _, by omega, HPB.out, HR3.out.only hgo hlt4, (HO.out.trans HO3.out).then hgo hT, ?_⟩, ?_⟩
        · exact HA.out.next hlt (fun m r h => HX.out m r h) (fun m r h => HY.out m r h)
        · rw [hf4]; simp [hlen]; omega
    · have hlt' : ¬ (k : Int) < (n : Int) := by omega
      have HK2 : Hid (k = n) := hid (by omega)
      go_wp2_with (go_at_call 66; refine (clipP_any po k cc hcc _).mono ?_; rintro e w2 ⟨rfl, hw2⟩; have hw3 := hw2.symm; subst hw3)
      go_ret
      have hpl := (HB.out.pl (by omega) k (by omega)).2
      rw [hlen] at hpl
      cases st with
      | none =>
        have HN : rdPs n c = none := HA.out.2
        exact ⟨_, qs, rfl, hpl, by rw [HP.out, HN]; exact HR.out, HO.out, fun qs r h => by rw [HP.out, HN] at h; cases h⟩
      | some d =>
        have HN : rdPs n c = (rdPs (n - k) d).map fun q => (qs ++ q.1, q.2) := HA.out.2
        rw [HK2.out, Nat.sub_self] at HN
        have HN2 : rdPs n c = some (qs, d) := by rw [HN]; simp [rdPs]
        exact ⟨_, qs, rfl, hpl, by rw [HP.out, HN2]; exact HR.out, HO.out, fun qs' r h => by rw [HP.out, HN2] at h; cases h; rfl⟩
theorem parts_any (w : World) (p : Nat) (s : Option (List Nat)) (h : Rd w p s) : Calls Try.prog 69 #[ptr p] w (ParS w p s) := by
  cases hs : s.bind rdU with
  | none => exact parts_bad w p s h fun n c e => by rw [hs] at e; cases e
  | some q =>
    obtain ⟨n, c⟩ := q
    by_cases hn : n ≤ 32
    · exact parts_ok w p s h n c hs hn
    · exact parts_bad w p s h fun n' c' e => by rw [hs] at e; cases e; omega
#print axioms parts_any
end Go.Proofs.Ytepkpkbgmchioaa
