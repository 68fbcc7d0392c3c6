/- RecordAgain. -/
import Derived.Test.YtepkpkbgmchioaaWk
import Derived.Test.YtepkpkbgmchioaaVo
namespace Go.Proofs.Ytepkpkbgmchioaa
open Go Go.RowKit

set_option maxRecDepth 100000 in
theorem again_big (a : Option Addr) (len cap : Nat) (w : World) (hl : 5000 < len) : Calls Try.prog 6 #[.slice a len cap] w fun e w' => e = .returned (.bool true) ∧ Below w.heap.size w w' := by
  have hl' : 5000 < (len : Int) := by omega
  go_enter Try.func6, Try.ntmps6
  go_wp2_with (go_at_call 32; refine (awake_any _).mono ?_; rintro e w1 ⟨rfl, hb1⟩)
  go_ret
  exact ⟨rfl, hb1⟩
set_option maxRecDepth 100000 in
set_option maxHeartbeats 400000 in
theorem again_bad (a : Option Addr) (cap : Nat) (bs : List Nat) (w : World) (hl : bs.length ≤ 5000) (h : BL w a bs) (hc : bs.length ≤ cap) (h8 : ∀ x ∈ bs, x < 256) (hq : rdR bs = none) : Calls Try.prog 6 #[.slice a bs.length cap] w fun e w' => e = .returned (.bool true) ∧ Below w.heap.size w w' := by
  have hl' : ¬ 5000 < (bs.length : Int) := by omega
  obtain ⟨Z, hZ⟩ : ∃ Z, zR = Z := ⟨_, rfl⟩
  have zok : Z.ok := hZ ▸ zR_ok
  have hone : Z.pv.oneCell' = true := hZ ▸ rfl
  have HRD := hid (fun W (hb : Below w.heap.size w W) => read_bad a cap bs W (h.below hb) hc (by omega) h8 hq)
  rw [hZ] at HRD
  clear h h8 hq hZ
  go_enter Try.func6, Try.ntmps6
  go_wp2_with (first
    | (go_at_call 32; refine (awake_any _).mono ?_; rintro e w1 ⟨rfl, hb1⟩; have HB1 := hid hb1; clear hb1)
    | (go_at_call 30; refine (HRD.out _ HB1.out).mono ?_; rintro e w2 ⟨rfl, hb2⟩; have HB2 := hid (below_on HB1.out hb2); clear hb2)
    | ((with_reducible refine wpList_allocR rfl rfl ?_); intro w3 g3 hz3 hb3 hg3; have HZ3 := hid hz3; have HB3 := hid hb3; clear hz3 hb3)
    | ((with_reducible refine wpList_storeR rfl rfl _ _ rfl g3 ?_ (r := Z) ?_ zR_ok zok hone HZ3.out ?_); exact rfl; exact rfl; intro w4 h4 o4; have HB4 := hid (below_on HB2.out (below_tr HB3.out (o4.below HB3.out.size (fun i e => by omega)))); clear h4 o4 HZ3 HB3))
  go_ret
  exact ⟨rfl, HB4.out⟩
set_option maxRecDepth 100000 in
set_option maxHeartbeats 400000 in
theorem again_ok (a : Option Addr) (cap : Nat) (bs : List Nat) (w : World) (hl : bs.length ≤ 5000) (h : BL w a bs) (hc : bs.length ≤ cap) (h8 : ∀ x ∈ bs, x < 256) (rc : Rc) (L : List Nat) (hq : rdR bs = some (rc, L)) : Calls Try.prog 6 #[.slice a bs.length cap] w fun e w' => e = .returned (.bool true) ∧ Below w.heap.size w w' := by
  have hl' : ¬ 5000 < (bs.length : Int) := by omega
  obtain ⟨q1, q2⟩ := rdR_some h8 hq
  have hX8 : (∀ z ∈ rcB rc, z < 256) ∧ ∀ z ∈ L, z < 256 := sub256 (q2 ▸ h8)
  obtain ⟨N, hN⟩ : ∃ N, N = (rcB rc).length := ⟨_, rfl⟩
  have hlen : bs.length = N + L.length := by rw [q2, List.length_append, hN]
  have hsub : IntKind.i64.wrap ((bs.length : Int) - (L.length : Int)) = (N : Int) := by rw [IntKind.wrap_i64]; omega
  have hN0 : (0 : Int) ≤ (N : Int) := by omega
  have hs1 := run_h8 a bs.length cap N (by omega)
  obtain ⟨p2, hs2, hd2⟩ := h.from8 cap N (by omega) hc
  have ed : bs.drop N = L := by rw [q2, hN, List.drop_left' rfl]
  have et : bs.take N = rcB rc := by rw [q2, hN, List.take_left' rfl]
  have HT : Hid (SL w (.slice a N cap) (rcB rc)) := hid ⟨a, cap, by rw [hN], et ▸ h.take N, by omega⟩
  rw [ed] at hd2
  have HD := hid hd2
  have HRD := hid (fun W (hb : Below w.heap.size w W) => read_ok a cap bs W (h.below hb) hc (by omega) h8 hq)
  have HX8 := hid hX8
  have HQ1 := hid q1
  have HN := hid (And.intro hN hlen)
  clear h h8 hq q1 q2 hX8 hN hlen hd2 ed et
  go_enter Try.func6, Try.ntmps6
  go_wp2_with (first
    | (go_at_call 32; refine (awake_any _).mono ?_; rintro e w1 ⟨rfl, hb1⟩; have HB1 := hid hb1; clear hb1)
    | (go_at_call 30; refine (HRD.out _ HB1.out).mono ?_; rintro e w2 ⟨r, ps, out, rfl, hok, hrc, hpl, hout, hb2⟩; have hone : r.pv.oneCell' = true := (by obtain ⟨_, _, _, e⟩ := hpl.form; rw [e]; rfl); have HOUT := hid hout.sl; obtain ⟨po, hpo, _⟩ := hout.form; subst hpo; have HPL := hid hpl.1; have HRC := hid hrc; have HB2 := hid (below_on HB1.out hb2); clear hb2 hpl hout hrc)
    | ((with_reducible refine wpList_allocR rfl rfl ?_); intro w3 g3 hz3 hb3 hg3; have HZ3 := hid hz3; have HB3 := hid hb3; clear hz3 hb3)
    | ((with_reducible refine wpList_storeR rfl rfl _ _ rfl g3 ?_ (r := r) ?_ zR_ok hok hone HZ3.out ?_); exact rfl; exact rfl; intro w4 h4 o4; have hb34 := below_tr HB3.out (o4.below HB3.out.size (fun i e => by omega)); have HB4 := hid (below_on HB2.out hb34); have HRB := hid h4; replace HPL := hid (HPL.out.below hb34); replace HOUT := hid (HOUT.out.below hb34); clear h4 o4 HZ3 HB3 hb34)
    | ((with_reducible refine wpList_load_at 45 _ rfl ?_ g3 0 ?_ r.cs (.struct (Try.prog.fieldsOf 45)) ?_ underRec rfl ?_ ?_); exact rfl; exact rfl; exact HRB.out.whole; (rw [hok.size]; exact sizeR))
    | (go_at_call 24; refine (bytes_ok r hok ps _ HPL.out (by rw [HRC.out]; exact HQ1.out)).mono ?_; rintro e w5 ⟨v5, rfl, ho5, hb5⟩; rw [HRC.out] at ho5; have HV5 := hid ho5.sl; have HB5 := hid (below_on HB4.out hb5); replace HOUT := hid (HOUT.out.below hb5); clear ho5 hb5)
    | (go_at_call 11; (with_reducible refine (sameB_true (x := rcB rc) HV5.out (HT.out.below HB5.out) HX8.out.1).mono ?_); rintro e w6 ⟨rfl, hw6⟩; have hw7 := hw6.symm; subst hw7; clear hw6)
    | (go_at_call 11; (with_reducible refine (sameB_true (x := L) HOUT.out (HD.out.below HB5.out) HX8.out.2).mono ?_); rintro e w6 ⟨rfl, hw6⟩; have hw7 := hw6.symm; subst hw7; clear hw6))
  go_ret
  exact ⟨rfl, HB5.out⟩
theorem again_all (a : Option Addr) (len cap : Nat) (w : World) (h : IsB w a len cap) : Calls Try.prog 6 #[.slice a len cap] w fun e w' => e = .returned (.bool true) ∧ Below w.heap.size w w' := by
  obtain ⟨bs, rfl, hcap, hbl, h8, _⟩ := h
  by_cases hl : 5000 < bs.length
  · exact again_big a _ cap w hl
  cases hq : rdR bs with
  | none => exact again_bad a cap bs w (by omega) hbl hcap h8 hq
  | some q => exact again_ok a cap bs w (by omega) hbl hcap h8 q.1 q.2 hq
#print axioms again_all
end Go.Proofs.Ytepkpkbgmchioaa
