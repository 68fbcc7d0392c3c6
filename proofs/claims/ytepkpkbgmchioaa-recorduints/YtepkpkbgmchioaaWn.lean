/- RecordUints: the walks. -/
import Derived.Test.YtepkpkbgmchioaaWm
namespace Go.Proofs.Ytepkpkbgmchioaa
open Go Go.RowKit

set_option maxRecDepth 100000 in
set_option maxHeartbeats 400000 in
theorem uints_bad_none (n : Int) (a : Option Addr) (cap : Nat) (bs : List Nat) (w : World) (hn : n < 0 ∨ 1099511627776 < n) (hl : bs.length ≤ 20) (h : BL w a bs) (hc : bs.length ≤ cap) (h8 : ∀ x ∈ bs, x < 256) (hq : rdU bs = none) : Calls Try.prog 7 #[i64 n, .slice a bs.length cap] w fun e w' => e = .returned (.bool true) ∧ Below w.heap.size w w' := by
  have hl' : ¬ 20 < (bs.length : Int) := by omega
  have HUB := hid (fun W => uint_bad n W hn)
  have HRD := hid (fun W (hb : Below w.heap.size w W) => readUint_bad a cap bs W (h.below hb) hc (by omega) h8 hq)
  clear h h8 hq hn
  go_enter Try.func7, Try.ntmps7
  go_wp2_with (first
    | (go_at_call 32; refine (awake_any _).mono ?_; rintro e w1 ⟨rfl, hb1⟩; have HB1 := hid hb1; clear hb1)
    | (go_at_call 9; (with_reducible refine (HUB.out _).mono ?_); rintro e w2 ⟨rfl, hw2⟩; have hw3 := hw2.symm; subst hw3; clear hw2)
    | (go_at_call 15; (with_reducible refine (HRD.out _ HB1.out).mono ?_); rintro e w8 ⟨rfl, hb8⟩; have HB8 := hid (below_on HB1.out hb8); clear hb8))
  go_ret
  exact ⟨rfl, HB8.out⟩
set_option maxRecDepth 100000 in
set_option maxHeartbeats 400000 in
theorem uints_bad_some (n : Int) (a : Option Addr) (cap : Nat) (bs : List Nat) (w : World) (hn : n < 0 ∨ 1099511627776 < n) (hl : bs.length ≤ 20) (h : BL w a bs) (hc : bs.length ≤ cap) (h8 : ∀ x ∈ bs, x < 256) (m : Nat) (L : List Nat) (hq : rdU bs = some (m, L)) : Calls Try.prog 7 #[i64 n, .slice a bs.length cap] w fun e w' => e = .returned (.bool true) ∧ Below w.heap.size w w' := by
  have hl' : ¬ 20 < (bs.length : Int) := by omega
  have HUB := hid (fun W => uint_bad n W hn)
  obtain ⟨q2, q1⟩ := rdU_some h8 hq
  have hX8 : (∀ z ∈ nb m, z < 256) ∧ ∀ z ∈ L, z < 256 := sub256 (q2 ▸ h8)
  obtain ⟨N, hN⟩ : ∃ N, N = (nb m).length := ⟨_, rfl⟩
  have hlen : bs.length = N + L.length := by rw [q2, List.length_append, hN]
  have hsub : IntKind.i64.wrap ((bs.length : Int) - (L.length : Int)) = (N : Int) := by rw [IntKind.wrap_i64]; omega
  have hs1 := run_h8 a bs.length cap N (by omega)
  have et : bs.take N = nb m := by rw [q2, hN, List.take_left' rfl]
  have HT : Hid (SL w (.slice a N cap) (nb m)) := hid ⟨a, cap, by rw [hN], et ▸ h.take N, by omega⟩
  have HX8 := hid hX8
  have HU := hid (fun W => uint_ok m W q1)
  have HRD := hid (fun W (hb : Below w.heap.size w W) => readUint_ok a cap bs W (h.below hb) hc (by omega) h8 hq)
  clear q1 q2 hX8 hN hlen et
  clear h h8 hq hn
  go_enter Try.func7, Try.ntmps7
  go_wp2_with (first
    | (go_at_call 32; refine (awake_any _).mono ?_; rintro e w1 ⟨rfl, hb1⟩; have HB1 := hid hb1; clear hb1)
    | (go_at_call 9; (with_reducible refine (HUB.out _).mono ?_); rintro e w2 ⟨rfl, hw2⟩; have hw3 := hw2.symm; subst hw3; clear hw2)
    | (go_at_call 15; (with_reducible refine (HRD.out _ HB1.out).mono ?_); rintro e w8 ⟨out, rfl, hout, hb8⟩; have HB8 := hid (below_on HB1.out hb8); obtain ⟨po8, hpo8, _⟩ := hout.form; subst hpo8; clear hb8 hout)
    | (go_at_call 9; (with_reducible refine (HU.out _).mono ?_); rintro e w9 ⟨v9, rfl, ho9, hb9⟩; have HV9 := hid ho9.sl; have HB9 := hid (below_on HB8.out hb9); clear ho9 hb9)
    | (go_at_call 11; (with_reducible refine (sameB_true (x := nb m) HV9.out (HT.out.below HB9.out) HX8.out.1).mono ?_); rintro e w10 ⟨rfl, hw10⟩; have hw11 := hw10.symm; subst hw11; clear hw10))
  go_ret
  exact ⟨rfl, HB9.out⟩
set_option maxRecDepth 100000 in
set_option maxHeartbeats 400000 in
theorem uints_ok1_none (k : Nat) (a : Option Addr) (cap : Nat) (bs : List Nat) (w : World) (hk : k ≤ 1099511627776) (hk3 : (nb k).length = 1) (hl : bs.length ≤ 20) (h : BL w a bs) (hc : bs.length ≤ cap) (hn0 : a = none → cap = 0) (h8 : ∀ x ∈ bs, x < 256) (hq : rdU bs = none) : Calls Try.prog 7 #[i64 k, .slice a bs.length cap] w fun e w' => e = .returned (.bool true) ∧ Below w.heap.size w w' := by
  have hl' : ¬ 20 < (bs.length : Int) := by omega
  have HUK := hid (fun W => uint_ok k W hk)
  have H := hid h
  have HSL : Hid (SL w (.slice a bs.length cap) bs) := hid ⟨a, cap, rfl, h, hc⟩
  have H8 := hid h8
  have HN0 := hid hn0
  have HK3 := hid hk3
  obtain ⟨M, hM⟩ : ∃ M, nb k ++ bs = M := ⟨_, rfl⟩
  have HRK : Hid (rdU M = some (k, bs)) := hid (hM ▸ rdU_nb bs hk)
  have HM8 : Hid (∀ z ∈ M, z < 256) := hid (hM ▸ all256 (nb_byte k) h8)
  have HML : Hid (M.length ≤ 100000) := hid (by rw [← hM, List.length_append, hk3]; omega)
  have HM := hid hM
  clear hM
  have hsp := nb_span k
  rw [hk3] at hsp
  have hlt : k < 128 := hsp.2
  have hs3 : (k : Int) / 128 = 0 := by omega
  have hs3b : ((k : Int) / 128 != 0) = false := by simp [hs3]
  clear hsp hlt
  have HRD := hid (fun W (hb : Below w.heap.size w W) => readUint_bad a cap bs W (h.below hb) hc (by omega) h8 hq)
  clear h h8 hq hn0 hk3
  go_enter Try.func7, Try.ntmps7
  go_wp2_with (first
    | (go_at_call 32; refine (awake_any _).mono ?_; rintro e w1 ⟨rfl, hb1⟩; have HB1 := hid hb1; clear hb1)
    | (go_at_call 9; (with_reducible refine (HUK.out _).mono ?_); rintro e w2 ⟨v2, rfl, ho2, hb2⟩; have HB2 := hid (below_on HB1.out hb2); have HV2 := hid ho2; obtain ⟨po2, hpo2, _, hpn2⟩ := ho2.form; subst hpo2; rw [HK3.out] at HV2 hpn2 ⊢; have HPN := hid hpn2; clear hb2 ho2 HUK HB1 hpn2)
    | (go_at_call 33; (with_reducible refine (copyB_any (x := nb k) HV2.out.sl ?_ ?_).mono ?_); (rw [HK3.out]; decide); (intro n c e; cases e; exact HPN.out rfl); rintro e w3 ⟨v3, rfl, hb3, hw3⟩; have HB3 := hid (below_on HB2.out hw3); obtain ⟨v4, w4, hrun, hb4, hg4⟩ := hb3.app a cap bs (H.out.below HB3.out) HN0.out (by rw [HK3.out]; omega) hw3.size; have HRUN := hid hrun; have HB4 := hid (below_on HB2.out (below_grown hw3 hg4 (Nat.le_refl _) (fun b hb => (own_ge hb3 b hb).1))); rw [HM.out] at hb4; obtain ⟨po4, c4, hv4, hbl4, hc4⟩ := hb4.sl; subst hv4; have HBL4 := hid hbl4; have HC4 := hid hc4; clear hb3 hw3 hrun hb4 hg4 hbl4 hc4)
    | (at_builtin; refine wpList_append_run _ _ 22 22 rfl rfl _ _ _ rfl rfl HRUN.out ?_)
    | (go_at_call 15; (with_reducible refine (readUint_ok po4 c4 M w4 HBL4.out HC4.out HML.out HM8.out HRK.out).mono ?_); rintro e w5 ⟨out5, rfl, hout5, hb5⟩; have HB5 := hid (below_on HB4.out hb5); have HO5 := hid hout5.sl; clear hb5 hout5 HRUN HB4 HBL4 HC4)
    | (go_at_call 11; (with_reducible refine (sameB_true (x := bs) HO5.out (HSL.out.below HB5.out) H8.out).mono ?_); rintro e w6 ⟨rfl, hw6⟩; have hw7 := hw6.symm; subst hw7; clear hw6 HO5)
    | (go_at_call 15; (with_reducible refine (HRD.out _ HB5.out).mono ?_); rintro e w8 ⟨rfl, hb8⟩; have HB8 := hid (below_on HB5.out hb8); clear hb8))
  go_ret
  exact ⟨rfl, HB8.out⟩
set_option maxRecDepth 100000 in
set_option maxHeartbeats 400000 in
theorem uints_ok1_some (k : Nat) (a : Option Addr) (cap : Nat) (bs : List Nat) (w : World) (hk : k ≤ 1099511627776) (hk3 : (nb k).length = 1) (hl : bs.length ≤ 20) (h : BL w a bs) (hc : bs.length ≤ cap) (hn0 : a = none → cap = 0) (h8 : ∀ x ∈ bs, x < 256) (m : Nat) (L : List Nat) (hq : rdU bs = some (m, L)) : Calls Try.prog 7 #[i64 k, .slice a bs.length cap] w fun e w' => e = .returned (.bool true) ∧ Below w.heap.size w w' := by
  have hl' : ¬ 20 < (bs.length : Int) := by omega
  have HUK := hid (fun W => uint_ok k W hk)
  have H := hid h
  have HSL : Hid (SL w (.slice a bs.length cap) bs) := hid ⟨a, cap, rfl, h, hc⟩
  have H8 := hid h8
  have HN0 := hid hn0
  have HK3 := hid hk3
  obtain ⟨M, hM⟩ : ∃ M, nb k ++ bs = M := ⟨_, rfl⟩
  have HRK : Hid (rdU M = some (k, bs)) := hid (hM ▸ rdU_nb bs hk)
  have HM8 : Hid (∀ z ∈ M, z < 256) := hid (hM ▸ all256 (nb_byte k) h8)
  have HML : Hid (M.length ≤ 100000) := hid (by rw [← hM, List.length_append, hk3]; omega)
  have HM := hid hM
  clear hM
  have hsp := nb_span k
  rw [hk3] at hsp
  have hlt : k < 128 := hsp.2
  have hs3 : (k : Int) / 128 = 0 := by omega
  have hs3b : ((k : Int) / 128 != 0) = false := by simp [hs3]
  clear hsp hlt
  obtain ⟨q2, q1⟩ := rdU_some h8 hq
  have hX8 : (∀ z ∈ nb m, z < 256) ∧ ∀ z ∈ L, z < 256 := sub256 (q2 ▸ h8)
  obtain ⟨N, hN⟩ : ∃ N, N = (nb m).length := ⟨_, rfl⟩
  have hlen : bs.length = N + L.length := by rw [q2, List.length_append, hN]
  have hsub : IntKind.i64.wrap ((bs.length : Int) - (L.length : Int)) = (N : Int) := by rw [IntKind.wrap_i64]; omega
  have hs1 := run_h8 a bs.length cap N (by omega)
  have et : bs.take N = nb m := by rw [q2, hN, List.take_left' rfl]
  have HT : Hid (SL w (.slice a N cap) (nb m)) := hid ⟨a, cap, by rw [hN], et ▸ h.take N, by omega⟩
  have HX8 := hid hX8
  have HU := hid (fun W => uint_ok m W q1)
  have HRD := hid (fun W (hb : Below w.heap.size w W) => readUint_ok a cap bs W (h.below hb) hc (by omega) h8 hq)
  clear q1 q2 hX8 hN hlen et
  clear h h8 hq hn0 hk3
  go_enter Try.func7, Try.ntmps7
  go_wp2_with (first
    | (go_at_call 32; refine (awake_any _).mono ?_; rintro e w1 ⟨rfl, hb1⟩; have HB1 := hid hb1; clear hb1)
    | (go_at_call 9; (with_reducible refine (HUK.out _).mono ?_); rintro e w2 ⟨v2, rfl, ho2, hb2⟩; have HB2 := hid (below_on HB1.out hb2); have HV2 := hid ho2; obtain ⟨po2, hpo2, _, hpn2⟩ := ho2.form; subst hpo2; rw [HK3.out] at HV2 hpn2 ⊢; have HPN := hid hpn2; clear hb2 ho2 HUK HB1 hpn2)
    | (go_at_call 33; (with_reducible refine (copyB_any (x := nb k) HV2.out.sl ?_ ?_).mono ?_); (rw [HK3.out]; decide); (intro n c e; cases e; exact HPN.out rfl); rintro e w3 ⟨v3, rfl, hb3, hw3⟩; have HB3 := hid (below_on HB2.out hw3); obtain ⟨v4, w4, hrun, hb4, hg4⟩ := hb3.app a cap bs (H.out.below HB3.out) HN0.out (by rw [HK3.out]; omega) hw3.size; have HRUN := hid hrun; have HB4 := hid (below_on HB2.out (below_grown hw3 hg4 (Nat.le_refl _) (fun b hb => (own_ge hb3 b hb).1))); rw [HM.out] at hb4; obtain ⟨po4, c4, hv4, hbl4, hc4⟩ := hb4.sl; subst hv4; have HBL4 := hid hbl4; have HC4 := hid hc4; clear hb3 hw3 hrun hb4 hg4 hbl4 hc4)
    | (at_builtin; refine wpList_append_run _ _ 22 22 rfl rfl _ _ _ rfl rfl HRUN.out ?_)
    | (go_at_call 15; (with_reducible refine (readUint_ok po4 c4 M w4 HBL4.out HC4.out HML.out HM8.out HRK.out).mono ?_); rintro e w5 ⟨out5, rfl, hout5, hb5⟩; have HB5 := hid (below_on HB4.out hb5); have HO5 := hid hout5.sl; clear hb5 hout5 HRUN HB4 HBL4 HC4)
    | (go_at_call 11; (with_reducible refine (sameB_true (x := bs) HO5.out (HSL.out.below HB5.out) H8.out).mono ?_); rintro e w6 ⟨rfl, hw6⟩; have hw7 := hw6.symm; subst hw7; clear hw6 HO5)
    | (go_at_call 15; (with_reducible refine (HRD.out _ HB5.out).mono ?_); rintro e w8 ⟨out, rfl, hout, hb8⟩; have HB8 := hid (below_on HB5.out hb8); obtain ⟨po8, hpo8, _⟩ := hout.form; subst hpo8; clear hb8 hout)
    | (go_at_call 9; (with_reducible refine (HU.out _).mono ?_); rintro e w9 ⟨v9, rfl, ho9, hb9⟩; have HV9 := hid ho9.sl; have HB9 := hid (below_on HB8.out hb9); clear ho9 hb9)
    | (go_at_call 11; (with_reducible refine (sameB_true (x := nb m) HV9.out (HT.out.below HB9.out) HX8.out.1).mono ?_); rintro e w10 ⟨rfl, hw10⟩; have hw11 := hw10.symm; subst hw11; clear hw10))
  go_ret
  exact ⟨rfl, HB9.out⟩
set_option maxRecDepth 100000 in
set_option maxHeartbeats 400000 in
theorem uints_ok2_none (k : Nat) (a : Option Addr) (cap : Nat) (bs : List Nat) (w : World) (hk : k ≤ 1099511627776) (hk3 : (nb k).length = 2) (hl : bs.length ≤ 20) (h : BL w a bs) (hc : bs.length ≤ cap) (hn0 : a = none → cap = 0) (h8 : ∀ x ∈ bs, x < 256) (hq : rdU bs = none) : Calls Try.prog 7 #[i64 k, .slice a bs.length cap] w fun e w' => e = .returned (.bool true) ∧ Below w.heap.size w w' := by
  have hl' : ¬ 20 < (bs.length : Int) := by omega
  have HUK := hid (fun W => uint_ok k W hk)
  have H := hid h
  have HSL : Hid (SL w (.slice a bs.length cap) bs) := hid ⟨a, cap, rfl, h, hc⟩
  have H8 := hid h8
  have HN0 := hid hn0
  have HK3 := hid hk3
  obtain ⟨M, hM⟩ : ∃ M, nb k ++ bs = M := ⟨_, rfl⟩
  have HRK : Hid (rdU M = some (k, bs)) := hid (hM ▸ rdU_nb bs hk)
  have HM8 : Hid (∀ z ∈ M, z < 256) := hid (hM ▸ all256 (nb_byte k) h8)
  have HML : Hid (M.length ≤ 100000) := hid (by rw [← hM, List.length_append, hk3]; omega)
  have HM := hid hM
  clear hM
  have hsp := nb_span k
  rw [hk3] at hsp
  have hge : 128 ≤ k := hsp.1 (by decide)
  have hs2 : ¬ (k : Int) / 128 = 0 := by omega
  have hs2b : ((k : Int) / 128 == 0) = false := by simpa using hs2
  have hlt : k < 16384 := hsp.2
  have hs3 : (k : Int) / 16384 = 0 := by omega
  have hs3b : ((k : Int) / 16384 != 0) = false := by simp [hs3]
  clear hsp hlt hge
  have HRD := hid (fun W (hb : Below w.heap.size w W) => readUint_bad a cap bs W (h.below hb) hc (by omega) h8 hq)
  clear h h8 hq hn0 hk3
  go_enter Try.func7, Try.ntmps7
  go_wp2_with (first
    | (go_at_call 32; refine (awake_any _).mono ?_; rintro e w1 ⟨rfl, hb1⟩; have HB1 := hid hb1; clear hb1)
    | (go_at_call 9; (with_reducible refine (HUK.out _).mono ?_); rintro e w2 ⟨v2, rfl, ho2, hb2⟩; have HB2 := hid (below_on HB1.out hb2); have HV2 := hid ho2; obtain ⟨po2, hpo2, _, hpn2⟩ := ho2.form; subst hpo2; rw [HK3.out] at HV2 hpn2 ⊢; have HPN := hid hpn2; clear hb2 ho2 HUK HB1 hpn2)
    | (go_at_call 33; (with_reducible refine (copyB_any (x := nb k) HV2.out.sl ?_ ?_).mono ?_); (rw [HK3.out]; decide); (intro n c e; cases e; exact HPN.out rfl); rintro e w3 ⟨v3, rfl, hb3, hw3⟩; have HB3 := hid (below_on HB2.out hw3); obtain ⟨v4, w4, hrun, hb4, hg4⟩ := hb3.app a cap bs (H.out.below HB3.out) HN0.out (by rw [HK3.out]; omega) hw3.size; have HRUN := hid hrun; have HB4 := hid (below_on HB2.out (below_grown hw3 hg4 (Nat.le_refl _) (fun b hb => (own_ge hb3 b hb).1))); rw [HM.out] at hb4; obtain ⟨po4, c4, hv4, hbl4, hc4⟩ := hb4.sl; subst hv4; have HBL4 := hid hbl4; have HC4 := hid hc4; clear hb3 hw3 hrun hb4 hg4 hbl4 hc4)
    | (at_builtin; refine wpList_append_run _ _ 22 22 rfl rfl _ _ _ rfl rfl HRUN.out ?_)
    | (go_at_call 15; (with_reducible refine (readUint_ok po4 c4 M w4 HBL4.out HC4.out HML.out HM8.out HRK.out).mono ?_); rintro e w5 ⟨out5, rfl, hout5, hb5⟩; have HB5 := hid (below_on HB4.out hb5); have HO5 := hid hout5.sl; clear hb5 hout5 HRUN HB4 HBL4 HC4)
    | (go_at_call 11; (with_reducible refine (sameB_true (x := bs) HO5.out (HSL.out.below HB5.out) H8.out).mono ?_); rintro e w6 ⟨rfl, hw6⟩; have hw7 := hw6.symm; subst hw7; clear hw6 HO5)
    | (go_at_call 15; (with_reducible refine (HRD.out _ HB5.out).mono ?_); rintro e w8 ⟨rfl, hb8⟩; have HB8 := hid (below_on HB5.out hb8); clear hb8))
  go_ret
  exact ⟨rfl, HB8.out⟩
set_option maxRecDepth 100000 in
set_option maxHeartbeats 400000 in
theorem uints_ok2_some (k : Nat) (a : Option Addr) (cap : Nat) (bs : List Nat) (w : World) (hk : k ≤ 1099511627776) (hk3 : (nb k).length = 2) (hl : bs.length ≤ 20) (h : BL w a bs) (hc : bs.length ≤ cap) (hn0 : a = none → cap = 0) (h8 : ∀ x ∈ bs, x < 256) (m : Nat) (L : List Nat) (hq : rdU bs = some (m, L)) : Calls Try.prog 7 #[i64 k, .slice a bs.length cap] w fun e w' => e = .returned (.bool true) ∧ Below w.heap.size w w' := by
  have hl' : ¬ 20 < (bs.length : Int) := by omega
  have HUK := hid (fun W => uint_ok k W hk)
  have H := hid h
  have HSL : Hid (SL w (.slice a bs.length cap) bs) := hid ⟨a, cap, rfl, h, hc⟩
  have H8 := hid h8
  have HN0 := hid hn0
  have HK3 := hid hk3
  obtain ⟨M, hM⟩ : ∃ M, nb k ++ bs = M := ⟨_, rfl⟩
  have HRK : Hid (rdU M = some (k, bs)) := hid (hM ▸ rdU_nb bs hk)
  have HM8 : Hid (∀ z ∈ M, z < 256) := hid (hM ▸ all256 (nb_byte k) h8)
  have HML : Hid (M.length ≤ 100000) := hid (by rw [← hM, List.length_append, hk3]; omega)
  have HM := hid hM
  clear hM
  have hsp := nb_span k
  rw [hk3] at hsp
  have hge : 128 ≤ k := hsp.1 (by decide)
  have hs2 : ¬ (k : Int) / 128 = 0 := by omega
  have hs2b : ((k : Int) / 128 == 0) = false := by simpa using hs2
  have hlt : k < 16384 := hsp.2
  have hs3 : (k : Int) / 16384 = 0 := by omega
  have hs3b : ((k : Int) / 16384 != 0) = false := by simp [hs3]
  clear hsp hlt hge
  obtain ⟨q2, q1⟩ := rdU_some h8 hq
  have hX8 : (∀ z ∈ nb m, z < 256) ∧ ∀ z ∈ L, z < 256 := sub256 (q2 ▸ h8)
  obtain ⟨N, hN⟩ : ∃ N, N = (nb m).length := ⟨_, rfl⟩
  have hlen : bs.length = N + L.length := by rw [q2, List.length_append, hN]
  have hsub : IntKind.i64.wrap ((bs.length : Int) - (L.length : Int)) = (N : Int) := by rw [IntKind.wrap_i64]; omega
  have hs1 := run_h8 a bs.length cap N (by omega)
  have et : bs.take N = nb m := by rw [q2, hN, List.take_left' rfl]
  have HT : Hid (SL w (.slice a N cap) (nb m)) := hid ⟨a, cap, by rw [hN], et ▸ h.take N, by omega⟩
  have HX8 := hid hX8
  have HU := hid (fun W => uint_ok m W q1)
  have HRD := hid (fun W (hb : Below w.heap.size w W) => readUint_ok a cap bs W (h.below hb) hc (by omega) h8 hq)
  clear q1 q2 hX8 hN hlen et
  clear h h8 hq hn0 hk3
  go_enter Try.func7, Try.ntmps7
  go_wp2_with (first
    | (go_at_call 32; refine (awake_any _).mono ?_; rintro e w1 ⟨rfl, hb1⟩; have HB1 := hid hb1; clear hb1)
    | (go_at_call 9; (with_reducible refine (HUK.out _).mono ?_); rintro e w2 ⟨v2, rfl, ho2, hb2⟩; have HB2 := hid (below_on HB1.out hb2); have HV2 := hid ho2; obtain ⟨po2, hpo2, _, hpn2⟩ := ho2.form; subst hpo2; rw [HK3.out] at HV2 hpn2 ⊢; have HPN := hid hpn2; clear hb2 ho2 HUK HB1 hpn2)
    | (go_at_call 33; (with_reducible refine (copyB_any (x := nb k) HV2.out.sl ?_ ?_).mono ?_); (rw [HK3.out]; decide); (intro n c e; cases e; exact HPN.out rfl); rintro e w3 ⟨v3, rfl, hb3, hw3⟩; have HB3 := hid (below_on HB2.out hw3); obtain ⟨v4, w4, hrun, hb4, hg4⟩ := hb3.app a cap bs (H.out.below HB3.out) HN0.out (by rw [HK3.out]; omega) hw3.size; have HRUN := hid hrun; have HB4 := hid (below_on HB2.out (below_grown hw3 hg4 (Nat.le_refl _) (fun b hb => (own_ge hb3 b hb).1))); rw [HM.out] at hb4; obtain ⟨po4, c4, hv4, hbl4, hc4⟩ := hb4.sl; subst hv4; have HBL4 := hid hbl4; have HC4 := hid hc4; clear hb3 hw3 hrun hb4 hg4 hbl4 hc4)
    | (at_builtin; refine wpList_append_run _ _ 22 22 rfl rfl _ _ _ rfl rfl HRUN.out ?_)
    | (go_at_call 15; (with_reducible refine (readUint_ok po4 c4 M w4 HBL4.out HC4.out HML.out HM8.out HRK.out).mono ?_); rintro e w5 ⟨out5, rfl, hout5, hb5⟩; have HB5 := hid (below_on HB4.out hb5); have HO5 := hid hout5.sl; clear hb5 hout5 HRUN HB4 HBL4 HC4)
    | (go_at_call 11; (with_reducible refine (sameB_true (x := bs) HO5.out (HSL.out.below HB5.out) H8.out).mono ?_); rintro e w6 ⟨rfl, hw6⟩; have hw7 := hw6.symm; subst hw7; clear hw6 HO5)
    | (go_at_call 15; (with_reducible refine (HRD.out _ HB5.out).mono ?_); rintro e w8 ⟨out, rfl, hout, hb8⟩; have HB8 := hid (below_on HB5.out hb8); obtain ⟨po8, hpo8, _⟩ := hout.form; subst hpo8; clear hb8 hout)
    | (go_at_call 9; (with_reducible refine (HU.out _).mono ?_); rintro e w9 ⟨v9, rfl, ho9, hb9⟩; have HV9 := hid ho9.sl; have HB9 := hid (below_on HB8.out hb9); clear ho9 hb9)
    | (go_at_call 11; (with_reducible refine (sameB_true (x := nb m) HV9.out (HT.out.below HB9.out) HX8.out.1).mono ?_); rintro e w10 ⟨rfl, hw10⟩; have hw11 := hw10.symm; subst hw11; clear hw10))
  go_ret
  exact ⟨rfl, HB9.out⟩
set_option maxRecDepth 100000 in
set_option maxHeartbeats 400000 in
theorem uints_ok3_none (k : Nat) (a : Option Addr) (cap : Nat) (bs : List Nat) (w : World) (hk : k ≤ 1099511627776) (hk3 : (nb k).length = 3) (hl : bs.length ≤ 20) (h : BL w a bs) (hc : bs.length ≤ cap) (hn0 : a = none → cap = 0) (h8 : ∀ x ∈ bs, x < 256) (hq : rdU bs = none) : Calls Try.prog 7 #[i64 k, .slice a bs.length cap] w fun e w' => e = .returned (.bool true) ∧ Below w.heap.size w w' := by
  have hl' : ¬ 20 < (bs.length : Int) := by omega
  have HUK := hid (fun W => uint_ok k W hk)
  have H := hid h
  have HSL : Hid (SL w (.slice a bs.length cap) bs) := hid ⟨a, cap, rfl, h, hc⟩
  have H8 := hid h8
  have HN0 := hid hn0
  have HK3 := hid hk3
  obtain ⟨M, hM⟩ : ∃ M, nb k ++ bs = M := ⟨_, rfl⟩
  have HRK : Hid (rdU M = some (k, bs)) := hid (hM ▸ rdU_nb bs hk)
  have HM8 : Hid (∀ z ∈ M, z < 256) := hid (hM ▸ all256 (nb_byte k) h8)
  have HML : Hid (M.length ≤ 100000) := hid (by rw [← hM, List.length_append, hk3]; omega)
  have HM := hid hM
  clear hM
  have hsp := nb_span k
  rw [hk3] at hsp
  have hge : 16384 ≤ k := hsp.1 (by decide)
  have hs2 : ¬ (k : Int) / 16384 = 0 := by omega
  have hs2b : ((k : Int) / 16384 == 0) = false := by simpa using hs2
  have hlt : k < 2097152 := hsp.2
  have hs3 : (k : Int) / 2097152 = 0 := by omega
  have hs3b : ((k : Int) / 2097152 != 0) = false := by simp [hs3]
  clear hsp hlt hge
  have HRD := hid (fun W (hb : Below w.heap.size w W) => readUint_bad a cap bs W (h.below hb) hc (by omega) h8 hq)
  clear h h8 hq hn0 hk3
  go_enter Try.func7, Try.ntmps7
  go_wp2_with (first
    | (go_at_call 32; refine (awake_any _).mono ?_; rintro e w1 ⟨rfl, hb1⟩; have HB1 := hid hb1; clear hb1)
    | (go_at_call 9; (with_reducible refine (HUK.out _).mono ?_); rintro e w2 ⟨v2, rfl, ho2, hb2⟩; have HB2 := hid (below_on HB1.out hb2); have HV2 := hid ho2; obtain ⟨po2, hpo2, _, hpn2⟩ := ho2.form; subst hpo2; rw [HK3.out] at HV2 hpn2 ⊢; have HPN := hid hpn2; clear hb2 ho2 HUK HB1 hpn2)
    | (go_at_call 33; (with_reducible refine (copyB_any (x := nb k) HV2.out.sl ?_ ?_).mono ?_); (rw [HK3.out]; decide); (intro n c e; cases e; exact HPN.out rfl); rintro e w3 ⟨v3, rfl, hb3, hw3⟩; have HB3 := hid (below_on HB2.out hw3); obtain ⟨v4, w4, hrun, hb4, hg4⟩ := hb3.app a cap bs (H.out.below HB3.out) HN0.out (by rw [HK3.out]; omega) hw3.size; have HRUN := hid hrun; have HB4 := hid (below_on HB2.out (below_grown hw3 hg4 (Nat.le_refl _) (fun b hb => (own_ge hb3 b hb).1))); rw [HM.out] at hb4; obtain ⟨po4, c4, hv4, hbl4, hc4⟩ := hb4.sl; subst hv4; have HBL4 := hid hbl4; have HC4 := hid hc4; clear hb3 hw3 hrun hb4 hg4 hbl4 hc4)
    | (at_builtin; refine wpList_append_run _ _ 22 22 rfl rfl _ _ _ rfl rfl HRUN.out ?_)
    | (go_at_call 15; (with_reducible refine (readUint_ok po4 c4 M w4 HBL4.out HC4.out HML.out HM8.out HRK.out).mono ?_); rintro e w5 ⟨out5, rfl, hout5, hb5⟩; have HB5 := hid (below_on HB4.out hb5); have HO5 := hid hout5.sl; clear hb5 hout5 HRUN HB4 HBL4 HC4)
    | (go_at_call 11; (with_reducible refine (sameB_true (x := bs) HO5.out (HSL.out.below HB5.out) H8.out).mono ?_); rintro e w6 ⟨rfl, hw6⟩; have hw7 := hw6.symm; subst hw7; clear hw6 HO5)
    | (go_at_call 15; (with_reducible refine (HRD.out _ HB5.out).mono ?_); rintro e w8 ⟨rfl, hb8⟩; have HB8 := hid (below_on HB5.out hb8); clear hb8))
  go_ret
  exact ⟨rfl, HB8.out⟩
set_option maxRecDepth 100000 in
set_option maxHeartbeats 400000 in
theorem uints_ok3_some (k : Nat) (a : Option Addr) (cap : Nat) (bs : List Nat) (w : World) (hk : k ≤ 1099511627776) (hk3 : (nb k).length = 3) (hl : bs.length ≤ 20) (h : BL w a bs) (hc : bs.length ≤ cap) (hn0 : a = none → cap = 0) (h8 : ∀ x ∈ bs, x < 256) (m : Nat) (L : List Nat) (hq : rdU bs = some (m, L)) : Calls Try.prog 7 #[i64 k, .slice a bs.length cap] w fun e w' => e = .returned (.bool true) ∧ Below w.heap.size w w' := by
  have hl' : ¬ 20 < (bs.length : Int) := by omega
  have HUK := hid (fun W => uint_ok k W hk)
  have H := hid h
  have HSL : Hid (SL w (.slice a bs.length cap) bs) := hid ⟨a, cap, rfl, h, hc⟩
  have H8 := hid h8
  have HN0 := hid hn0
  have HK3 := hid hk3
  obtain ⟨M, hM⟩ : ∃ M, nb k ++ bs = M := ⟨_, rfl⟩
  have HRK : Hid (rdU M = some (k, bs)) := hid (hM ▸ rdU_nb bs hk)
  have HM8 : Hid (∀ z ∈ M, z < 256) := hid (hM ▸ all256 (nb_byte k) h8)
  have HML : Hid (M.length ≤ 100000) := hid (by rw [← hM, List.length_append, hk3]; omega)
  have HM := hid hM
  clear hM
  have hsp := nb_span k
  rw [hk3] at hsp
  have hge : 16384 ≤ k := hsp.1 (by decide)
  have hs2 : ¬ (k : Int) / 16384 = 0 := by omega
  have hs2b : ((k : Int) / 16384 == 0) = false := by simpa using hs2
  have hlt : k < 2097152 := hsp.2
  have hs3 : (k : Int) / 2097152 = 0 := by omega
  have hs3b : ((k : Int) / 2097152 != 0) = false := by simp [hs3]
  clear hsp hlt hge
  obtain ⟨q2, q1⟩ := rdU_some h8 hq
  have hX8 : (∀ z ∈ nb m, z < 256) ∧ ∀ z ∈ L, z < 256 := sub256 (q2 ▸ h8)
  obtain ⟨N, hN⟩ : ∃ N, N = (nb m).length := ⟨_, rfl⟩
  have hlen : bs.length = N + L.length := by rw [q2, List.length_append, hN]
  have hsub : IntKind.i64.wrap ((bs.length : Int) - (L.length : Int)) = (N : Int) := by rw [IntKind.wrap_i64]; omega
  have hs1 := run_h8 a bs.length cap N (by omega)
  have et : bs.take N = nb m := by rw [q2, hN, List.take_left' rfl]
  have HT : Hid (SL w (.slice a N cap) (nb m)) := hid ⟨a, cap, by rw [hN], et ▸ h.take N, by omega⟩
  have HX8 := hid hX8
  have HU := hid (fun W => uint_ok m W q1)
  have HRD := hid (fun W (hb : Below w.heap.size w W) => readUint_ok a cap bs W (h.below hb) hc (by omega) h8 hq)
  clear q1 q2 hX8 hN hlen et
  clear h h8 hq hn0 hk3
  go_enter Try.func7, Try.ntmps7
  go_wp2_with (first
    | (go_at_call 32; refine (awake_any _).mono ?_; rintro e w1 ⟨rfl, hb1⟩; have HB1 := hid hb1; clear hb1)
    | (go_at_call 9; (with_reducible refine (HUK.out _).mono ?_); rintro e w2 ⟨v2, rfl, ho2, hb2⟩; have HB2 := hid (below_on HB1.out hb2); have HV2 := hid ho2; obtain ⟨po2, hpo2, _, hpn2⟩ := ho2.form; subst hpo2; rw [HK3.out] at HV2 hpn2 ⊢; have HPN := hid hpn2; clear hb2 ho2 HUK HB1 hpn2)
    | (go_at_call 33; (with_reducible refine (copyB_any (x := nb k) HV2.out.sl ?_ ?_).mono ?_); (rw [HK3.out]; decide); (intro n c e; cases e; exact HPN.out rfl); rintro e w3 ⟨v3, rfl, hb3, hw3⟩; have HB3 := hid (below_on HB2.out hw3); obtain ⟨v4, w4, hrun, hb4, hg4⟩ := hb3.app a cap bs (H.out.below HB3.out) HN0.out (by rw [HK3.out]; omega) hw3.size; have HRUN := hid hrun; have HB4 := hid (below_on HB2.out (below_grown hw3 hg4 (Nat.le_refl _) (fun b hb => (own_ge hb3 b hb).1))); rw [HM.out] at hb4; obtain ⟨po4, c4, hv4, hbl4, hc4⟩ := hb4.sl; subst hv4; have HBL4 := hid hbl4; have HC4 := hid hc4; clear hb3 hw3 hrun hb4 hg4 hbl4 hc4)
    | (at_builtin; refine wpList_append_run _ _ 22 22 rfl rfl _ _ _ rfl rfl HRUN.out ?_)
    | (go_at_call 15; (with_reducible refine (readUint_ok po4 c4 M w4 HBL4.out HC4.out HML.out HM8.out HRK.out).mono ?_); rintro e w5 ⟨out5, rfl, hout5, hb5⟩; have HB5 := hid (below_on HB4.out hb5); have HO5 := hid hout5.sl; clear hb5 hout5 HRUN HB4 HBL4 HC4)
    | (go_at_call 11; (with_reducible refine (sameB_true (x := bs) HO5.out (HSL.out.below HB5.out) H8.out).mono ?_); rintro e w6 ⟨rfl, hw6⟩; have hw7 := hw6.symm; subst hw7; clear hw6 HO5)
    | (go_at_call 15; (with_reducible refine (HRD.out _ HB5.out).mono ?_); rintro e w8 ⟨out, rfl, hout, hb8⟩; have HB8 := hid (below_on HB5.out hb8); obtain ⟨po8, hpo8, _⟩ := hout.form; subst hpo8; clear hb8 hout)
    | (go_at_call 9; (with_reducible refine (HU.out _).mono ?_); rintro e w9 ⟨v9, rfl, ho9, hb9⟩; have HV9 := hid ho9.sl; have HB9 := hid (below_on HB8.out hb9); clear ho9 hb9)
    | (go_at_call 11; (with_reducible refine (sameB_true (x := nb m) HV9.out (HT.out.below HB9.out) HX8.out.1).mono ?_); rintro e w10 ⟨rfl, hw10⟩; have hw11 := hw10.symm; subst hw11; clear hw10))
  go_ret
  exact ⟨rfl, HB9.out⟩
set_option maxRecDepth 100000 in
set_option maxHeartbeats 400000 in
theorem uints_ok4_none (k : Nat) (a : Option Addr) (cap : Nat) (bs : List Nat) (w : World) (hk : k ≤ 1099511627776) (hk3 : (nb k).length = 4) (hl : bs.length ≤ 20) (h : BL w a bs) (hc : bs.length ≤ cap) (hn0 : a = none → cap = 0) (h8 : ∀ x ∈ bs, x < 256) (hq : rdU bs = none) : Calls Try.prog 7 #[i64 k, .slice a bs.length cap] w fun e w' => e = .returned (.bool true) ∧ Below w.heap.size w w' := by
  have hl' : ¬ 20 < (bs.length : Int) := by omega
  have HUK := hid (fun W => uint_ok k W hk)
  have H := hid h
  have HSL : Hid (SL w (.slice a bs.length cap) bs) := hid ⟨a, cap, rfl, h, hc⟩
  have H8 := hid h8
  have HN0 := hid hn0
  have HK3 := hid hk3
  obtain ⟨M, hM⟩ : ∃ M, nb k ++ bs = M := ⟨_, rfl⟩
  have HRK : Hid (rdU M = some (k, bs)) := hid (hM ▸ rdU_nb bs hk)
  have HM8 : Hid (∀ z ∈ M, z < 256) := hid (hM ▸ all256 (nb_byte k) h8)
  have HML : Hid (M.length ≤ 100000) := hid (by rw [← hM, List.length_append, hk3]; omega)
  have HM := hid hM
  clear hM
  have hsp := nb_span k
  rw [hk3] at hsp
  have hge : 2097152 ≤ k := hsp.1 (by decide)
  have hs2 : ¬ (k : Int) / 2097152 = 0 := by omega
  have hs2b : ((k : Int) / 2097152 == 0) = false := by simpa using hs2
  have hlt : k < 268435456 := hsp.2
  have hs3 : (k : Int) / 268435456 = 0 := by omega
  have hs3b : ((k : Int) / 268435456 != 0) = false := by simp [hs3]
  clear hsp hlt hge
  have HRD := hid (fun W (hb : Below w.heap.size w W) => readUint_bad a cap bs W (h.below hb) hc (by omega) h8 hq)
  clear h h8 hq hn0 hk3
  go_enter Try.func7, Try.ntmps7
  go_wp2_with (first
    | (go_at_call 32; refine (awake_any _).mono ?_; rintro e w1 ⟨rfl, hb1⟩; have HB1 := hid hb1; clear hb1)
    | (go_at_call 9; (with_reducible refine (HUK.out _).mono ?_); rintro e w2 ⟨v2, rfl, ho2, hb2⟩; have HB2 := hid (below_on HB1.out hb2); have HV2 := hid ho2; obtain ⟨po2, hpo2, _, hpn2⟩ := ho2.form; subst hpo2; rw [HK3.out] at HV2 hpn2 ⊢; have HPN := hid hpn2; clear hb2 ho2 HUK HB1 hpn2)
    | (go_at_call 33; (with_reducible refine (copyB_any (x := nb k) HV2.out.sl ?_ ?_).mono ?_); (rw [HK3.out]; decide); (intro n c e; cases e; exact HPN.out rfl); rintro e w3 ⟨v3, rfl, hb3, hw3⟩; have HB3 := hid (below_on HB2.out hw3); obtain ⟨v4, w4, hrun, hb4, hg4⟩ := hb3.app a cap bs (H.out.below HB3.out) HN0.out (by rw [HK3.out]; omega) hw3.size; have HRUN := hid hrun; have HB4 := hid (below_on HB2.out (below_grown hw3 hg4 (Nat.le_refl _) (fun b hb => (own_ge hb3 b hb).1))); rw [HM.out] at hb4; obtain ⟨po4, c4, hv4, hbl4, hc4⟩ := hb4.sl; subst hv4; have HBL4 := hid hbl4; have HC4 := hid hc4; clear hb3 hw3 hrun hb4 hg4 hbl4 hc4)
    | (at_builtin; refine wpList_append_run _ _ 22 22 rfl rfl _ _ _ rfl rfl HRUN.out ?_)
    | (go_at_call 15; (with_reducible refine (readUint_ok po4 c4 M w4 HBL4.out HC4.out HML.out HM8.out HRK.out).mono ?_); rintro e w5 ⟨out5, rfl, hout5, hb5⟩; have HB5 := hid (below_on HB4.out hb5); have HO5 := hid hout5.sl; clear hb5 hout5 HRUN HB4 HBL4 HC4)
    | (go_at_call 11; (with_reducible refine (sameB_true (x := bs) HO5.out (HSL.out.below HB5.out) H8.out).mono ?_); rintro e w6 ⟨rfl, hw6⟩; have hw7 := hw6.symm; subst hw7; clear hw6 HO5)
    | (go_at_call 15; (with_reducible refine (HRD.out _ HB5.out).mono ?_); rintro e w8 ⟨rfl, hb8⟩; have HB8 := hid (below_on HB5.out hb8); clear hb8))
  go_ret
  exact ⟨rfl, HB8.out⟩
set_option maxRecDepth 100000 in
set_option maxHeartbeats 400000 in
theorem uints_ok4_some (k : Nat) (a : Option Addr) (cap : Nat) (bs : List Nat) (w : World) (hk : k ≤ 1099511627776) (hk3 : (nb k).length = 4) (hl : bs.length ≤ 20) (h : BL w a bs) (hc : bs.length ≤ cap) (hn0 : a = none → cap = 0) (h8 : ∀ x ∈ bs, x < 256) (m : Nat) (L : List Nat) (hq : rdU bs = some (m, L)) : Calls Try.prog 7 #[i64 k, .slice a bs.length cap] w fun e w' => e = .returned (.bool true) ∧ Below w.heap.size w w' := by
  have hl' : ¬ 20 < (bs.length : Int) := by omega
  have HUK := hid (fun W => uint_ok k W hk)
  have H := hid h
  have HSL : Hid (SL w (.slice a bs.length cap) bs) := hid ⟨a, cap, rfl, h, hc⟩
  have H8 := hid h8
  have HN0 := hid hn0
  have HK3 := hid hk3
  obtain ⟨M, hM⟩ : ∃ M, nb k ++ bs = M := ⟨_, rfl⟩
  have HRK : Hid (rdU M = some (k, bs)) := hid (hM ▸ rdU_nb bs hk)
  have HM8 : Hid (∀ z ∈ M, z < 256) := hid (hM ▸ all256 (nb_byte k) h8)
  have HML : Hid (M.length ≤ 100000) := hid (by rw [← hM, List.length_append, hk3]; omega)
  have HM := hid hM
  clear hM
  have hsp := nb_span k
  rw [hk3] at hsp
  have hge : 2097152 ≤ k := hsp.1 (by decide)
  have hs2 : ¬ (k : Int) / 2097152 = 0 := by omega
  have hs2b : ((k : Int) / 2097152 == 0) = false := by simpa using hs2
  have hlt : k < 268435456 := hsp.2
  have hs3 : (k : Int) / 268435456 = 0 := by omega
  have hs3b : ((k : Int) / 268435456 != 0) = false := by simp [hs3]
  clear hsp hlt hge
  obtain ⟨q2, q1⟩ := rdU_some h8 hq
  have hX8 : (∀ z ∈ nb m, z < 256) ∧ ∀ z ∈ L, z < 256 := sub256 (q2 ▸ h8)
  obtain ⟨N, hN⟩ : ∃ N, N = (nb m).length := ⟨_, rfl⟩
  have hlen : bs.length = N + L.length := by rw [q2, List.length_append, hN]
  have hsub : IntKind.i64.wrap ((bs.length : Int) - (L.length : Int)) = (N : Int) := by rw [IntKind.wrap_i64]; omega
  have hs1 := run_h8 a bs.length cap N (by omega)
  have et : bs.take N = nb m := by rw [q2, hN, List.take_left' rfl]
  have HT : Hid (SL w (.slice a N cap) (nb m)) := hid ⟨a, cap, by rw [hN], et ▸ h.take N, by omega⟩
  have HX8 := hid hX8
  have HU := hid (fun W => uint_ok m W q1)
  have HRD := hid (fun W (hb : Below w.heap.size w W) => readUint_ok a cap bs W (h.below hb) hc (by omega) h8 hq)
  clear q1 q2 hX8 hN hlen et
  clear h h8 hq hn0 hk3
  go_enter Try.func7, Try.ntmps7
  go_wp2_with (first
    | (go_at_call 32; refine (awake_any _).mono ?_; rintro e w1 ⟨rfl, hb1⟩; have HB1 := hid hb1; clear hb1)
    | (go_at_call 9; (with_reducible refine (HUK.out _).mono ?_); rintro e w2 ⟨v2, rfl, ho2, hb2⟩; have HB2 := hid (below_on HB1.out hb2); have HV2 := hid ho2; obtain ⟨po2, hpo2, _, hpn2⟩ := ho2.form; subst hpo2; rw [HK3.out] at HV2 hpn2 ⊢; have HPN := hid hpn2; clear hb2 ho2 HUK HB1 hpn2)
    | (go_at_call 33; (with_reducible refine (copyB_any (x := nb k) HV2.out.sl ?_ ?_).mono ?_); (rw [HK3.out]; decide); (intro n c e; cases e; exact HPN.out rfl); rintro e w3 ⟨v3, rfl, hb3, hw3⟩; have HB3 := hid (below_on HB2.out hw3); obtain ⟨v4, w4, hrun, hb4, hg4⟩ := hb3.app a cap bs (H.out.below HB3.out) HN0.out (by rw [HK3.out]; omega) hw3.size; have HRUN := hid hrun; have HB4 := hid (below_on HB2.out (below_grown hw3 hg4 (Nat.le_refl _) (fun b hb => (own_ge hb3 b hb).1))); rw [HM.out] at hb4; obtain ⟨po4, c4, hv4, hbl4, hc4⟩ := hb4.sl; subst hv4; have HBL4 := hid hbl4; have HC4 := hid hc4; clear hb3 hw3 hrun hb4 hg4 hbl4 hc4)
    | (at_builtin; refine wpList_append_run _ _ 22 22 rfl rfl _ _ _ rfl rfl HRUN.out ?_)
    | (go_at_call 15; (with_reducible refine (readUint_ok po4 c4 M w4 HBL4.out HC4.out HML.out HM8.out HRK.out).mono ?_); rintro e w5 ⟨out5, rfl, hout5, hb5⟩; have HB5 := hid (below_on HB4.out hb5); have HO5 := hid hout5.sl; clear hb5 hout5 HRUN HB4 HBL4 HC4)
    | (go_at_call 11; (with_reducible refine (sameB_true (x := bs) HO5.out (HSL.out.below HB5.out) H8.out).mono ?_); rintro e w6 ⟨rfl, hw6⟩; have hw7 := hw6.symm; subst hw7; clear hw6 HO5)
    | (go_at_call 15; (with_reducible refine (HRD.out _ HB5.out).mono ?_); rintro e w8 ⟨out, rfl, hout, hb8⟩; have HB8 := hid (below_on HB5.out hb8); obtain ⟨po8, hpo8, _⟩ := hout.form; subst hpo8; clear hb8 hout)
    | (go_at_call 9; (with_reducible refine (HU.out _).mono ?_); rintro e w9 ⟨v9, rfl, ho9, hb9⟩; have HV9 := hid ho9.sl; have HB9 := hid (below_on HB8.out hb9); clear ho9 hb9)
    | (go_at_call 11; (with_reducible refine (sameB_true (x := nb m) HV9.out (HT.out.below HB9.out) HX8.out.1).mono ?_); rintro e w10 ⟨rfl, hw10⟩; have hw11 := hw10.symm; subst hw11; clear hw10))
  go_ret
  exact ⟨rfl, HB9.out⟩
set_option maxRecDepth 100000 in
set_option maxHeartbeats 400000 in
theorem uints_ok5_none (k : Nat) (a : Option Addr) (cap : Nat) (bs : List Nat) (w : World) (hk : k ≤ 1099511627776) (hk3 : (nb k).length = 5) (hl : bs.length ≤ 20) (h : BL w a bs) (hc : bs.length ≤ cap) (hn0 : a = none → cap = 0) (h8 : ∀ x ∈ bs, x < 256) (hq : rdU bs = none) : Calls Try.prog 7 #[i64 k, .slice a bs.length cap] w fun e w' => e = .returned (.bool true) ∧ Below w.heap.size w w' := by
  have hl' : ¬ 20 < (bs.length : Int) := by omega
  have HUK := hid (fun W => uint_ok k W hk)
  have H := hid h
  have HSL : Hid (SL w (.slice a bs.length cap) bs) := hid ⟨a, cap, rfl, h, hc⟩
  have H8 := hid h8
  have HN0 := hid hn0
  have HK3 := hid hk3
  obtain ⟨M, hM⟩ : ∃ M, nb k ++ bs = M := ⟨_, rfl⟩
  have HRK : Hid (rdU M = some (k, bs)) := hid (hM ▸ rdU_nb bs hk)
  have HM8 : Hid (∀ z ∈ M, z < 256) := hid (hM ▸ all256 (nb_byte k) h8)
  have HML : Hid (M.length ≤ 100000) := hid (by rw [← hM, List.length_append, hk3]; omega)
  have HM := hid hM
  clear hM
  have hsp := nb_span k
  rw [hk3] at hsp
  have hge : 268435456 ≤ k := hsp.1 (by decide)
  have hs2 : ¬ (k : Int) / 268435456 = 0 := by omega
  have hs2b : ((k : Int) / 268435456 == 0) = false := by simpa using hs2
  have hlt : k < 34359738368 := hsp.2
  have hs3 : (k : Int) / 34359738368 = 0 := by omega
  have hs3b : ((k : Int) / 34359738368 != 0) = false := by simp [hs3]
  clear hsp hlt hge
  have HRD := hid (fun W (hb : Below w.heap.size w W) => readUint_bad a cap bs W (h.below hb) hc (by omega) h8 hq)
  clear h h8 hq hn0 hk3
  go_enter Try.func7, Try.ntmps7
  go_wp2_with (first
    | (go_at_call 32; refine (awake_any _).mono ?_; rintro e w1 ⟨rfl, hb1⟩; have HB1 := hid hb1; clear hb1)
    | (go_at_call 9; (with_reducible refine (HUK.out _).mono ?_); rintro e w2 ⟨v2, rfl, ho2, hb2⟩; have HB2 := hid (below_on HB1.out hb2); have HV2 := hid ho2; obtain ⟨po2, hpo2, _, hpn2⟩ := ho2.form; subst hpo2; rw [HK3.out] at HV2 hpn2 ⊢; have HPN := hid hpn2; clear hb2 ho2 HUK HB1 hpn2)
    | (go_at_call 33; (with_reducible refine (copyB_any (x := nb k) HV2.out.sl ?_ ?_).mono ?_); (rw [HK3.out]; decide); (intro n c e; cases e; exact HPN.out rfl); rintro e w3 ⟨v3, rfl, hb3, hw3⟩; have HB3 := hid (below_on HB2.out hw3); obtain ⟨v4, w4, hrun, hb4, hg4⟩ := hb3.app a cap bs (H.out.below HB3.out) HN0.out (by rw [HK3.out]; omega) hw3.size; have HRUN := hid hrun; have HB4 := hid (below_on HB2.out (below_grown hw3 hg4 (Nat.le_refl _) (fun b hb => (own_ge hb3 b hb).1))); rw [HM.out] at hb4; obtain ⟨po4, c4, hv4, hbl4, hc4⟩ := hb4.sl; subst hv4; have HBL4 := hid hbl4; have HC4 := hid hc4; clear hb3 hw3 hrun hb4 hg4 hbl4 hc4)
    | (at_builtin; refine wpList_append_run _ _ 22 22 rfl rfl _ _ _ rfl rfl HRUN.out ?_)
    | (go_at_call 15; (with_reducible refine (readUint_ok po4 c4 M w4 HBL4.out HC4.out HML.out HM8.out HRK.out).mono ?_); rintro e w5 ⟨out5, rfl, hout5, hb5⟩; have HB5 := hid (below_on HB4.out hb5); have HO5 := hid hout5.sl; clear hb5 hout5 HRUN HB4 HBL4 HC4)
    | (go_at_call 11; (with_reducible refine (sameB_true (x := bs) HO5.out (HSL.out.below HB5.out) H8.out).mono ?_); rintro e w6 ⟨rfl, hw6⟩; have hw7 := hw6.symm; subst hw7; clear hw6 HO5)
    | (go_at_call 15; (with_reducible refine (HRD.out _ HB5.out).mono ?_); rintro e w8 ⟨rfl, hb8⟩; have HB8 := hid (below_on HB5.out hb8); clear hb8))
  go_ret
  exact ⟨rfl, HB8.out⟩
set_option maxRecDepth 100000 in
set_option maxHeartbeats 400000 in
theorem uints_ok5_some (k : Nat) (a : Option Addr) (cap : Nat) (bs : List Nat) (w : World) (hk : k ≤ 1099511627776) (hk3 : (nb k).length = 5) (hl : bs.length ≤ 20) (h : BL w a bs) (hc : bs.length ≤ cap) (hn0 : a = none → cap = 0) (h8 : ∀ x ∈ bs, x < 256) (m : Nat) (L : List Nat) (hq : rdU bs = some (m, L)) : Calls Try.prog 7 #[i64 k, .slice a bs.length cap] w fun e w' => e = .returned (.bool true) ∧ Below w.heap.size w w' := by
  have hl' : ¬ 20 < (bs.length : Int) := by omega
  have HUK := hid (fun W => uint_ok k W hk)
  have H := hid h
  have HSL : Hid (SL w (.slice a bs.length cap) bs) := hid ⟨a, cap, rfl, h, hc⟩
  have H8 := hid h8
  have HN0 := hid hn0
  have HK3 := hid hk3
  obtain ⟨M, hM⟩ : ∃ M, nb k ++ bs = M := ⟨_, rfl⟩
  have HRK : Hid (rdU M = some (k, bs)) := hid (hM ▸ rdU_nb bs hk)
  have HM8 : Hid (∀ z ∈ M, z < 256) := hid (hM ▸ all256 (nb_byte k) h8)
  have HML : Hid (M.length ≤ 100000) := hid (by rw [← hM, List.length_append, hk3]; omega)
  have HM := hid hM
  clear hM
  have hsp := nb_span k
  rw [hk3] at hsp
  have hge : 268435456 ≤ k := hsp.1 (by decide)
  have hs2 : ¬ (k : Int) / 268435456 = 0 := by omega
  have hs2b : ((k : Int) / 268435456 == 0) = false := by simpa using hs2
  have hlt : k < 34359738368 := hsp.2
  have hs3 : (k : Int) / 34359738368 = 0 := by omega
  have hs3b : ((k : Int) / 34359738368 != 0) = false := by simp [hs3]
  clear hsp hlt hge
  obtain ⟨q2, q1⟩ := rdU_some h8 hq
  have hX8 : (∀ z ∈ nb m, z < 256) ∧ ∀ z ∈ L, z < 256 := sub256 (q2 ▸ h8)
  obtain ⟨N, hN⟩ : ∃ N, N = (nb m).length := ⟨_, rfl⟩
  have hlen : bs.length = N + L.length := by rw [q2, List.length_append, hN]
  have hsub : IntKind.i64.wrap ((bs.length : Int) - (L.length : Int)) = (N : Int) := by rw [IntKind.wrap_i64]; omega
  have hs1 := run_h8 a bs.length cap N (by omega)
  have et : bs.take N = nb m := by rw [q2, hN, List.take_left' rfl]
  have HT : Hid (SL w (.slice a N cap) (nb m)) := hid ⟨a, cap, by rw [hN], et ▸ h.take N, by omega⟩
  have HX8 := hid hX8
  have HU := hid (fun W => uint_ok m W q1)
  have HRD := hid (fun W (hb : Below w.heap.size w W) => readUint_ok a cap bs W (h.below hb) hc (by omega) h8 hq)
  clear q1 q2 hX8 hN hlen et
  clear h h8 hq hn0 hk3
  go_enter Try.func7, Try.ntmps7
  go_wp2_with (first
    | (go_at_call 32; refine (awake_any _).mono ?_; rintro e w1 ⟨rfl, hb1⟩; have HB1 := hid hb1; clear hb1)
    | (go_at_call 9; (with_reducible refine (HUK.out _).mono ?_); rintro e w2 ⟨v2, rfl, ho2, hb2⟩; have HB2 := hid (below_on HB1.out hb2); have HV2 := hid ho2; obtain ⟨po2, hpo2, _, hpn2⟩ := ho2.form; subst hpo2; rw [HK3.out] at HV2 hpn2 ⊢; have HPN := hid hpn2; clear hb2 ho2 HUK HB1 hpn2)
    | (go_at_call 33; (with_reducible refine (copyB_any (x := nb k) HV2.out.sl ?_ ?_).mono ?_); (rw [HK3.out]; decide); (intro n c e; cases e; exact HPN.out rfl); rintro e w3 ⟨v3, rfl, hb3, hw3⟩; have HB3 := hid (below_on HB2.out hw3); obtain ⟨v4, w4, hrun, hb4, hg4⟩ := hb3.app a cap bs (H.out.below HB3.out) HN0.out (by rw [HK3.out]; omega) hw3.size; have HRUN := hid hrun; have HB4 := hid (below_on HB2.out (below_grown hw3 hg4 (Nat.le_refl _) (fun b hb => (own_ge hb3 b hb).1))); rw [HM.out] at hb4; obtain ⟨po4, c4, hv4, hbl4, hc4⟩ := hb4.sl; subst hv4; have HBL4 := hid hbl4; have HC4 := hid hc4; clear hb3 hw3 hrun hb4 hg4 hbl4 hc4)
    | (at_builtin; refine wpList_append_run _ _ 22 22 rfl rfl _ _ _ rfl rfl HRUN.out ?_)
    | (go_at_call 15; (with_reducible refine (readUint_ok po4 c4 M w4 HBL4.out HC4.out HML.out HM8.out HRK.out).mono ?_); rintro e w5 ⟨out5, rfl, hout5, hb5⟩; have HB5 := hid (below_on HB4.out hb5); have HO5 := hid hout5.sl; clear hb5 hout5 HRUN HB4 HBL4 HC4)
    | (go_at_call 11; (with_reducible refine (sameB_true (x := bs) HO5.out (HSL.out.below HB5.out) H8.out).mono ?_); rintro e w6 ⟨rfl, hw6⟩; have hw7 := hw6.symm; subst hw7; clear hw6 HO5)
    | (go_at_call 15; (with_reducible refine (HRD.out _ HB5.out).mono ?_); rintro e w8 ⟨out, rfl, hout, hb8⟩; have HB8 := hid (below_on HB5.out hb8); obtain ⟨po8, hpo8, _⟩ := hout.form; subst hpo8; clear hb8 hout)
    | (go_at_call 9; (with_reducible refine (HU.out _).mono ?_); rintro e w9 ⟨v9, rfl, ho9, hb9⟩; have HV9 := hid ho9.sl; have HB9 := hid (below_on HB8.out hb9); clear ho9 hb9)
    | (go_at_call 11; (with_reducible refine (sameB_true (x := nb m) HV9.out (HT.out.below HB9.out) HX8.out.1).mono ?_); rintro e w10 ⟨rfl, hw10⟩; have hw11 := hw10.symm; subst hw11; clear hw10))
  go_ret
  exact ⟨rfl, HB9.out⟩
set_option maxRecDepth 100000 in
set_option maxHeartbeats 400000 in
theorem uints_ok6_none (k : Nat) (a : Option Addr) (cap : Nat) (bs : List Nat) (w : World) (hk : k ≤ 1099511627776) (hk3 : (nb k).length = 6) (hl : bs.length ≤ 20) (h : BL w a bs) (hc : bs.length ≤ cap) (hn0 : a = none → cap = 0) (h8 : ∀ x ∈ bs, x < 256) (hq : rdU bs = none) : Calls Try.prog 7 #[i64 k, .slice a bs.length cap] w fun e w' => e = .returned (.bool true) ∧ Below w.heap.size w w' := by
  have hl' : ¬ 20 < (bs.length : Int) := by omega
  have HUK := hid (fun W => uint_ok k W hk)
  have H := hid h
  have HSL : Hid (SL w (.slice a bs.length cap) bs) := hid ⟨a, cap, rfl, h, hc⟩
  have H8 := hid h8
  have HN0 := hid hn0
  have HK3 := hid hk3
  obtain ⟨M, hM⟩ : ∃ M, nb k ++ bs = M := ⟨_, rfl⟩
  have HRK : Hid (rdU M = some (k, bs)) := hid (hM ▸ rdU_nb bs hk)
  have HM8 : Hid (∀ z ∈ M, z < 256) := hid (hM ▸ all256 (nb_byte k) h8)
  have HML : Hid (M.length ≤ 100000) := hid (by rw [← hM, List.length_append, hk3]; omega)
  have HM := hid hM
  clear hM
  have hsp := nb_span k
  rw [hk3] at hsp
  have hge : 34359738368 ≤ k := hsp.1 (by decide)
  have hs2 : ¬ (k : Int) / 34359738368 = 0 := by omega
  have hs2b : ((k : Int) / 34359738368 == 0) = false := by simpa using hs2
  have hlt : k < 4398046511104 := hsp.2
  have hs3 : (k : Int) / 4398046511104 = 0 := by omega
  have hs3b : ((k : Int) / 4398046511104 != 0) = false := by simp [hs3]
  clear hsp hlt hge
  have HRD := hid (fun W (hb : Below w.heap.size w W) => readUint_bad a cap bs W (h.below hb) hc (by omega) h8 hq)
  clear h h8 hq hn0 hk3
  go_enter Try.func7, Try.ntmps7
  go_wp2_with (first
    | (go_at_call 32; refine (awake_any _).mono ?_; rintro e w1 ⟨rfl, hb1⟩; have HB1 := hid hb1; clear hb1)
    | (go_at_call 9; (with_reducible refine (HUK.out _).mono ?_); rintro e w2 ⟨v2, rfl, ho2, hb2⟩; have HB2 := hid (below_on HB1.out hb2); have HV2 := hid ho2; obtain ⟨po2, hpo2, _, hpn2⟩ := ho2.form; subst hpo2; rw [HK3.out] at HV2 hpn2 ⊢; have HPN := hid hpn2; clear hb2 ho2 HUK HB1 hpn2)
    | (go_at_call 33; (with_reducible refine (copyB_any (x := nb k) HV2.out.sl ?_ ?_).mono ?_); (rw [HK3.out]; decide); (intro n c e; cases e; exact HPN.out rfl); rintro e w3 ⟨v3, rfl, hb3, hw3⟩; have HB3 := hid (below_on HB2.out hw3); obtain ⟨v4, w4, hrun, hb4, hg4⟩ := hb3.app a cap bs (H.out.below HB3.out) HN0.out (by rw [HK3.out]; omega) hw3.size; have HRUN := hid hrun; have HB4 := hid (below_on HB2.out (below_grown hw3 hg4 (Nat.le_refl _) (fun b hb => (own_ge hb3 b hb).1))); rw [HM.out] at hb4; obtain ⟨po4, c4, hv4, hbl4, hc4⟩ := hb4.sl; subst hv4; have HBL4 := hid hbl4; have HC4 := hid hc4; clear hb3 hw3 hrun hb4 hg4 hbl4 hc4)
    | (at_builtin; refine wpList_append_run _ _ 22 22 rfl rfl _ _ _ rfl rfl HRUN.out ?_)
    | (go_at_call 15; (with_reducible refine (readUint_ok po4 c4 M w4 HBL4.out HC4.out HML.out HM8.out HRK.out).mono ?_); rintro e w5 ⟨out5, rfl, hout5, hb5⟩; have HB5 := hid (below_on HB4.out hb5); have HO5 := hid hout5.sl; clear hb5 hout5 HRUN HB4 HBL4 HC4)
    | (go_at_call 11; (with_reducible refine (sameB_true (x := bs) HO5.out (HSL.out.below HB5.out) H8.out).mono ?_); rintro e w6 ⟨rfl, hw6⟩; have hw7 := hw6.symm; subst hw7; clear hw6 HO5)
    | (go_at_call 15; (with_reducible refine (HRD.out _ HB5.out).mono ?_); rintro e w8 ⟨rfl, hb8⟩; have HB8 := hid (below_on HB5.out hb8); clear hb8))
  go_ret
  exact ⟨rfl, HB8.out⟩
set_option maxRecDepth 100000 in
set_option maxHeartbeats 400000 in
theorem uints_ok6_some (k : Nat) (a : Option Addr) (cap : Nat) (bs : List Nat) (w : World) (hk : k ≤ 1099511627776) (hk3 : (nb k).length = 6) (hl : bs.length ≤ 20) (h : BL w a bs) (hc : bs.length ≤ cap) (hn0 : a = none → cap = 0) (h8 : ∀ x ∈ bs, x < 256) (m : Nat) (L : List Nat) (hq : rdU bs = some (m, L)) : Calls Try.prog 7 #[i64 k, .slice a bs.length cap] w fun e w' => e = .returned (.bool true) ∧ Below w.heap.size w w' := by
  have hl' : ¬ 20 < (bs.length : Int) := by omega
  have HUK := hid (fun W => uint_ok k W hk)
  have H := hid h
  have HSL : Hid (SL w (.slice a bs.length cap) bs) := hid ⟨a, cap, rfl, h, hc⟩
  have H8 := hid h8
  have HN0 := hid hn0
  have HK3 := hid hk3
  obtain ⟨M, hM⟩ : ∃ M, nb k ++ bs = M := ⟨_, rfl⟩
  have HRK : Hid (rdU M = some (k, bs)) := hid (hM ▸ rdU_nb bs hk)
  have HM8 : Hid (∀ z ∈ M, z < 256) := hid (hM ▸ all256 (nb_byte k) h8)
  have HML : Hid (M.length ≤ 100000) := hid (by rw [← hM, List.length_append, hk3]; omega)
  have HM := hid hM
  clear hM
  have hsp := nb_span k
  rw [hk3] at hsp
  have hge : 34359738368 ≤ k := hsp.1 (by decide)
  have hs2 : ¬ (k : Int) / 34359738368 = 0 := by omega
  have hs2b : ((k : Int) / 34359738368 == 0) = false := by simpa using hs2
  have hlt : k < 4398046511104 := hsp.2
  have hs3 : (k : Int) / 4398046511104 = 0 := by omega
  have hs3b : ((k : Int) / 4398046511104 != 0) = false := by simp [hs3]
  clear hsp hlt hge
  obtain ⟨q2, q1⟩ := rdU_some h8 hq
  have hX8 : (∀ z ∈ nb m, z < 256) ∧ ∀ z ∈ L, z < 256 := sub256 (q2 ▸ h8)
  obtain ⟨N, hN⟩ : ∃ N, N = (nb m).length := ⟨_, rfl⟩
  have hlen : bs.length = N + L.length := by rw [q2, List.length_append, hN]
  have hsub : IntKind.i64.wrap ((bs.length : Int) - (L.length : Int)) = (N : Int) := by rw [IntKind.wrap_i64]; omega
  have hs1 := run_h8 a bs.length cap N (by omega)
  have et : bs.take N = nb m := by rw [q2, hN, List.take_left' rfl]
  have HT : Hid (SL w (.slice a N cap) (nb m)) := hid ⟨a, cap, by rw [hN], et ▸ h.take N, by omega⟩
  have HX8 := hid hX8
  have HU := hid (fun W => uint_ok m W q1)
  have HRD := hid (fun W (hb : Below w.heap.size w W) => readUint_ok a cap bs W (h.below hb) hc (by omega) h8 hq)
  clear q1 q2 hX8 hN hlen et
  clear h h8 hq hn0 hk3
  go_enter Try.func7, Try.ntmps7
  go_wp2_with (first
    | (go_at_call 32; refine (awake_any _).mono ?_; rintro e w1 ⟨rfl, hb1⟩; have HB1 := hid hb1; clear hb1)
    | (go_at_call 9; (with_reducible refine (HUK.out _).mono ?_); rintro e w2 ⟨v2, rfl, ho2, hb2⟩; have HB2 := hid (below_on HB1.out hb2); have HV2 := hid ho2; obtain ⟨po2, hpo2, _, hpn2⟩ := ho2.form; subst hpo2; rw [HK3.out] at HV2 hpn2 ⊢; have HPN := hid hpn2; clear hb2 ho2 HUK HB1 hpn2)
    | (go_at_call 33; (with_reducible refine (copyB_any (x := nb k) HV2.out.sl ?_ ?_).mono ?_); (rw [HK3.out]; decide); (intro n c e; cases e; exact HPN.out rfl); rintro e w3 ⟨v3, rfl, hb3, hw3⟩; have HB3 := hid (below_on HB2.out hw3); obtain ⟨v4, w4, hrun, hb4, hg4⟩ := hb3.app a cap bs (H.out.below HB3.out) HN0.out (by rw [HK3.out]; omega) hw3.size; have HRUN := hid hrun; have HB4 := hid (below_on HB2.out (below_grown hw3 hg4 (Nat.le_refl _) (fun b hb => (own_ge hb3 b hb).1))); rw [HM.out] at hb4; obtain ⟨po4, c4, hv4, hbl4, hc4⟩ := hb4.sl; subst hv4; have HBL4 := hid hbl4; have HC4 := hid hc4; clear hb3 hw3 hrun hb4 hg4 hbl4 hc4)
    | (at_builtin; refine wpList_append_run _ _ 22 22 rfl rfl _ _ _ rfl rfl HRUN.out ?_)
    | (go_at_call 15; (with_reducible refine (readUint_ok po4 c4 M w4 HBL4.out HC4.out HML.out HM8.out HRK.out).mono ?_); rintro e w5 ⟨out5, rfl, hout5, hb5⟩; have HB5 := hid (below_on HB4.out hb5); have HO5 := hid hout5.sl; clear hb5 hout5 HRUN HB4 HBL4 HC4)
    | (go_at_call 11; (with_reducible refine (sameB_true (x := bs) HO5.out (HSL.out.below HB5.out) H8.out).mono ?_); rintro e w6 ⟨rfl, hw6⟩; have hw7 := hw6.symm; subst hw7; clear hw6 HO5)
    | (go_at_call 15; (with_reducible refine (HRD.out _ HB5.out).mono ?_); rintro e w8 ⟨out, rfl, hout, hb8⟩; have HB8 := hid (below_on HB5.out hb8); obtain ⟨po8, hpo8, _⟩ := hout.form; subst hpo8; clear hb8 hout)
    | (go_at_call 9; (with_reducible refine (HU.out _).mono ?_); rintro e w9 ⟨v9, rfl, ho9, hb9⟩; have HV9 := hid ho9.sl; have HB9 := hid (below_on HB8.out hb9); clear ho9 hb9)
    | (go_at_call 11; (with_reducible refine (sameB_true (x := nb m) HV9.out (HT.out.below HB9.out) HX8.out.1).mono ?_); rintro e w10 ⟨rfl, hw10⟩; have hw11 := hw10.symm; subst hw11; clear hw10))
  go_ret
  exact ⟨rfl, HB9.out⟩
end Go.Proofs.Ytepkpkbgmchioaa
