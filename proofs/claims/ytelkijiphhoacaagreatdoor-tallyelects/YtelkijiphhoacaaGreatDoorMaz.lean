/- Texts laid into one, cut to what is needed: the remark ahead of each part says what is proved there. -/
import Derived.Test.YtelkijiphhoacaaGreatDoorMay
import Derived.Test.YtelkijiphhoacaaGreatDoorMaf
/- Contract of the document's data. -/
namespace Go.Proofs.YtelkijiphhoacaaGreatDoor
open Go Go.RowKit

def DaS (w : World) (g : Nat) (po : Option Addr) (q : Option (Rc × List Nat)) (e : Ending) (w' : World) : Prop := Only (fun b => b = g) w w' ∧ match q with
  | none => e = .returned (.tuple #[.slice none 0 0, .bool false]) ∧ ∃ r, DB w g r w'
  | some (rc, L) => ∃ (r : Rv) (ps : Ps) (v : Value), e = .returned (.tuple #[v, .bool true]) ∧ DB w g r w' ∧ r.rc ps = rc ∧ PLF w.heap.size w' r.pv ps ∧ SLn po w' v L
set_option maxRecDepth 100000 in
set_option maxHeartbeats 4000000 in
theorem data_any (w : World) (g : Nat) (po : Option Addr) (v : Value) (d : List Nat) (r0 : Rv) (t : Nat) (hk : r0.ok) (hr : RBox w g r0) (hm : r0.mark = false) (hpv : r0.pv = .slice none 0 0) (ht : r0.time = (t : Int)) (hs : SLn po w v d) (hP : ∀ a, po = some a → a.block ≠ g) (hl : d.length ≤ 100000) (h8 : ∀ x ∈ d, x < 256) :
    Calls Tryz.prog 61 #[ptr g, v] w (DaS w g po (rdD (lst r0.id) t d)) := by
  have hg := hr.at_.lt
  have K0 : Hid (DB w g r0 w) := hid ⟨hk, hr, Only.refl _ _⟩
  have HP := hid hP
  have HM := hid hm
  have HPV := hid hpv
  have HT := hid ht
  have hQ := rdD_ch (lst r0.id) t d
  unfold chD at hQ
  have hc := hs.uint hl h8
  generalize rdD (lst r0.id) t d = Q at hQ ⊢
  clear hk hr hm hpv ht hs hP
  go_enter Tryz.func61, Tryz.ntmps61
  cases h1 : rdU d with
  | none =>
    rw [h1] at hQ hc
    have HQ : Hid (Q = none) := hid hQ
    have HC := hid hc
    clear hQ hc h1 h8
    go_wp2_with (go_at_call 44; refine HC.out.mono ?_; rintro e w1 ⟨hb1, rfl⟩; have HB1 := hid hb1; clear hb1)
    go_ret2
    rw [HQ.out]
    exact ⟨Only.of_below HB1.out, rfl, r0, K0.out.below HB1.out⟩
  | some q1 =>
    obtain ⟨n1, d1⟩ := q1
    rw [h1] at hQ hc
    simp only [Option.bind_some] at hQ
    obtain ⟨hl1, h81, hn1⟩ := rdU_less h8 h1
    replace hl1 : d1.length ≤ 100000 := Nat.le_trans hl1 hl
    have HC := hid hc
    have HQ := hid hQ
    have H81 := hid h81
    clear hQ hc h1 h8 h81 hn1 hl
    go_upto_region 5 with (go_at_call 44; refine HC.out.mono ?_; rintro e w1 ⟨hb1, v1, rfl, hs1⟩; have k1 := K0.out.below hb1; have c3 := k1.rb.c3; have z := k1.rb.free; have K1 := hid (k1.set3 n1); have S1 := hid (hs1.off HP.out (Only.set w1 ⟨g, 3, none⟩ (i64 (n1 : Int)) rfl)); clear k1 hb1 hs1 K0)
    clear c3 z HC
    have hQ := HQ.out
    have hc := S1.out.text hl1 H81.out
    clear HQ
    cases h2 : rdT d1 with
    | none =>
      rw [h2] at hQ hc
      have HQ : Hid (Q = none) := hid hQ
      have HC := hid hc
      clear hQ hc h2
      go_wp2_with (go_at_call 60; refine HC.out.mono ?_; rintro e w2 ⟨hb2, rfl⟩; have K2 := hid (K1.out.below hb2); clear hb2)
      go_ret2
      rw [HQ.out]
      exact ⟨K2.out.only, rfl, _, K2.out⟩
    | some q2 =>
      obtain ⟨s2, d2⟩ := q2
      rw [h2] at hQ hc
      simp only [Option.bind_some] at hQ
      obtain ⟨hl2, h82, _⟩ := rdT_less H81.out h2
      replace hl2 : d2.length ≤ 100000 := Nat.le_trans hl2 hl1
      have HZ : Hid (∀ t : ByteArray, lst t = s2 → t.size ≤ 65536) := hid (fun t e => txt_size H81.out h2 e)
      have HC := hid hc
      have HQ := hid hQ
      have H82 := hid h82
      clear hQ hc h2 h82 hl1 H81
      go_upto_region 9 with (go_at_call 60; refine HC.out.mono ?_; rintro e w2 ⟨hb2, t2, v2, rfl, ht2, hs2⟩; have k2 := K1.out.below hb2; have c4 := k2.rb.c4; have z := k2.rb.free; have K2 := hid (k2.set4 t2 (HZ.out t2 ht2)); have S2 := hid (hs2.off HP.out (Only.set w2 ⟨g, 4, none⟩ (.string t2) rfl)); have HT2 := hid ht2; clear k2 hb2 hs2 K1 S1 ht2)
      clear c4 z HC HZ
      have hQ := HQ.out
      have hc := S2.out.nums hl2 H82.out 2 (by omega)
      clear HQ
      cases h3 : rdN 2 d2 with
      | none =>
        rw [h3] at hQ hc
        have HQ : Hid (Q = none) := hid hQ
        have HC := hid hc
        clear hQ hc h3
        go_wp2_with (go_at_call 84; refine HC.out.mono ?_; rintro e w3 ⟨hb3, rfl⟩; have K3 := hid (K2.out.below hb3); clear hb3)
        go_ret2
        rw [HQ.out]
        exact ⟨K3.out.only, rfl, _, K3.out⟩
      | some q3 =>
        obtain ⟨x3, d3⟩ := q3
        rw [h3] at hQ hc
        simp only [Option.bind_some] at hQ
        obtain ⟨hl3, h83⟩ := rdN_less H82.out h3
        replace hl3 : d3.length ≤ 100000 := Nat.le_trans hl3 hl2
        have hx3 := rdN_len h3
        obtain ⟨xa, xb, rfl⟩ : ∃ a b, x3 = [a, b] := by
          match x3, hx3 with
          | [a, b], _ => exact ⟨a, b, rfl⟩
        simp only [List.getD_cons_zero, List.getD_cons_succ] at hQ
        have HC := hid hc
        have HQ := hid hQ
        have H83 := hid h83
        clear hQ hc h3 h83 hl2 H82 hx3
        go_upto_region 14 with (go_at_call 84; refine HC.out.mono ?_; rintro e w3 ⟨hb3, v3, u3, rfl, hi3, hs3⟩; have k3 := K2.out.below hb3; obtain ⟨gi, ci, hv3, hci, hgi, _, hcell⟩ := hi3.open_ (by simp); subst hv3; have hci2 : 2 ≤ ci := hci; have l0 : w3.cell? ⟨gi, 0, none⟩ = some (i64 (xa : Int)) := hcell 0 (by simp); have l1 : w3.cell? ⟨gi, 1, none⟩ = some (i64 (xb : Int)) := hcell 1 (by simp); have hne : g ≠ gi := (by have := K2.out.only.size; omega); have hne' : gi ≠ g := Ne.symm hne; have c5 := k3.rb.c5; have z := k3.rb.free; have k4 := k3.set5 (xa : Int); have c6 := k4.rb.c6; have z' := k4.rb.free; have K4 := hid (k4.set6 (xb : Int)); have S4 := hid ((hs3.off HP.out (Only.set w3 ⟨g, 5, none⟩ (i64 (xa : Int)) rfl)).off HP.out (Only.set _ ⟨g, 6, none⟩ (i64 (xb : Int)) rfl)); clear k3 k4 hb3 hs3 hi3 K2 S2 hcell hci; simp only [List.length_cons, List.length_nil])
        clear HC l0 l1 c5 c6 z z' hgi
        have HR4 : Hid (∃ R : Rv, (R.id = r0.id ∧ R.time = r0.time ∧ R.mark = r0.mark ∧ R.size = (n1 : Int) ∧ R.etag = t2 ∧ R.k = (xa : Int) ∧ R.m = (xb : Int) ∧ R.pv = r0.pv) ∧ DB w g R ((w3.setCell ⟨g, 5, none⟩ (i64 (xa : Int))).setCell ⟨g, 6, none⟩ (i64 (xb : Int)))) := hid ⟨{ r0 with size := (n1 : Int), etag := t2, k := (xa : Int), m := (xb : Int) }, ⟨rfl, rfl, rfl, rfl, rfl, rfl, rfl, rfl⟩, K4.out⟩
        clear K4
        generalize (w3.setCell ⟨g, 5, none⟩ (i64 (xa : Int))).setCell ⟨g, 6, none⟩ (i64 (xb : Int)) = W4 at HR4 S4 ⊢
        obtain ⟨R4, f4, k4⟩ := HR4.out
        have F4 := hid f4
        have K4 := hid k4
        have hQ := HQ.out
        have hc := S4.out.text hl3 H83.out
        clear HQ HR4 f4 k4
        cases h4 : rdT d3 with
        | none =>
          rw [h4] at hQ hc
          have HQ : Hid (Q = none) := hid hQ
          have HC := hid hc
          clear hQ hc h4
          go_wp2_with (go_at_call 60; refine HC.out.mono ?_; rintro e w5 ⟨hb5, rfl⟩; have K5 := hid (K4.out.below hb5); clear hb5)
          go_ret2
          rw [HQ.out]
          exact ⟨K5.out.only, rfl, _, K5.out⟩
        | some q4 =>
          obtain ⟨s4, d4⟩ := q4
          rw [h4] at hQ hc
          simp only [Option.bind_some] at hQ
          obtain ⟨hl4, h84, _⟩ := rdT_less H83.out h4
          replace hl4 : d4.length ≤ 100000 := Nat.le_trans hl4 hl3
          have HZ : Hid (∀ t : ByteArray, lst t = s4 → t.size ≤ 65536) := hid (fun t e => txt_size H83.out h4 e)
          have HC := hid hc
          have H84 := hid h84
          clear hc h4 h84 hl3 H83
          by_cases h32 : d4.length < 32
          · rw [if_pos h32] at hQ
            have HQ : Hid (Q = none) := hid hQ
            have h32' : (d4.length : Int) < 32 := by omega
            clear hQ
            go_wp2_with (go_at_call 60; refine HC.out.mono ?_; rintro e w5 ⟨hb5, t5, v5, rfl, ht5, ⟨⟨p5, c5, hv5, _, _⟩, _⟩⟩; subst hv5; have K5 := hid (K4.out.below hb5); clear hb5)
            go_ret2
            rw [HQ.out]
            exact ⟨K5.out.only, rfl, _, K5.out⟩
          rw [if_neg h32] at hQ
          have h32' : ¬ (d4.length : Int) < 32 := by omega
          have HQ := hid hQ
          clear hQ
          go_upto_region 18 with (go_at_call 60; refine HC.out.mono ?_; rintro e w5 ⟨hb5, t5, v5, rfl, ht5, hs5⟩; have k5 := K4.out.below hb5; have c7 := k5.rb.c7; have z := k5.rb.free; have K5 := hid (k5.set7 t5 (HZ.out t5 ht5)); have S5 := hid (hs5.off HP.out (Only.set w5 ⟨g, 7, none⟩ (.string t5) rfl)); have HT5 := hid ht5; obtain ⟨⟨p5, c5, hv5, _, hc5⟩, _⟩ := hs5; subst hv5; clear k5 hb5 K4 S4 ht5)
          clear HC c7 z HZ
          have HS5 := hid (show ∀ W, Below (w5.setCell ⟨g, 7, none⟩ (.string t5)).heap.size (w5.setCell ⟨g, 7, none⟩ (.string t5)) W → ∃ v' w', (Builtin.copy_ #[28, 28] 3 #[.slice (some ⟨g, 8, none⟩) 32 32, .slice p5 32 c5]).run Tryz.prog W = .ok v' w' ∧ (DB w g { R4 with data := t5, sum := d4.take 32 } w' ∧ SLn po w' (.slice p5 d4.length c5) d4) from fun W hW => by
            have k := K5.out.below hW
            have s := S5.out.below hW
            have e32 : (d4.take 32).length = 32 := by rw [List.length_take]; omega
            have hbl : BL W p5 d4 := by obtain ⟨⟨p', c', e, hb, _⟩, _⟩ := s; cases e; exact hb
            obtain ⟨h1, h2⟩ := k.copy (hbl.take 32) e32 (fun z hz => H84.out z (List.mem_of_mem_take hz)) c5 3
            exact ⟨_, _, h1, h2, s.off HP.out (only_setCells _ _ _ _ rfl)⟩)
          have hsl := run_sum g
          have hh : ∀ W : World, (Instr.slice 28 (.slice p5 d4.length c5) none (some (.int .i64 32)) none).run Tryz.prog W = .ok (.slice p5 32 c5) W := run_h8 p5 d4.length c5 32 (by omega)
          generalize w5.setCell ⟨g, 7, none⟩ (.string t5) = W5 at HS5 ⊢
          clear K5 S5
          go_region_held3 (fun w' => True) (trivial) (((first | refine step_copy_ex (by rfl) (.tmp 75) (.tmp 77) 28 (by rfl) (.slice (some ⟨g, 8, none⟩) 32 32) (.slice p5 32 c5) (by rfl) (by rfl) (HS5.out _ (below_drewN _ _)) ?_ | refine step_copy_ex (by rfl) (.tmp 75) (.tmp 77) 28 (by rfl) (.slice (some ⟨g, 8, none⟩) 32 32) (.slice p5 32 c5) (by rfl) (by rfl) (HS5.out _ (Below.refl _ _)) ?_); rintro v6 w6 ⟨k6, s6⟩; have K6 := hid k6; have S6 := hid s6; clear k6 s6))
          clear hsl hh HS5
          have hbl : BL w6 p5 d4 := by obtain ⟨⟨p', c', e, hb, _⟩, _⟩ := S6.out; cases e; exact hb
          obtain ⟨p6, hsl0, hS⟩ := hbl.from8n c5 32 (by omega) hc5
          have hsl : ∀ w : World, (Instr.slice 28 (.slice p5 d4.length c5) (some (.int .i64 32)) none none).run Tryz.prog w = .ok (.slice p6 (d4.length - 32) (c5 - 32)) w := hsl0
          have hS2 : SLn po w6 (.slice p6 (d4.length - 32) (c5 - 32)) (d4.drop 32) := hS.via fun a' ea => S6.out.2 a' _ _ (by rw [ea])
          have hd8 : ∀ z ∈ d4.drop 32, z < 256 := fun z hz => H84.out z (List.mem_of_mem_drop hz)
          have hdl : (d4.drop 32).length ≤ 100000 := by rw [List.length_drop]; omega
          have hc := hS2.uint hdl hd8
          have hQ := HQ.out
          have HTK : Hid (∃ y, y = d4.take 32) := hid ⟨_, rfl⟩
          clear HQ hsl0 hbl hS hS2 S6 H84
          cases h5 : rdU (d4.drop 32) with
          | none =>
            rw [h5] at hQ hc
            have HQ : Hid (Q = none) := hid hQ
            have HC := hid hc
            clear hQ hc h5
            go_wp2_with (go_at_call 44; refine HC.out.mono ?_; rintro e w7 ⟨hb7, rfl⟩; have K7 := hid (K6.out.below hb7); clear hb7)
            go_ret2
            rw [HQ.out]
            exact ⟨K7.out.only, rfl, _, K7.out⟩
          | some q5 =>
            obtain ⟨n5, d5⟩ := q5
            rw [h5] at hQ hc
            simp only [Option.bind_some] at hQ
            obtain ⟨hl5, h85, _⟩ := rdU_less hd8 h5
            replace hl5 : d5.length ≤ 100000 := Nat.le_trans hl5 hdl
            have HC := hid hc
            have H85 := hid h85
            clear hc h5 h85 hd8 hdl hl4
            by_cases hn5 : 32 < n5
            · rw [if_pos hn5] at hQ
              have HQ : Hid (Q = none) := hid hQ
              have hn5' : 32 < (n5 : Int) := by omega
              clear hQ
              go_wp2_with (go_at_call 44; refine HC.out.mono ?_; rintro e w7 ⟨hb7, v7, rfl, hs7⟩; have K7 := hid (K6.out.below hb7); clear hb7 hs7)
              go_ret2
              rw [HQ.out]
              exact ⟨K7.out.only, rfl, _, K7.out⟩
            rw [if_neg hn5] at hQ
            have hn5' : ¬ 32 < (n5 : Int) := by omega
            have HQ := hid hQ
            clear hQ
            go_upto_region 22 with (go_at_call 44; refine HC.out.mono ?_; rintro e w7 ⟨hb7, v7, rfl, hs7⟩; have K7 := hid (K6.out.below hb7); have S7 := hid hs7; clear hb7 hs7 K6)
            clear HC hsl
            have hc := S7.out.nums hl5 H85.out (2 * n5) (by omega)
            have hmul : 2 * (n5 : Int) = ((2 * n5 : Nat) : Int) := by omega
            have hQ := HQ.out
            have hdel : rdN (2 * n5) d5 = rdN (2 * n5) d5 := rfl
            clear HQ hdel
            obtain ⟨m5, hm5⟩ : ∃ m, m = 2 * n5 := ⟨_, rfl⟩
            rw [← hm5] at hc hQ hmul
            have HM5 := hid hm5
            have hm5b : m5 ≤ 64 := by omega
            clear hm5
            cases h6 : rdN m5 d5 with
            | none =>
              rw [h6] at hQ hc
              have HQ : Hid (Q = none) := hid hQ
              have HC := hid hc
              clear hQ hc h6
              go_wp2_with (go_at_call 84; refine HC.out.mono ?_; rintro e w8 ⟨hb8, rfl⟩; have K8 := hid (K7.out.below hb8); clear hb8)
              go_ret2
              rw [HQ.out]
              exact ⟨K8.out.only, rfl, _, K8.out⟩
            | some q6 =>
              obtain ⟨x6, d6⟩ := q6
              rw [h6] at hQ hc
              simp only [Option.bind_some] at hQ
              obtain ⟨hl6, h86⟩ := rdN_less H85.out h6
              replace hl6 : d6.length ≤ 100000 := Nat.le_trans hl6 hl5
              have hx6 := rdN_len h6
              have HC := hid hc
              have HQ := hid hQ
              have H86 := hid h86
              clear hQ hc h6 h86 hl5 H85
              go_wp2_with (go_at_call 84; refine HC.out.mono ?_; rintro e w8 ⟨hb8, v8, u8', rfl, hi8, hs8⟩; have K8 := hid (K7.out.below hb8); have S8 := hid hs8; have I8 := hid hi8; have HB8 := hid (K7.out.only.size); clear hb8 hs8 hi8 K7 S7)
              clear HC hmul hm5b hne hne' hci2 HTK
              obtain ⟨R8, f8, k8⟩ : ∃ R : Rv, (R.id = r0.id ∧ R.time = (t : Int) ∧ R.mark = false ∧ R.size = (n1 : Int) ∧ R.etag = t2 ∧ R.k = (xa : Int) ∧ R.m = (xb : Int) ∧ R.data = t5 ∧ R.sum = d4.take 32 ∧ R.pv = .slice none 0 0) ∧ DB w g R w8 := by
                obtain ⟨b1, b2, b3, b4, b5, b6, b7, b8⟩ := F4.out
                exact ⟨{ R4 with data := t5, sum := d4.take 32 }, ⟨b1, b2.trans HT.out, b3.trans HM.out, b4, b5, b6, b7, rfl, rfl, b8.trans HPV.out⟩, K8.out⟩
              have F8 := hid f8
              replace K8 := hid k8
              clear f8 k8 F4
              go_loopw [10] (fun iv wr => ∃ (k : Nat) (pv : Value), k ≤ n5 ∧ iv = i64 k ∧ DB w8 g { R8 with pv := pv } wr ∧ PBuf w8.heap.size wr pv (pairs (x6.take (2 * k)))) (fun iv _ => (n5 - intOf iv).toNat)
              case atStart => exact ⟨0, R8.pv, by omega, rfl, ⟨K8.out.ok, K8.out.rb, Only.refl _ _⟩, by rw [F8.out.2.2.2.2.2.2.2.2.2]; exact PBuf.nil _ _⟩
              case round =>
                obtain ⟨k, pv, hk, rfl, hdb, hpb⟩ := hrel
                have hxl : x6.length = 2 * n5 := by rw [hx6]; exact HM5.out
                have hpl : (pairs (x6.take (2 * k))).length = k := pairs_len k _ (by rw [List.length_take]; omega)
                have HDB := hid hdb
                have HPB := hid hpb
                have HOW : Hid (∀ b, pv.ownBlock = some b → w8.heap.size ≤ b) := hid (fun b hb => (own_ge hpb b hb).1)
                obtain ⟨pp, cp, hpv, hcp⟩ := hpb.form
                have hs8 := hdb.only.size
                have hg8 : g < w8.heap.size := K8.out.rb.at_.lt
                clear hpb hdb
                by_cases hlt : k < n5
                · have hlt' : (k : Int) < (n5 : Int) := by omega
                  have hI : IBuf w7.heap.size wr v8 x6 := I8.out.keep fun b hb => HDB.out.only.block b (own_ge I8.out b hb).2 (fun e => by have := (own_ge I8.out b hb).1; have := HB8.out; omega)
                  obtain ⟨gi, ci, hvi, hci, hgi, hgl, hcell⟩ := hI.open_ (fun e => by rw [e] at hxl; simp at hxl; omega)
                  have HPT := hid (pairs_take x6 k (by omega))
                  have l0 := hcell (2 * k) (by omega)
                  have l1 := hcell (2 * k + 1) (by omega)
                  obtain ⟨j, hj⟩ : ∃ j, j = 2 * k := ⟨_, rfl⟩
                  have hm7 : IntKind.i64.wrap (2 * (k : Int)) = (j : Int) := by rw [IntKind.wrap_i64]; omega
                  have hm8 : IntKind.i64.wrap ((j : Int) + 1) = ((j + 1 : Nat) : Int) := by rw [IntKind.wrap_i64]; omega
                  rw [← hj] at l0 l1
                  have hjl : j + 1 < x6.length := by omega
                  have hjl1 : (j : Int) < (x6.length : Int) := by omega
                  have hjl2 : ((j + 1 : Nat) : Int) < (x6.length : Int) := by omega
                  generalize hX : ((x6.getD j 0 : Nat) : Int) = X at l0
                  generalize hY : ((x6.getD (j + 1) 0 : Nat) : Int) = Y at l1
                  rw [← hj, hX, hY] at HPT
                  subst hvi
                  have c40 := HDB.out.rb.c40
                  have hpb2 : PBuf w8.heap.size wr.drew pv (pairs (x6.take (2 * k))) := HPB.out.keep (fun _ _ => rfl)
                  rw [hpl] at hpv hcp
                  rw [← hj] at hpb2 hpl
                  obtain ⟨v9, w9, hrun, hpb9, hg9⟩ := hpb2.push X Y (by rw [hpl]; omega) hs8
                  have ho9 : Only (fun b => pv.ownBlock = some b) wr w9 := ((Only.of_below (below_drew wr)).trans (Only.alloc _ _)).trans (Only.of_grown hg9 fun b e _ => e)
                  have HK9 : Hid (w9.heap[gi]? = wr.heap[gi]?) := hid (ho9.block gi hgl (fun e => by have := HOW.out gi e; have := (own_ge I8.out gi rfl).2; omega))
                  have hdb9 := HDB.out.grow ho9 (fun i e => by have := HOW.out i e; omega)
                  obtain ⟨p9, c9, hv9, hc9⟩ := hpb9.form
                  rw [← HPT.out] at hpb9 hv9 hc9
                  subst hv9
                  have c40 := HDB.out.rb.c40
                  have d40 := hdb9.rb.c40
                  have f40 := hdb9.rb.free
                  have HRUN := hid hrun
                  have HPB9 := hid hpb9
                  have HDB9 := hid hdb9
                  subst hpv
                  clear hpb2 hrun hpb9 hg9 ho9 hdb9 hI hcell HPT HPB hc9 hX hY
                  have HSF : Hid (∀ W : World, W.heap[gi]? = wr.heap[gi]? → W.cell? ⟨gi, j, none⟩ = some (i64 X) ∧ W.cell? ⟨gi, j + 1, none⟩ = some (i64 Y)) := hid (fun W hW => ⟨(World.cell?_of_block (a := ⟨gi, j, none⟩) hW).trans l0, (World.cell?_of_block (a := ⟨gi, j + 1, none⟩) hW).trans l1⟩)
                  have HKA : Hid ((wr.drew.alloc (.cells #[i64 X, i64 Y] 103)).heap[gi]? = wr.heap[gi]?) := hid (heap_alloc_old wr.drew _ (show gi < wr.drew.heap.size from hgl))
                  have hgw : g < wr.heap.size := by omega
                  have HG40 : Hid ((wr.drew.alloc (.cells #[i64 X, i64 Y] 103)).cell? ⟨g, 40, none⟩ = wr.cell? ⟨g, 40, none⟩) := hid (World.cell?_of_block (a := ⟨g, 40, none⟩) (heap_alloc_old wr.drew _ (show g < wr.drew.heap.size from hgw)))
                  have c40a := HG40.out.trans c40
                  have HKS : Hid ((w9.setCell ⟨g, 40, none⟩ (.slice p9 (pairs (x6.take (2 * (k + 1)))).length c9)).heap[gi]? = wr.heap[gi]?) := hid ((heap_setCell_ne _ _ _ _ (show gi ≠ g by have := HB8.out; omega)).trans HK9.out)
                  have HJ := hid hj
                  have HX6 := hid hx6
                  clear l0 l1 hj hx6 hxl
                  go_wp2_with fail
                  refine wp_region_held_drew (S := fun W => W.cell? ⟨gi, j, none⟩ = some (i64 X) ∧ W.cell? ⟨gi, j + 1, none⟩ = some (i64 Y)) (by kernel_rfl) (HSF.out _ rfl) (fun hHeld => ?_)
                  refine wpAnyH_take (i := 0) (oi := ⟨some 107, .move (.tmp 0), _, _, _, none⟩) (v := ptr g) rfl (by kernel_rfl) (by kernel_rfl) (by kernel_rfl) (fun _ _ _ h => h) (Or.inl ⟨by kernel_rfl, by intro W hW; go_simp⟩) hHeld ?_
                  refine wpAnyH_take (i := 1) (oi := ⟨some 108, .move (.tmp 0), _, _, _, none⟩) (v := ptr g) rfl (by kernel_rfl) (by kernel_rfl) (by kernel_rfl) (fun _ _ _ h => h) (Or.inl ⟨by kernel_rfl, by intro W hW; go_simp⟩) hHeld ?_
                  refine wpAnyH_take (i := 2) (oi := ⟨some 109, .nilCheck (.tmp 108), _, _, _, none⟩) (v := ptr g) rfl (by kernel_rfl) (by kernel_rfl) (by kernel_rfl) (fun _ _ _ h => h) (Or.inl ⟨by kernel_rfl, by intro W hW; go_simp⟩) hHeld ?_
                  refine wpAnyH_take (i := 3) (oi := ⟨some 110, .fieldAddr 74 (.tmp 109) 9, _, _, _, none⟩) (v := .pointer (some ⟨g, 40, none⟩)) rfl (by kernel_rfl) (by kernel_rfl) (by kernel_rfl) (fun _ _ _ h => h) (Or.inl ⟨by kernel_rfl, by intro W hW; go_simp⟩) hHeld ?_
                  refine wpAnyH_take (i := 5) (oi := ⟨some 112, .move (.tmp 9), _, _, _, none⟩) (v := .slice (some ⟨gi, 0, none⟩) x6.length ci) rfl (by kernel_rfl) (by kernel_rfl) (by kernel_rfl) (fun _ _ _ h => h) (Or.inl ⟨by kernel_rfl, by intro W hW; go_simp⟩) hHeld ?_
                  refine wpAnyH_take (i := 6) (oi := ⟨some 113, .move (.tmp 10), _, _, _, none⟩) (v := i64 k) rfl (by kernel_rfl) (by kernel_rfl) (by kernel_rfl) (fun _ _ _ h => h) (Or.inl ⟨by kernel_rfl, by intro W hW; go_simp⟩) hHeld ?_
                  refine wpAnyH_take (i := 7) (oi := ⟨some 114, .binOp .mul 3 (.const (.int .i64 2)) (.tmp 113) 3, _, _, _, none⟩) (v := i64 j) rfl (by kernel_rfl) (by kernel_rfl) (by kernel_rfl) (fun _ _ _ h => h) (Or.inl ⟨by kernel_rfl, by intro W hW; go_simp⟩) hHeld ?_
                  refine wpAnyH_take (i := 8) (oi := ⟨some 115, .indexAddr 86 (.tmp 112) (.tmp 114), _, _, _, none⟩) (v := .pointer (some ⟨gi, j, none⟩)) rfl (by kernel_rfl) (by kernel_rfl) (by kernel_rfl) (fun _ _ _ h => h) (Or.inl ⟨by kernel_rfl, by intro W hW; go_simp⟩) hHeld ?_
                  refine wpAnyH_take (i := 9) (oi := ⟨some 116, .load 3 (.tmp 115), _, _, _, none⟩) (v := i64 X) rfl (by kernel_rfl) (by kernel_rfl) (by kernel_rfl) (fun _ _ _ h => h) (Or.inl ⟨by kernel_rfl, by intro W hW; have x9 := hW.1; go_simp⟩) hHeld ?_
                  refine wpAnyH_take (i := 10) (oi := ⟨some 117, .move (.tmp 9), _, _, _, none⟩) (v := .slice (some ⟨gi, 0, none⟩) x6.length ci) rfl (by kernel_rfl) (by kernel_rfl) (by kernel_rfl) (fun _ _ _ h => h) (Or.inl ⟨by kernel_rfl, by intro W hW; go_simp⟩) hHeld ?_
                  refine wpAnyH_take (i := 11) (oi := ⟨some 118, .move (.tmp 10), _, _, _, none⟩) (v := i64 k) rfl (by kernel_rfl) (by kernel_rfl) (by kernel_rfl) (fun _ _ _ h => h) (Or.inl ⟨by kernel_rfl, by intro W hW; go_simp⟩) hHeld ?_
                  refine wpAnyH_take (i := 12) (oi := ⟨some 119, .binOp .mul 3 (.const (.int .i64 2)) (.tmp 118) 3, _, _, _, none⟩) (v := i64 j) rfl (by kernel_rfl) (by kernel_rfl) (by kernel_rfl) (fun _ _ _ h => h) (Or.inl ⟨by kernel_rfl, by intro W hW; go_simp⟩) hHeld ?_
                  refine wpAnyH_take (i := 13) (oi := ⟨some 120, .binOp .add 3 (.tmp 119) (.const (.int .i64 1)) 3, _, _, _, none⟩) (v := i64 ((j + 1 : Nat) : Int)) rfl (by kernel_rfl) (by kernel_rfl) (by kernel_rfl) (fun _ _ _ h => h) (Or.inl ⟨by kernel_rfl, by intro W hW; go_simp⟩) hHeld ?_
                  refine wpAnyH_take (i := 14) (oi := ⟨some 121, .indexAddr 86 (.tmp 117) (.tmp 120), _, _, _, none⟩) (v := .pointer (some ⟨gi, j + 1, none⟩)) rfl (by kernel_rfl) (by kernel_rfl) (by kernel_rfl) (fun _ _ _ h => h) (Or.inl ⟨by kernel_rfl, by intro W hW; go_simp; intro hx; exact absurd (hx (by omega)) (by omega)⟩) hHeld ?_
                  refine wpAnyH_take (i := 15) (oi := ⟨some 122, .load 3 (.tmp 121), _, _, _, none⟩) (v := i64 Y) rfl (by kernel_rfl) (by kernel_rfl) (by kernel_rfl) (fun _ _ _ h => h) (Or.inl ⟨by kernel_rfl, by intro W hW; have x9 := hW.2; go_simp⟩) hHeld ?_
                  refine wpAnyH_take (i := 16) (oi := ⟨some 123, .build 103 #[(0, .tmp 116), (1, .tmp 122)], _, _, _, none⟩) (v := .agg #[i64 X, i64 Y]) rfl (by kernel_rfl) (by kernel_rfl) (by kernel_rfl) (fun _ _ _ h => h) (Or.inl ⟨by kernel_rfl, by intro W hW; go_simp⟩) hHeld ?_
                  refine wpAnyH_ready (rs := [4, 17]) (by kernel_rfl) (by simp) ?_
                  refine AllReadyH.cons rfl (fun K hK => ?_) (AllReadyH.cons rfl (fun K hK => ?_) AllReadyH.nil)
                  · go_simp
                    refine hK.out _ _ (HSF.out _ rfl) (fun hHeld => ?_)
                    clear hK K
                    refine wpAnyH_ready (rs := [17]) (by kernel_rfl) (by simp) ?_
                    refine AllReadyH.cons rfl (fun K hK => ?_) AllReadyH.nil
                    go_simp
                    refine hK.out _ _ (HSF.out _ HKA.out) (fun hHeld => ?_)
                    clear hK K
                    refine wpAnyH_ready (rs := [18]) (by kernel_rfl) (by simp) ?_
                    refine AllReadyH.cons (o := ⟨some 125, .call { callee := .builtin .append, args := #[.tmp 111, .tmp 124], argTypes := #[72, 72] }, 72, _, _, none⟩) rfl (fun K hK => ?_) AllReadyH.nil
                    with_reducible refine step_append_ex (R := fun v' w' => v' = .slice p9 (pairs (x6.take (2 * (k + 1)))).length c9 ∧ w' = w9) ?_ (.tmp 111) (.tmp 124) 72 ?_ (.slice pp k cp) (.slice (some ⟨wr.heap.size, 0, none⟩) 1 1) ?_ ?_ ?_ ?_
                    · exact rfl
                    · exact rfl
                    · kernel_rfl
                    · kernel_rfl
                    · exact ⟨_, _, HRUN.out, rfl, rfl⟩
                    rintro v' w' ⟨hv9, hw9⟩
                    subst hv9 hw9
                    refine hK.out _ _ (HSF.out _ HK9.out) (fun hHeld => ?_)
                    clear hK K
                    refine wpAnyH_take (i := 19) (oi := ⟨some 126, .nilCheck (.tmp 107), _, _, _, none⟩) (v := ptr g) rfl (by kernel_rfl) (by kernel_rfl) (by kernel_rfl) (fun _ _ _ h => h) (Or.inl ⟨by kernel_rfl, by intro W hW; go_simp⟩) hHeld ?_
                    refine wpAnyH_take (i := 20) (oi := ⟨some 127, .fieldAddr 74 (.tmp 126) 9, _, _, _, none⟩) (v := .pointer (some ⟨g, 40, none⟩)) rfl (by kernel_rfl) (by kernel_rfl) (by kernel_rfl) (fun _ _ _ h => h) (Or.inl ⟨by kernel_rfl, by intro W hW; go_simp⟩) hHeld ?_
                    refine wpAnyH_ready (rs := [21]) (by kernel_rfl) (by simp) ?_
                    refine AllReadyH.cons rfl (fun K hK => ?_) AllReadyH.nil
                    go_simp
                    refine hK.out _ _ (HSF.out _ HKS.out) (fun hHeld => ?_)
                    clear hK K
                    refine wpAnyH_done (by kernel_rfl) ?_ _
                    (try simp only [Act.put, List.setIfInBounds_toArray, List.set_cons_zero, List.set_cons_succ])
                    go_wp2
                    refine ⟨⟨k + 1, _, by omega, by simp, HDB9.out.set40 (.slice p9 (pairs (x6.take (2 * (k + 1)))).length c9), HPB9.out.keep fun b hb => heap_setCell_ne _ _ _ _ (fun e => ?_)⟩, by simp [intOf]; omega⟩
                    have h1 : w8.heap.size ≤ b := (own_ge HPB9.out b hb).1
                    have h2 : b = g := e
                    omega
                  · go_simp
                    refine hK.out _ _ (HSF.out _ HKA.out) (fun hHeld => ?_)
                    clear hK K
                    refine wpAnyH_ready (rs := [4]) (by kernel_rfl) (by simp) ?_
                    refine AllReadyH.cons rfl (fun K hK => ?_) AllReadyH.nil
                    go_simp
                    refine hK.out _ _ (HSF.out _ HKA.out) (fun hHeld => ?_)
                    clear hK K
                    refine wpAnyH_ready (rs := [18]) (by kernel_rfl) (by simp) ?_
                    refine AllReadyH.cons (o := ⟨some 125, .call { callee := .builtin .append, args := #[.tmp 111, .tmp 124], argTypes := #[72, 72] }, 72, _, _, none⟩) rfl (fun K hK => ?_) AllReadyH.nil
                    with_reducible refine step_append_ex (R := fun v' w' => v' = .slice p9 (pairs (x6.take (2 * (k + 1)))).length c9 ∧ w' = w9) ?_ (.tmp 111) (.tmp 124) 72 ?_ (.slice pp k cp) (.slice (some ⟨wr.heap.size, 0, none⟩) 1 1) ?_ ?_ ?_ ?_
                    · exact rfl
                    · exact rfl
                    · kernel_rfl
                    · kernel_rfl
                    · exact ⟨_, _, HRUN.out, rfl, rfl⟩
                    rintro v' w' ⟨hv9, hw9⟩
                    subst hv9 hw9
                    refine hK.out _ _ (HSF.out _ HK9.out) (fun hHeld => ?_)
                    clear hK K
                    refine wpAnyH_take (i := 19) (oi := ⟨some 126, .nilCheck (.tmp 107), _, _, _, none⟩) (v := ptr g) rfl (by kernel_rfl) (by kernel_rfl) (by kernel_rfl) (fun _ _ _ h => h) (Or.inl ⟨by kernel_rfl, by intro W hW; go_simp⟩) hHeld ?_
                    refine wpAnyH_take (i := 20) (oi := ⟨some 127, .fieldAddr 74 (.tmp 126) 9, _, _, _, none⟩) (v := .pointer (some ⟨g, 40, none⟩)) rfl (by kernel_rfl) (by kernel_rfl) (by kernel_rfl) (fun _ _ _ h => h) (Or.inl ⟨by kernel_rfl, by intro W hW; go_simp⟩) hHeld ?_
                    refine wpAnyH_ready (rs := [21]) (by kernel_rfl) (by simp) ?_
                    refine AllReadyH.cons rfl (fun K hK => ?_) AllReadyH.nil
                    go_simp
                    refine hK.out _ _ (HSF.out _ HKS.out) (fun hHeld => ?_)
                    clear hK K
                    refine wpAnyH_done (by kernel_rfl) ?_ _
                    (try simp only [Act.put, List.setIfInBounds_toArray, List.set_cons_zero, List.set_cons_succ])
                    go_wp2
                    refine ⟨⟨k + 1, _, by omega, by simp, HDB9.out.set40 (.slice p9 (pairs (x6.take (2 * (k + 1)))).length c9), HPB9.out.keep fun b hb => heap_setCell_ne _ _ _ _ (fun e => ?_)⟩, by simp [intOf]; omega⟩
                    have h1 : w8.heap.size ≤ b := (own_ge HPB9.out b hb).1
                    have h2 : b = g := e
                    omega
                · have hlt' : ¬ (k : Int) < (n5 : Int) := by omega
                  have hk2 : k = n5 := by omega
                  have htk : x6.take (2 * k) = x6 := List.take_of_length_le (by omega)
                  have hPL := (by have h := HPB.out; rw [hpv] at h; exact h.pl (by rw [hpl]; omega) cp hcp (Or.inr rfl) : _ ∧ PLF w8.heap.size wr (.slice pp (pairs (x6.take (2 * k))).length cp) (pairs (x6.take (2 * k)))).2
                  rw [htk] at hPL
                  have HPL := hid hPL
                  have S9 := hid (S8.out.off HP.out HDB.out.only)
                  have hc := S9.out.text hl6 H86.out
                  have hQ := HQ.out
                  have HONE : Hid (pv = .slice pp (pairs x6).length cp) := hid (by rw [hpv, htk])
                  clear HQ HPB hPL hpv hcp hpl htk hxl hx6 S8 I8
                  cases h7 : rdT d6 with
                  | none =>
                    rw [h7] at hQ hc
                    have HQ : Hid (Q = none) := hid hQ
                    have HC := hid hc
                    clear hQ hc h7
                    go_wp2_with (go_at_call 60; refine HC.out.mono ?_; rintro e w9 ⟨hb9, rfl⟩; have k9 := HDB.out.below hb9; have c41 := k9.rb.c41; have z := k9.rb.free; have K9 := hid (k9.set41 ⟨#[]⟩ (by decide)); clear k9 hb9)
                    go_ret2
                    rw [HQ.out]
                    exact ⟨K8.out.only.trans K9.out.only, rfl, _, K9.out.ok, K9.out.rb, K8.out.only.trans K9.out.only⟩
                  | some q7 =>
                    obtain ⟨s7, d7⟩ := q7
                    rw [h7] at hQ hc
                    simp only [Option.map_some] at hQ
                    have HZ : Hid (∀ t : ByteArray, lst t = s7 → t.size ≤ 65536) := hid (fun t e => txt_size H86.out h7 e)
                    have HC := hid hc
                    have HQ := hid hQ
                    clear hc h7 hQ
                    go_wp2_with (go_at_call 60; refine HC.out.mono ?_; rintro e w9 ⟨hb9, t9, v9, rfl, ht9, hs9⟩; have k9 := HDB.out.below hb9; have c41 := k9.rb.c41; have z := k9.rb.free; have K9 := hid (k9.set41 t9 (HZ.out t9 ht9)); have S10 := hid (hs9.off HP.out (Only.set w9 ⟨g, 41, none⟩ (.string t9) rfl)); have HB9 := hid hb9; have HT9 := hid ht9; clear k9 hb9 hs9 ht9)
                    go_ret2
                    rw [HQ.out]
                    have ho := K8.out.only.trans K9.out.only
                    refine ⟨ho, _, pairs x6, v9, rfl, ⟨K9.out.ok, K9.out.rb, ho⟩, ?_, ?_, S10.out⟩
                    · obtain ⟨b1, b2, b3, b4, b5, b6, b7, b8, b9, b10⟩ := F8.out
                      simp only [Rv.rc, b1, b2, b3, b4, b5, b6, b7, b8, b9, HT2.out, HT5.out, HT9.out]
                    · show PLF w.heap.size _ pv (pairs x6)
                      rw [HONE.out]
                      exact ((HPL.out.only (Only.of_below (S := fun b => b = g) HB9.out) (fun i e => by omega)).only (Only.set (S := fun b => b = g) w9 ⟨g, 41, none⟩ (.string t9) rfl) (fun i e => by omega)).base K8.out.only.size
end Go.Proofs.YtelkijiphhoacaaGreatDoor

/- Contracts of the document's parts, Check and Same. (Written by tools/gen_Vu.py.) -/
namespace Go.Proofs.YtelkijiphhoacaaGreatDoor
open Go Go.RowKit

set_option maxRecDepth 100000 in
set_option maxHeartbeats 1000000 in
theorem rParts_any (v : Value) (ps : Ps) (size : Int) (w : World) (hv : PL w v ps) : Calls Tryz.prog 66 #[v, i64 size] w fun e w' => e = .returned (.bool (okParts ps size)) ∧ w' = w := by
  have HV := hid hv
  obtain ⟨po, c, rfl, hc, hl, _⟩ := hv
  by_cases hbig : 32 < ps.length
  · have hbig' : 32 < (ps.length : Int) := by omega
    have e : Hid (okParts ps size = false) := by unfold okParts Hid; simp; omega
    go_enter Tryz.func66, Tryz.ntmps66
    go_wp2
    go_ret
    exact ⟨by rw [e.out]; rfl, rfl⟩
  have hsm : ¬ 32 < (ps.length : Int) := by omega
  have HE : Hid (okParts ps size = (okPs 0 ps && (ps.isEmpty || decide (sumPs ps = size)))) := hid (by unfold okParts; rw [decide_eq_true (show ps.length ≤ 32 by omega), Bool.true_and])
  go_enter Tryz.func66, Tryz.ntmps66
  go_wp2
  go_loopw [5, 6, 7] (fun sv lv iv wr => ∃ (k : Nat) (last sum : Int), k ≤ ps.length ∧ sv = i64 sum ∧ lv = i64 last ∧ iv = i64 k ∧ 0 ≤ last ∧ last ≤ 10000 ∧ 0 ≤ sum ∧ sum ≤ 65536 * k ∧ okPs 0 ps = okPs last (ps.drop k) ∧ sumPs ps = sum + sumPs (ps.drop k) ∧ w = wr) (fun _ _ iv _ => (ps.length - intOf iv).toNat)
  case atStart => exact ⟨0, 0, 0, by omega, rfl, rfl, rfl, by omega, by omega, by omega, by omega, rfl, by simp, rfl⟩
  case round =>
    clear hsm
    obtain ⟨k, last, sum, hk, rfl, rfl, rfl, hl0, hl1, hs0, hs1, hR, hS, hw⟩ := hrel
    subst hw
    by_cases hlt : k < ps.length
    · have hlt' : (k : Int) < (ps.length : Int) := by omega
      rw [drop_consP hlt] at hR hS
      rw [okPs] at hR
      have hS2 : sumPs (ps.getD k (0, 0) :: ps.drop (k + 1)) = (ps.getD k (0, 0)).2 + sumPs (ps.drop (k + 1)) := by simp [sumPs]
      rw [hS2] at hS
      obtain ⟨b, o, hpo, x1, x2⟩ := HV.out.at hlt
      subst hpo
      have HR := hid hR
      have HS := hid hS
      clear hR hS hS2
      generalize hX1 : (ps.getD k (0, 0)).1 = X1 at *
      generalize hX2 : (ps.getD k (0, 0)).2 = X2 at *
      clear hX1 hX2
      have hbad : okPs 0 ps = false → okParts ps size = false := fun h => by rw [HE.out, h]; rfl
      have HBAD := hid hbad
      clear hbad
      by_cases i1 : X1 ≤ last
      · have e : Hid (okParts ps size = false) := HBAD.out (by rw [HR.out, decide_eq_false (by omega)]; rfl)
        go_wp2
        go_ret
        exact ⟨by rw [e.out]; rfl, by trivial⟩
      by_cases i2 : 10000 < X1
      · have e : Hid (okParts ps size = false) := HBAD.out (by rw [HR.out, decide_eq_false (p := X1 ≤ 10000) (by omega)]; simp)
        go_wp2
        go_ret
        exact ⟨by rw [e.out]; rfl, by trivial⟩
      cases i3 : inR X2 0 65536
      · have e : Hid (okParts ps size = false) := HBAD.out (by rw [HR.out, i3]; simp)
        go_wp2_with (go_at_call 63; refine (from_any _ _ _ _).mono ?_; rintro e w' ⟨rfl, hw'⟩; rw [i3]; have hw2 := hw'.symm; subst hw2)
        go_ret
        exact ⟨by rw [e.out]; rfl, by trivial⟩
      · have hr2 := inR_iff.1 i3
        have hr3 := hr2.1
        have hr4 := hr2.2
        clear hr2
        have HN : Hid (okPs 0 ps = okPs X1 (ps.drop (k + 1))) := by
          unfold Hid
          rw [HR.out, decide_eq_true (p := last < X1) (by omega), decide_eq_true (p := X1 ≤ 10000) (by omega), i3]; rfl
        go_wp2_with (go_at_call 63; refine (from_any _ _ _ _).mono ?_; rintro e w' ⟨rfl, hw'⟩; rw [i3]; have hw2 := hw'.symm; subst hw2)
        exact ⟨⟨k + 1, X1, sum + X2, by omega, rfl, rfl, by simp, by omega, by omega, by omega, by omega, HN.out, by have := HS.out; omega, by trivial⟩, by simp [intOf]; omega⟩
    · have hlt' : ¬ (k : Int) < (ps.length : Int) := by omega
      rw [List.drop_eq_nil_of_le (by omega)] at hR hS
      have hR' : okPs 0 ps = true := hR
      have hS' : sumPs ps = sum := by rw [hS]; simp [sumPs]
      have HR : Hid (okParts ps size = (ps.isEmpty || decide (sum = size))) := by unfold Hid; rw [HE.out, hR', hS']; rfl
      clear hR hS hR' hS' HE
      by_cases h0 : ps = []
      · subst h0
        go_wp2
        go_ret
        exact ⟨by rw [HR.out]; rfl, by trivial⟩
      · have hz : ((ps.length : Int) == 0) = false := by have := List.length_pos_iff.2 h0; simp; omega
        have hie : ps.isEmpty = false := by cases ps <;> simp_all
        rw [hie] at HR
        by_cases he : sum = size
        · have he' : (sum == size) = true := by simpa using he
          go_wp2
          go_ret
          exact ⟨by rw [HR.out, decide_eq_true he]; rfl, by trivial⟩
        · have he' : (sum == size) = false := by simpa using he
          go_wp2
          go_ret
          exact ⟨by rw [HR.out, decide_eq_false he]; rfl, by trivial⟩
theorem rIDb {s : ByteArray} {b : Bool} (h : okId (lst s) = b) (w : World) (hs : s.size ≤ 1000000) : Calls Tryz.prog 62 #[.string s] w fun e w' => e = .returned (.bool b) ∧ w' = w := by rw [← h]; exact rID_any s w hs
theorem zeroD_len : zeroD.length = 32 := by simp [zeroD]
theorem built_zero : Tryz.prog.built 66 [] = some (sumC zeroD) := by kernel_rfl
set_option maxRecDepth 100000 in
theorem neqSum {x y : List Nat} (hx : x.length = 32) (hy : y.length = 32) (w : World) : (binOp .neq 66 (.agg (sumC x)) (.agg (sumC y))).run Tryz.prog w = .ok (.bool (!decide (x = y))) w := by
  rw [run_neq_struct, eqSum_in hx hy 9999 (fun a b w => by
    have := run_equalIn_int (P := Tryz.prog) w 9998 5 .u8 .u8 (a : Int) (b : Int) Tryz.underlying5
    unfold u8
    rw [this]
    congr 1
    rw [Bool.eq_iff_iff]; simp; omega) w]
  rfl
end Go.Proofs.YtelkijiphhoacaaGreatDoor
