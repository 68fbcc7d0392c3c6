/- Contract of remake of package stripe: out of the first k shards that are there those of some rows of the code are made, in new memory; if fewer are there the error's number is told; what was there is as it was. -/
import Derived.Test.YtapgdenodhcliaaSg
import Derived.Test.YtapgdenodhcliaaLz
namespace Go.Proofs.Ytapgdenodhcliaa
open Go.RowKit

/-- The inverse, as the sweep tells it. -/
def ivm (n : Nat) (A : Nat → Nat → K) : Nat → Nat → K := fun a b => match (List.range n).find? (fun i => piv (sw A n n) i == a) with
  | some i => (sw A n n).T i (piv (sw A n n) b)
  | none => 0
theorem ivm_ord {n : Nat} {A : Nat → Nat → K} (hr : (sw A n n).l.length = n) : IsOrd (sw A n n) n (ivm n A) := fun i hi b _ => by
  have h1 : ((List.range n).find? (fun r => piv (sw A n n) r == piv (sw A n n) i)).isSome = true := by
    rw [List.find?_isSome]; exact ⟨i, by simpa using hi, by simp⟩
  obtain ⟨r, hf⟩ := Option.isSome_iff_exists.1 h1
  have h2 : piv (sw A n n) r = piv (sw A n n) i := by simpa using List.find?_some hf
  have h3 : r < n := by simpa using List.mem_of_find?_eq_some hf
  have h4 := full_inj hr r i h3 hi h2
  subst h4
  unfold ivm
  rw [hf]
theorem ivm_left {n : Nat} {A : Nat → Nat → K} (hr : (sw A n n).l.length = n) : ∀ i, i < n → ∀ j, j < n → pr n (ivm n A) A i j = on i j := fun i hi j hj => full_left hr (ivm_ord hr) i j hi hj
theorem ivm_eq {n : Nat} {A Y : Nat → Nat → K} (hr : (sw A n n).l.length = n) (h1 : ∀ i, i < n → ∀ j, j < n → pr n Y A i j = on i j) (i j : Nat) (hi : i < n) (hj : j < n) : Y i j = ivm n A i j :=
  inv_one h1 (fun i hi j hj => full_right hr (ivm_ord hr) i j hi hj) i j hi hj
/-- All shards, made of the first k that are there. -/
def mdd (k N : Nat) (H : Nat → Bool) (S : Nat → Nat → K) : Nat → Nat → K := pr k (pr k (codeX k) (ivm k fun i c => codeX k (pl (tk H k N) i) c)) (fun i j => S (pl (tk H k N) i) j)
/-- The rows that are taken are independent. -/
theorem tk_rank (k N : Nat) (H : Nat → Bool) (hk : k ≤ 16) (hN : N ≤ 256) (hc : k ≤ cn H N) : (sw (fun i c => codeX k (pl (tk H k N) i) c) k k).l.length = k := by
  have hl : (tk H k N).length = k := by rw [tk_len]; omega
  exact indep_full (code_indep k (fun i => pl (tk H k N) i) (codeX k) (fun _ _ => rfl) hk (fun i hi => by have := (tk_get H k N i (by omega)).1; show pl (tk H k N) i < 256; unfold pl; omega) (fun a b ha hb e => tk_inj H k N a b (by omega) (by omega) e)) k (Nat.le_refl _)
theorem tk_lt {k N : Nat} {H : Nat → Bool} (hc : k ≤ cn H N) (i : Nat) (hi : i < k) : pl (tk H k N) i < N ∧ H (pl (tk H k N) i) = true := by
  have hl : (tk H k N).length = k := by rw [tk_len]; omega
  exact tk_get H k N i (by omega)
theorem tk_left (k N : Nat) (H : Nat → Bool) (hk : k ≤ 16) (hN : N ≤ 256) (hc : k ≤ cn H N) : ∀ i, i < k → ∀ j, j < k → pr k (ivm k fun i c => codeX k (pl (tk H k N) i) c) (fun i c => codeX k (pl (tk H k N) i) c) i j = on i j :=
  ivm_left (tk_rank k N H hk hN hc)

set_option maxRecDepth 100000 in
set_option maxHeartbeats 8000000 in
theorem remake_any (pR pC pS pH : Option Addr) (nr k m l cR cC cS cH : Nat) (AR AC AS : Nat → Option Addr) (CR CC L CS : Nat → Nat) (S : Nat → Nat → K) (H : Nat → Bool) (w : World)
    (hR : MatAt w pR nr AR (fun _ => k) CR (codeX k)) (hC : MatAt w pC (k + m) AC (fun _ => k) CC (codeX k)) (hS : MatAt w pS (k + m) AS L CS S) (hH : BoolsAt w pH (k + m) H) (h0 : 1 ≤ k) (h : k + m ≤ 16) (hnr : 1 ≤ nr) (hnr2 : nr ≤ 32)
    (hl : l ≤ 65536) (hL : ∀ i, i < k + m → H i = true → L i = l) :
    Calls Try.prog 44 #[.slice pR nr cR, .slice pC (k + m) cC, .slice pS (k + m) cS, .slice pH (k + m) cH] w fun e w' => Below w.heap.size w w' ∧ ((cn H (k + m) < k ∧ e = .returned (.tuple #[.slice none 0 0, .int .i64 10])) ∨
      (k ≤ cn H (k + m) ∧ ∃ g G, e = .returned (.tuple #[.slice (some ⟨g, 0, none⟩) nr nr, .int .i64 0]) ∧ OwnMat w.heap.size w' g nr nr l G (fun _ => l) (mdd k (k + m) H S))) := by
  obtain ⟨bC, oC, rfl, hcC⟩ := hC.top.pos (by omega)
  have c0 := hcC 0 (by omega)
  rw [Nat.add_zero] at c0
  have RR := hid hR
  have RC := hid hC
  have RS := hid hS
  have HL := hid hL
  have hlen := tk_len H k (k + m)
  have hkm : k + m ≤ 1000 := by omega
  clear hcC hR hC hS hL
  go_enter Try.func44, Try.ntmps44
  go_wp2_with fail
  refine (take_any3 pH (k + m) cH k H w hkm (by omega) hH).mono ?_
  rintro e w1 ⟨v, rfl, hv, hb1⟩
  obtain ⟨pv, cv, rfl, _⟩ := own_len hv
  have HV := hid hv
  have B1 := hid hb1
  clear hv hb1 hH
  by_cases hc : cn H (k + m) < k
  · have hlt : (tk H k (k + m)).length < k := by omega
    clear hlen
    go_wp2
    go_ret2
    exact ⟨B1.out, .inl ⟨hc, rfl⟩⟩
  · have hlk : (tk H k (k + m)).length = k := by omega
    have hge : k ≤ cn H (k + m) := by omega
    obtain ⟨gv, cv', hform, _, hgv⟩ := HV.out.form (by omega)
    cases hform
    have TL : Hid (∀ i, i < k → pl (tk H k (k + m)) i < k + m ∧ H (pl (tk H k (k + m)) i) = true) := fun i hi => tk_lt hge i hi
    have RK := hid (tk_rank k (k + m) H (by omega) (by omega) hge)
    have hmk := run_make_top k (by omega) w1
    have HT0 := hid (own_made w1 22 (.slice none 0 0) k w1.heap.size (by omega) (Nat.le_refl _))
    rw [hlk] at HV ⊢
    have HGE := hid hge
    have LK := hid hlk
    clear hlen hc hlk hge
    go_wp2_with fail
    clear hmk
    go_loopw [36] (fun i wr => ∃ r : Nat, r ≤ k ∧ i = .int .i64 r ∧ wr.ownsRow w1.heap.size 22 1 (.slice (some ⟨w1.heap.size, 0, none⟩) k k) k (vals k fun i => if i < r then .slice (AS (pl (tk H k (k + m)) i)) (L (pl (tk H k (k + m)) i)) (CS (pl (tk H k (k + m)) i)) else .slice none 0 0) ∧ Below w1.heap.size w1 wr) (fun i _ => (k - intOf i).toNat)
    case atStart => exact ⟨0, by omega, rfl, by simpa using HT0.out, (Below.refl _ _).alloc (Nat.le_refl _) _⟩
    case round =>
      clear HT0
      obtain ⟨r, hr, rfl, ht, hb⟩ := hrel
      by_cases hlt : r < k
      · obtain ⟨hp1, hp2⟩ := TL.out r hlt
        obtain ⟨bS, oS, rfl, hcS⟩ := RS.out.top.pos (by omega)
        have c1 := Stays.of_below hb _ _ (pivV_cell HV.out r hlt LK.out)
        have c2 := Stays.of_below (B1.out.then hb) _ _ (hcS _ hp1)
        have c3 := own_cell ht r hlt
        rw [if_neg (by omega)] at c3
        have c4 := ht.frozenAt r
        have HT := hid ((ht.stored r (.slice (AS (pl (tk H k (k + m)) r)) (L (pl (tk H k (k + m)) r)) (CS (pl (tk H k (k + m)) r)))).1)
        rw [vals_set, vals_congr (W := fun i => if i < r + 1 then .slice (AS (pl (tk H k (k + m)) i)) (L (pl (tk H k (k + m)) i)) (CS (pl (tk H k (k + m)) i)) else .slice none 0 0) (fun i _ => by
          unfold upd
          by_cases e : i = r
          · subst e; simp
          · by_cases q : i < r
            · simp [e, q, show i < r + 1 by omega]
            · simp [e, q, show ¬ i < r + 1 by omega])] at HT
        have HB := hid (hb.setCell (p := ⟨w1.heap.size, r, none⟩) (Nat.le_refl _) (.slice (AS (pl (tk H k (k + m)) r)) (L (pl (tk H k (k + m)) r)) (CS (pl (tk H k (k + m)) r))))
        clear ht hb hcS RR RC RS HL TL RK
        go_wp2
        go_roundw
        case rel => exact ⟨r + 1, by omega, by go_num, HT.out, HB.out⟩
        case measure => simp [intOf]; omega
      · have e : r = k := by omega
        subst e
        have B2 := hid (B1.out.then hb)
        have st2 := Stays.of_below B2.out
        have MT : Hid (MatAt wr (some ⟨w1.heap.size, 0, none⟩) r (fun i => AS (pl (tk H r (r + m)) i)) (fun _ => l) (fun i => CS (pl (tk H r (r + m)) i)) (fun i j => S (pl (tk H r (r + m)) i) j)) := {
          top := .inr ⟨_, _, rfl, fun i hi => by
            rw [Nat.zero_add, own_cell ht i hi, if_pos hi, HL.out _ (TL.out i hi).1 (TL.out i hi).2]⟩
          row := fun i hi => by
            have h1 := (RS.out.row _ (TL.out i hi).1).keep st2
            rw [HL.out _ (TL.out i hi).1 (TL.out i hi).2] at h1
            exact h1
          le := fun i hi => by
            have h1 := RS.out.le _ (TL.out i hi).1
            rw [HL.out _ (TL.out i hi).1 (TL.out i hi).2] at h1
            exact h1 }
        have RC2 := hid (RC.out.keep st2)
        have IR : Hid (IntsAt wr (some ⟨gv, 0, none⟩) r (fun i => ((pl (tk H r (r + m)) i : Nat) : Int))) := .inr ⟨gv, 0, rfl, fun i hi => by
          rw [Nat.zero_add]; exact Stays.of_below hb _ _ (pivV_cell HV.out i hi LK.out)⟩
        clear ht hb HV RS HL
        go_wp2_with fail
        refine (pick_rows _ _ (r + m) r _ r _ _ _ (codeX r) (fun i => ((pl (tk H r (r + m)) i : Nat) : Int)) wr (by omega) (by omega) (by omega) (by omega) (by omega) (by omega) RC2.out IR.out).mono ?_
        rintro e w3 ⟨hb3, ⟨hf, _⟩ | ⟨_, gp, Gp, Qp, rfl, hmp⟩⟩
        · rw [allIn_true (fun i hi => by have := (TL.out i hi).1; unfold inR; omega)] at hf
          cases hf
        have B3 := hid (B2.out.then hb3)
        have MT3 := hid (MT.out.keep (Stays.of_below hb3))
        have MP := hid hmp.toMat
        clear hb3 hmp IR RC2 MT B2 st2
        go_wp2_with fail
        refine (invert_square _ r r _ _ (fun i c => codeX r (pl (tk H r (r + m)) i) c) w3 (by omega) (by omega) (by exact MP.out)).mono ?_
        rintro e w4 ⟨hb4, ⟨hf, _⟩ | ⟨_, gi, Gi, Y, rfl, hmY, hY⟩⟩
        · exact absurd hf (by rw [RK.out]; omega)
        have HY : Hid (∀ a b, a < r → b < r → Y a b = ivm r (fun i c => codeX r (pl (tk H r (r + m)) i) c) a b) := fun a b ha hb => ivm_eq RK.out (fun i hi j hj => full_left RK.out hY i j hi hj) a b ha hb
        have B4 := hid (B3.out.then hb4)
        have MT4 := hid (MT3.out.keep (Stays.of_below hb4))
        have MY := hid hmY.toMat
        have RR4 := hid (RR.out.keep (Stays.of_below B4.out))
        clear hb4 hmY hY MP MT3 B3 RR RC
        go_wp2_with fail
        refine (mul_ok _ _ nr r r _ _ _ _ _ _ (codeX r) Y w4 RR4.out MY.out hnr hnr2 h0 (by omega) h0 (by omega)).mono ?_
        rintro e w5 ⟨gd, Gd, rfl, hmd, hb5⟩
        have B5 := hid (B4.out.then hb5)
        have MT5 := hid (MT4.out.keep (Stays.of_below hb5))
        have MD := hid hmd.toMat
        have hs5 := B5.out.size
        clear hb5 hmd MT4 B4 RR4 MY
        go_wp2_with fail
        refine (combine_any _ _ nr r l _ _ _ _ _ _ (pr r (codeX r) Y) (fun i j => S (pl (tk H r (r + m)) i) j) w5 MD.out MT5.out hnr hnr2 h0 (by omega) hl).mono ?_
        rintro e w6 ⟨g6, G6, rfl, hm6, hb6⟩
        have HM := hid ((hm6.congr (Y := mdd r (r + m) H S) (fun i _ j _ => pr_congr (fun q hq => pr_congr (fun _ _ => rfl) (fun u hu => HY.out u q hu hq)) (fun _ _ => rfl))).base hs5)
        have B6 := hid (B5.out.then hb6)
        clear hm6 hb6 MD MT5 B5
        go_wp2
        go_ret2
        exact ⟨B6.out, .inr ⟨HGE.out, g6, G6, rfl, HM.out⟩⟩
end Go.Proofs.Ytapgdenodhcliaa
