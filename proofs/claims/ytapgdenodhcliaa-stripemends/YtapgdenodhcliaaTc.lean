/- Contracts of Mended and Mend of the document's own answer: as the program's; what was there is as it was. -/
import Derived.Test.YtapgdenodhcliaaTb
namespace Go.Proofs.Ytapgdenodhcliaa
open Go.RowKit

/-- What is gathered of the shards that are there: their numbers, and their values. -/
structure GatAt (w wr : World) (vr vl : Value) (T : List Nat) (AS : Nat → Option Addr) (L CS : Nat → Nat) : Prop where
  nums : wr.ownsRow w.heap.size 3 1 vr T.length (pivV T)
  lists : wr.ownsRow w.heap.size 22 1 vl T.length (vals T.length fun i => .slice (AS (pl T i)) (L (pl T i)) (CS (pl T i)))
  bel : Below w.heap.size w wr
theorem gat_nums {w1 wr w5 : World} {vr vl : Value} {T : List Nat} {AS : Nat → Option Addr} {L CS : Nat → Nat} {r g5 cap5 : Nat} (hg : GatAt w1 wr vr vl T AS L CS)
    (hown5 : w5.ownsRow w1.heap.size 3 1 (.slice (some ⟨g5, 0, none⟩) (T.length + 1) cap5) (T.length + 1) (pivV T ++ [.int .i64 ((r : Nat) : Int)])) (hgrow5 : (wr.alloc (.cells #[.int .i64 ((r : Nat) : Int)] 3)).grownBy w5 vr.ownBlock) :
    Hid (w5.ownsRow w1.heap.size 3 1 (.slice (some ⟨g5, 0, none⟩) (T.length + 1) cap5) (T.length + 1) (pivV (T ++ [r]))) ∧ Hid (w5.ownsRow w1.heap.size 22 1 vl T.length (vals T.length fun i => .slice (AS (pl T i)) (L (pl T i)) (CS (pl T i)))) ∧ Hid (Below w1.heap.size w1 w5) := by
  have hsz := hg.bel.size
  have hla := hg.lists.alloc (.cells #[.int .i64 ((r : Nat) : Int)] 3)
  have hna := hg.nums.alloc (.cells #[.int .i64 ((r : Nat) : Int)] 3)
  exact ⟨hid (by rw [pivV_append]; exact hown5), hid (own_keepV hla (fun b q => hgrow5.block b (hla.lt b q).2 (fun q2 => own_ne hla hna (by decide) q q2.symm))), hid (Below.grown (hg.bel.alloc hsz _) hgrow5 (by simp; omega) (fun b hb => (hg.nums.lt b hb).1))⟩
theorem pl_append (T : List Nat) (x i : Nat) (h : i < T.length) : pl (T ++ [x]) i = pl T i := by
  unfold pl; rw [List.getElem?_append_left h]
theorem pl_last (T : List Nat) (x : Nat) : pl (T ++ [x]) T.length = x := by
  unfold pl; rw [List.getElem?_append_right (Nat.le_refl _)]; simp

set_option maxRecDepth 100000 in
set_option maxHeartbeats 8000000 in
theorem rmended_any (pS pH : Option Addr) (k m l cS cH : Nat) (AS : Nat → Option Addr) (L CS : Nat → Nat) (S : Nat → Nat → K) (H : Nat → Bool) (w : World)
    (hS : MatAt w pS (k + m) AS L CS S) (hH : BoolsAt w pH (k + m) H) (h0 : 1 ≤ k) (h1 : 1 ≤ m) (h : k + m ≤ 16) (hl : l ≤ 65536) (hL : ∀ i, i < k + m → H i = true → L i = l) (hge : k ≤ cn H (k + m)) :
    Calls Try.prog 46 #[.slice pS (k + m) cS, .slice pH (k + m) cH, .int .i64 k, .int .i64 m] w fun e w' => ∃ g cp G, e = .returned (.slice (some ⟨g, 0, none⟩) (k + m) cp) ∧ OwnMat w.heap.size w' g cp (k + m) l G (fun _ => l) (mdd k (k + m) H S) ∧ Below w.heap.size w w' := by
  obtain ⟨i0, hi0, hz0, hz1, hz2⟩ := info_parts Try.info22
  obtain ⟨j0, hj0, jz0, jz1, jz2⟩ := info_parts Try.info3
  have RS := hid hS
  have RH := hid hH
  have HL := hid hL
  have TL : Hid (∀ i, i < k → pl (tk H k (k + m)) i < k + m ∧ H (pl (tk H k (k + m)) i) = true) := fun i hi => tk_lt hge i hi
  have RK := hid (tk_rank k (k + m) H (by omega) (by omega) hge)
  have LK : Hid ((tk H k (k + m)).length = k) := hid (by rw [tk_len]; omega)
  clear hS hH hL hge
  go_enter Try.func46, Try.ntmps46
  go_wp2_with fail
  refine (rcode_any k m w h0 h1 h).mono ?_
  rintro e w1 ⟨gC, cC, GC, QC, rfl, hmC, hb1⟩
  have MC := hid hmC.toMat
  have B1 := hid hb1
  have hs01 := hb1.size
  clear hmC hb1
  go_wp2_with fail
  go_loopw [11, 12, 13] (fun vr vl x wr => ∃ r : Nat, r ≤ k + m ∧ x = .int .i64 r ∧ GatAt w1 wr vr vl (tk H k r) AS L CS) (fun _ _ x _ => ((k + m : Nat) - intOf x).toNat)
  case atStart => exact ⟨0, by omega, rfl, World.ownsRow_nil _ _ _ _, World.ownsRow_nil _ _ _ _, Below.refl _ _⟩
  case round =>
    obtain ⟨r, hr, rfl, hg⟩ := hrel
    have hlen := tk_len H k r
    have hcn := cn_le H r
    obtain ⟨pv, cv, rfl, _⟩ := own_len hg.nums
    obtain ⟨pw, cw, rfl, _⟩ := own_len hg.lists
    by_cases hgo : r < k + m ∧ (tk H k r).length < k
    · obtain ⟨hlt, hlk⟩ := hgo
      obtain ⟨bH, oH, rfl, hcH⟩ := RH.out.pos (by omega)
      obtain ⟨bS, oS, rfl, hcS⟩ := RS.out.top.pos (by omega)
      have c1 := Stays.of_below (B1.out.then hg.bel) _ _ (hcH r hlt)
      have c1w := hid (hcH r hlt)
      have c2w := hid (hcS r hlt)
      have HG := hid hg
      have hsz := hg.bel.size
      clear hg hcH hcS RS RH HL TL RK LK MC
      cases hq : H r with
      | false =>
        rw [hq] at c1
        have HT := hid (tk_off (k := k) hq)
        clear hlen hcn
        go_wp2
        go_roundw
        case rel => exact ⟨r + 1, by omega, by go_num, by rw [HT.out]; exact HG.out⟩
        case measure => simp [intOf]; omega
      | true =>
        rw [hq] at c1
        have HT := hid (tk_on (H := H) (k := k) (i := r) hlk hq)
        have hll : (tk H k r).length ≤ 16 := by omega
        obtain ⟨T, hT⟩ : ∃ T, T = tk H k r := ⟨_, rfl⟩
        rw [← hT] at HG HT hll hlk ⊢
        clear hlen hcn hT
        have HN : Hid (∀ q u, [Value.int .i64 ((r : Nat) : Int)][q]? = some u → (wr.alloc (.cells #[.int .i64 ((r : Nat) : Int)] 3)).cell? ((⟨wr.heap.size, 0, none⟩ : Addr).add q) = some u) :=
          World.news_of_block (cs := #[.int .i64 ((r : Nat) : Int)]) (t := 3) (fr := (0, 0)) (heap_alloc_new _ _)
        go_wp2_with (first
          | (at_builtin; refine wpList_append_lies _ rfl (.tmp 41) (.tmp 43) 46 rfl w1.heap.size 3 j0 (.int .i64 0) 1 8 Try.underlying46 hj0 jz0 jz1 jz2 rfl (by omega) (.slice pv T.length cv) T.length (pivV T) rfl (HG.out.nums.alloc _) ⟨wr.heap.size, 0, none⟩ 1 1 [.int .i64 ((r : Nat) : Int)] rfl rfl HN.out (by intro u hu; simp at hu; subst hu; rfl) (by omega) (by unfold maxLen; omega) (by omega) (by simp; omega) _ rfl ?_; intro g5 cap5 w5 hown5 hgrow5 hat5 hlt5; obtain ⟨N5, L5, B5⟩ := gat_nums HG.out hown5 hgrow5; have hsz5 := B5.out.size; have c3 := Stays.of_below (B1.out.then B5.out) _ _ c2w.out; clear hown5 hgrow5 hat5 hlt5)
          | (at_builtin; refine wpList_append_lies _ rfl (.tmp 45) (.tmp 50) 24 rfl w1.heap.size 22 i0 (.slice none 0 0) 1 24 Try.underlying24 hi0 hz0 hz1 hz2 rfl (by omega) (.slice pw T.length cw) T.length _ rfl (L5.out.alloc _) ⟨w5.heap.size, 0, none⟩ 1 1 [.slice (AS r) (L r) (CS r)] rfl rfl (news_one w5 _) (by intro u hu; simp at hu; subst hu; rfl) (by omega) (by unfold maxLen; omega) (by omega) (by simp; omega) _ rfl ?_; intro g6 cap6 w6 hown6 hgrow6 hat6 hlt6))
        have hna := N5.out.alloc (.cells #[.slice (AS r) (L r) (CS r)] 22)
        have hla := L5.out.alloc (.cells #[.slice (AS r) (L r) (CS r)] 22)
        have G6 : Hid (GatAt w1 w6 (.slice (some ⟨g5, 0, none⟩) (T.length + 1) cap5) (.slice (some ⟨g6, 0, none⟩) (T.length + 1) cap6) (T ++ [r]) AS L CS) := hid {
          nums := by
            rw [List.length_append]
            exact own_keep hna (hgrow6.block g5 (own_ge hna).2 (fun q2 => own_ne hna hla (by decide) rfl q2.symm))
          lists := by
            rw [List.length_append]
            show w6.ownsRow w1.heap.size 22 1 (.slice (some ⟨g6, 0, none⟩) (T.length + 1) cap6) (T.length + 1) (vals (T.length + 1) fun i => .slice (AS (pl (T ++ [r]) i)) (L (pl (T ++ [r]) i)) (CS (pl (T ++ [r]) i)))
            rw [vals_succ, pl_last, vals_congr (W := fun i => .slice (AS (pl T i)) (L (pl T i)) (CS (pl T i))) (fun i hi => by rw [pl_append T r i hi])]
            exact hown6
          bel := Below.grown (B5.out.alloc hsz5 _) hgrow6 (by simp; omega) (fun b q => (L5.out.lt b q).1) }
        clear hown6 hgrow6 hat6 hlt6 hna hla N5 L5 B5 HG HN
        go_wp2
        go_roundw
        case rel => exact ⟨r + 1, by omega, by go_num, by rw [HT.out]; exact G6.out⟩
        case measure => simp [intOf]; omega
    · have ET : Hid (tk H k r = tk H k (k + m)) := hid (by
        by_cases q : r < k + m
        · exact (tk_end (by omega) (by omega)).symm
        · rw [show r = k + m by omega])
      have LR : Hid ((tk H k r).length = k) := hid (by rw [ET.out]; exact LK.out)
      have HG := hid hg
      have hlr := LR.out
      clear hg hlen hcn
      rw [hlr] at HG ⊢
      have hn0 := HG.out.nums
      have hl0 := HG.out.lists
      rw [hlr] at hn0 hl0
      obtain ⟨gv, cv', hform, _, hgv⟩ := hn0.form (by omega)
      cases hform
      obtain ⟨gw, cw', hform2, _, hgw⟩ := hl0.form (by omega)
      cases hform2
      have B2 := hid (B1.out.then HG.out.bel)
      have st2 := Stays.of_below B2.out
      have IR : Hid (IntsAt wr (some ⟨gv, 0, none⟩) k (fun i => ((pl (tk H k (k + m)) i : Nat) : Int))) := hid (.inr ⟨gv, 0, rfl, fun i hi => by
        rw [Nat.zero_add, ← ET.out]; exact pivV_cell hn0 i hi hlr⟩)
      have MT : Hid (MatAt wr (some ⟨gw, 0, none⟩) k (fun i => AS (pl (tk H k (k + m)) i)) (fun _ => l) (fun i => CS (pl (tk H k (k + m)) i)) (fun i j => S (pl (tk H k (k + m)) i) j)) := hid {
        top := .inr ⟨_, _, rfl, fun i hi => by
          rw [Nat.zero_add, own_cell hl0 i hi, ET.out, HL.out _ (TL.out i hi).1 (TL.out i hi).2]⟩
        row := fun i hi => by
          have h1 := (RS.out.row _ (TL.out i hi).1).keep st2
          rw [HL.out _ (TL.out i hi).1 (TL.out i hi).2] at h1
          exact h1
        le := fun i hi => by
          have h1 := RS.out.le _ (TL.out i hi).1
          rw [HL.out _ (TL.out i hi).1 (TL.out i hi).2] at h1
          exact h1 }
      have MC2 := hid (MC.out.keep (Stays.of_below HG.out.bel))
      clear HG hn0 hl0 RS RH HL MC st2
      by_cases q9 : r < k + m
      · clear hgo
        go_wp2_with fail
        refine (rpick_any _ _ (k + m) k _ k _ _ _ (codeX k) (fun i => pl (tk H k (k + m)) i) wr (by omega) (by omega) h0 (by omega) h0 (by omega) MC2.out IR.out (fun i hi => (TL.out i hi).1)).mono ?_
        rintro e w3 ⟨gp, cp, Gp, Qp, rfl, hmp, hb3⟩
        have B3 := hid (B2.out.then hb3)
        have MT3 := hid (MT.out.keep (Stays.of_below hb3))
        have MC3 := hid (MC2.out.keep (Stays.of_below hb3))
        have MP := hid hmp.toMat
        clear hb3 hmp IR MC2 MT B2
        go_wp2_with fail
        refine (rinvert_square _ k _ _ _ (fun i c => codeX k (pl (tk H k (k + m)) i) c) w3 h0 (by omega) (by exact MP.out)).mono ?_
        rintro e w4 ⟨hb4, ⟨hf, _⟩ | ⟨_, gi, ci, Gi, Qi, Y, rfl, hmY, hY⟩⟩
        · exact absurd hf (by rw [RK.out]; omega)
        have HY : Hid (∀ a b, a < k → b < k → Y a b = ivm k (fun i c => codeX k (pl (tk H k (k + m)) i) c) a b) := hid (fun a b ha hb => ivm_eq RK.out hY a b ha hb)
        have B4 := hid (B3.out.then hb4)
        have MT4 := hid (MT3.out.keep (Stays.of_below hb4))
        have MC4 := hid (MC3.out.keep (Stays.of_below hb4))
        have MY := hid hmY.toMat
        clear hb4 hmY hY MP MT3 MC3 B3
        go_wp2_with fail
        refine (times_any _ _ k k l _ _ _ _ _ _ Y (fun i j => S (pl (tk H k (k + m)) i) j) w4 MY.out MT4.out h0 (by omega) h0 (by omega) hl).mono ?_
        rintro e w5 ⟨g5, c5, G5, rfl, hm5, hb5⟩
        have B5 := hid (B4.out.then hb5)
        have MC5 := hid (MC4.out.keep (Stays.of_below hb5))
        have M5 := hid hm5.toMat
        clear hb5 hm5 MY MT4 MC4 B4
        go_wp2_with fail
        refine (times_any _ _ (k + m) k l _ _ _ _ _ _ (codeX k) (pr k Y (fun i j => S (pl (tk H k (k + m)) i) j)) w5 MC5.out M5.out (by omega) (by omega) h0 (by omega) hl).mono ?_
        rintro e w6 ⟨g6, c6, G6, rfl, hm6, hb6⟩
        have hs5 := B5.out.size
        have HM := hid ((hm6.congr (Y := mdd k (k + m) H S) (fun i _ j _ => by
          unfold mdd
          rw [pr_assoc]
          exact pr_congr (fun _ _ => rfl) (fun q hq => pr_congr (fun u hu => HY.out q u hq hu) (fun _ _ => rfl)))).base hs5)
        have B6 := hid (B5.out.then hb6)
        clear hm6 hb6 MC5 M5 B5
        go_wp2
        go_ret
        exact ⟨g6, c6, G6, rfl, HM.out, B6.out⟩
      · clear hgo
        go_wp2_with fail
        refine (rpick_any _ _ (k + m) k _ k _ _ _ (codeX k) (fun i => pl (tk H k (k + m)) i) wr (by omega) (by omega) h0 (by omega) h0 (by omega) MC2.out IR.out (fun i hi => (TL.out i hi).1)).mono ?_
        rintro e w3 ⟨gp, cp, Gp, Qp, rfl, hmp, hb3⟩
        have B3 := hid (B2.out.then hb3)
        have MT3 := hid (MT.out.keep (Stays.of_below hb3))
        have MC3 := hid (MC2.out.keep (Stays.of_below hb3))
        have MP := hid hmp.toMat
        clear hb3 hmp IR MC2 MT B2
        go_wp2_with fail
        refine (rinvert_square _ k _ _ _ (fun i c => codeX k (pl (tk H k (k + m)) i) c) w3 h0 (by omega) (by exact MP.out)).mono ?_
        rintro e w4 ⟨hb4, ⟨hf, _⟩ | ⟨_, gi, ci, Gi, Qi, Y, rfl, hmY, hY⟩⟩
        · exact absurd hf (by rw [RK.out]; omega)
        have HY : Hid (∀ a b, a < k → b < k → Y a b = ivm k (fun i c => codeX k (pl (tk H k (k + m)) i) c) a b) := hid (fun a b ha hb => ivm_eq RK.out hY a b ha hb)
        have B4 := hid (B3.out.then hb4)
        have MT4 := hid (MT3.out.keep (Stays.of_below hb4))
        have MC4 := hid (MC3.out.keep (Stays.of_below hb4))
        have MY := hid hmY.toMat
        clear hb4 hmY hY MP MT3 MC3 B3
        go_wp2_with fail
        refine (times_any _ _ k k l _ _ _ _ _ _ Y (fun i j => S (pl (tk H k (k + m)) i) j) w4 MY.out MT4.out h0 (by omega) h0 (by omega) hl).mono ?_
        rintro e w5 ⟨g5, c5, G5, rfl, hm5, hb5⟩
        have B5 := hid (B4.out.then hb5)
        have MC5 := hid (MC4.out.keep (Stays.of_below hb5))
        have M5 := hid hm5.toMat
        clear hb5 hm5 MY MT4 MC4 B4
        go_wp2_with fail
        refine (times_any _ _ (k + m) k l _ _ _ _ _ _ (codeX k) (pr k Y (fun i j => S (pl (tk H k (k + m)) i) j)) w5 MC5.out M5.out (by omega) (by omega) h0 (by omega) hl).mono ?_
        rintro e w6 ⟨g6, c6, G6, rfl, hm6, hb6⟩
        have hs5 := B5.out.size
        have HM := hid ((hm6.congr (Y := mdd k (k + m) H S) (fun i _ j _ => by
          unfold mdd
          rw [pr_assoc]
          exact pr_congr (fun _ _ => rfl) (fun q hq => pr_congr (fun u hu => HY.out q u hq hu) (fun _ _ => rfl)))).base hs5)
        have B6 := hid (B5.out.then hb6)
        clear hm6 hb6 MC5 M5 B5
        go_wp2
        go_ret
        exact ⟨g6, c6, G6, rfl, HM.out, B6.out⟩
end Go.Proofs.Ytapgdenodhcliaa
