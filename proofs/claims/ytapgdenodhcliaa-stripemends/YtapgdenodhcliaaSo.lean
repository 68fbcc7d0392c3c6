/- Contract of hidden of the statements on stripe: those that are there are copies, the others are other bytes, one more of them; all in new memory; what was there is as it was. -/
import Derived.Test.YtapgdenodhcliaaSn
namespace Go.Proofs.Ytapgdenodhcliaa
open Go.RowKit

theorem OwnV.congrY {B : Nat} {w : World} {v : Value} {n : Nat} {G M C N Q : Nat → Nat} {X Y : Nat → Nat → K} (h : OwnV B w v n G M C N Q X) (e : ∀ i, i < n → ∀ j, j < N i → X i j = Y i j) : OwnV B w v n G M C N Q Y where
  top := h.top
  row := fun i hi => by
    have := h.row i hi
    rwa [vals_congr (W := fun j => kv (Y i j)) (fun j hj => by show kv (X i j) = kv (Y i j); rw [e i hi j hj])] at this
  inj := h.inj
/-- A row more, whose bytes are told. -/
theorem OwnV.pushY {B : Nat} {w w1 w4 : World} {v v' : Value} {n : Nat} {G M C : Nat → Nat} {Y : Nat → Nat → K} {o : Obj} (h : OwnV B w v n G M C M C Y) (hb : Below w.heap.size w w1) (g1 c1 : Nat) (y : Nat → K) (hg1 : w.heap.size ≤ g1)
    (hr : w1.ownsRow B 5 1 (.slice (some ⟨g1, 0, none⟩) (M n) c1) (M n) (vals (M n) fun j => kv (y j))) (hgrow : (w1.alloc o).grownBy w4 v.ownBlock) (hown : w4.ownsRow B 22 1 v' (n + 1) (vals n (fun i => .slice (some ⟨G i, 0, none⟩) (M i) (C i)) ++ [.slice (some ⟨g1, 0, none⟩) (M n) c1])) :
    OwnV B w4 v' (n + 1) (upd G n g1) M (upd C n c1) M (upd C n c1) (fun i => if i = n then y else Y i) :=
  OwnV.push (h.congrY (Y := fun i => if i = n then y else Y i) (fun i hi j _ => by rw [if_neg (by omega)])) hb g1 c1 c1 hg1 (by rw [if_pos rfl]; exact hr) hgrow hown
theorem own_some {w : World} {B e n b : Nat} {v : Value} {xs : List Value} (h : w.ownsRow B e 1 v n xs) (hb : v.ownBlock = some b) : ∃ c, v = .slice (some ⟨b, 0, none⟩) n c := by
  rcases h.2 with ⟨rfl, _⟩ | ⟨g, cap, cur, rfl, _⟩
  · cases hb
  · have : g = b := by simpa [Value.ownBlock] using hb
    subst this; exact ⟨cap, rfl⟩
/-- A copy of a row onto an empty list. -/
theorem copy0 (w : World) (B : Nat) (hB : B ≤ w.heap.size) (ad : Addr) (l c : Nat) (x : Nat → K) (hl : l ≤ 70000) (hx : ∀ j u, (vals l fun j => kv (x j))[j]? = some u → (w.alloc (.cells #[] 5)).cell? (ad.add j) = some u) :
    ∃ g cp w1, (Builtin.append_ #[22, 22] 22 #[.slice (some ⟨w.heap.size, 0, none⟩) 0 0, .slice (some ad) l c]).run Try.prog (w.alloc (.cells #[] 5)) = .ok (.slice (some ⟨g, 0, none⟩) l cp) w1 ∧ w.heap.size ≤ g ∧ w1.ownsRow B 5 1 (.slice (some ⟨g, 0, none⟩) l cp) l (vals l fun j => kv (x j)) ∧ Below w.heap.size w w1 := by
  obtain ⟨i0, hi0, hz0, hz1, hz2⟩ := info_parts Try.info5
  have hown := World.ownsRow_lit (base := B) (e := 5) (size := 1) w #[] 0 hB (by unfold maxLen; omega) rfl
  have hz : (w.alloc (.cells #[] 5)).heap.size = w.heap.size + 1 := by simp
  obtain ⟨v', w', hr, h2, h3, _, h5⟩ := run_append_own_at (P := Try.prog) (w.alloc (.cells #[] 5)) B 22 22 5 i0 (.int .u8 0) 1 1 Try.underlying22 hi0 hz0 hz1 hz2 rfl (by decide) (.slice (some ⟨w.heap.size, 0, none⟩) 0 0) 0 [] hown ad l c (vals l fun j => kv (x j)) (by rw [vals_len, Nat.mul_one]) hx (by intro u hu; unfold vals at hu; obtain ⟨i, _, rfl⟩ := List.mem_map.1 hu; rfl) (by unfold maxLen; omega) (by omega) (by omega)
  have hb0 : ∃ b, v'.ownBlock = some b ∧ w.heap.size ≤ b := by
    rcases h5 with e | e
    · exact ⟨w.heap.size, by rw [e]; rfl, Nat.le_refl _⟩
    · exact ⟨_, e, by omega⟩
  obtain ⟨b, hb1, hb2⟩ := hb0
  simp only [Nat.zero_add, List.nil_append] at h2
  obtain ⟨cp, rfl⟩ := own_some h2 hb1
  exact ⟨b, cp, w', hr, hb2, h2, Below.grown ((Below.refl _ _).alloc (Nat.le_refl _) _) h3 (by omega) (fun j hj => by
    have q2 : w.heap.size = j := by simpa [Value.ownBlock] using hj
    omega)⟩

theorem vals7 (l : Nat) (x : Nat → K) (v : K) : vals (l + 1) (fun j => kv (if j < l then x j else v)) = vals l (fun j => kv (x j)) ++ [kv v] := by
  rw [vals_succ, if_neg (Nat.lt_irrefl l)]
  congr 1
  exact vals_congr (fun j hj => by rw [if_pos hj])
/-- What hidden leaves. -/
def HidAt (n l : Nat) (H : Nat → Bool) (X : Nat → Nat → K) (w w' : World) (e : Ending) : Prop := ∃ p c A C Y, e = .returned (.slice p n c) ∧ MatAt w' p n A (fun i => if H i = true then l else l + 1) C Y ∧ (∀ i, i < n → H i = true → ∀ j, j < l → Y i j = X i j) ∧ Below w.heap.size w w'

set_option maxRecDepth 100000 in
set_option maxHeartbeats 8000000 in
theorem hidden_any (B g c n l : Nat) (G Q : Nat → Nat) (X : Nat → Nat → K) (pH : Option Addr) (cH : Nat) (H : Nat → Bool) (w : World) (hn : n ≤ 100) (hl : l ≤ 1000) (h : OwnMat B w g c n l G Q X) (hH : BoolsAt w pH n H) :
    Calls Try.prog 33 #[.slice (some ⟨g, 0, none⟩) n c, .slice pH n cH] w fun e w' => HidAt n l H X w w' e := by
  obtain ⟨i0, hi0, hz0, hz1, hz2⟩ := info_parts Try.info22
  obtain ⟨j0, hj0, jz0, jz1, jz2⟩ := info_parts Try.info5
  have HM := hid h
  have HH := hid hH
  clear h hH
  go_enter Try.func33, Try.ntmps33
  go_wp2
  go_loopw [5, 6] (fun v x wr => ∃ (i : Nat) (Gn Cn : Nat → Nat) (Y : Nat → Nat → K), i ≤ n ∧ x = .int .i64 i ∧ OwnV w.heap.size wr v i Gn (fun i => if H i = true then l else l + 1) Cn (fun i => if H i = true then l else l + 1) Cn Y ∧ (∀ r, r < i → H r = true → ∀ j, j < l → Y r j = X r j) ∧ Below w.heap.size w wr) (fun _ x _ => (n - intOf x).toNat)
  case atStart => exact ⟨0, fun _ => 0, fun _ => 0, fun _ _ => 0, by omega, rfl, OwnV.start _ _ _ _ _ _ _ _, fun r hr => absurd hr (by omega), Below.refl _ _⟩
  case round =>
    obtain ⟨i, Gn, Cn, Y, hi, rfl, hv, hY, hb⟩ := hrel
    by_cases hlt : i < n
    · obtain ⟨bH, oH, rfl, hcH⟩ := HH.out.pos (by omega)
      have hmr := HM.out.stay hb
      have c1 := hmr.topCell i hlt
      have hsz := hb.size
      obtain ⟨g1, cp1, w1, hr1, hg1, ho1, hb1⟩ := copy0 wr w.heap.size hsz ⟨G i, 0, none⟩ l (Q i) (X i) (by omega) (vals_cells (fun j hj => by
        rw [World.cell?_alloc_lt _ _ _ (hmr.ge i hlt).2, Nat.zero_add]; exact hmr.cell i j hlt hj))
      have c1a : (wr.alloc (.cells #[] 5)).cell? ⟨g, i, none⟩ = some (.slice (some ⟨G i, 0, none⟩) l (Q i)) := by rw [World.cell?_alloc_lt _ _ _ (own_ge hmr.top).2]; exact c1
      have c2 : w1.cell? ⟨bH, oH + i, none⟩ = some (.bool (H i)) := Stays.of_below (hb.then hb1) _ _ (hcH i hlt)
      have HV := hid hv
      have HY := hid hY
      have HB := hid hb
      have HR1 := hid hr1
      have O1 := hid ho1
      have B1 := hid hb1
      have hsz1 := hb1.size
      clear hv hY hb hcH hmr hr1 ho1 hb1 HM HH
      cases hq : H i with
      | true =>
        rw [hq] at c2
        have HT := hid (HV.out.top_alloc B1.out (.cells #[.slice (some ⟨g1, 0, none⟩) l cp1] 22))
        have HN := hid (news_one w1 (.slice (some ⟨g1, 0, none⟩) l cp1))
        have HML : Hid ((if H i = true then l else l + 1) = l) := by show (if H i = true then l else l + 1) = l; rw [if_pos hq]
        go_wp2_with (first | (at_builtin; refine wpList_append_run (.tmp 15) (.tmp 19) 22 rfl (by first | rfl | simp [Region.wanted, yielded]) _ _ (.slice (some ⟨g1, 0, none⟩) l cp1) rfl rfl HR1.out ?_) | (at_builtin; refine wpList_append_lies _ rfl (.tmp 43) (.tmp 45) 24 rfl w.heap.size 22 i0 (.slice none 0 0) 1 24 Try.underlying24 hi0 hz0 hz1 hz2 rfl (by omega) u5 i _ rfl HT.out ⟨w1.heap.size, 0, none⟩ 1 1 [.slice (some ⟨g1, 0, none⟩) l cp1] rfl rfl HN.out (by intro u hu; simp at hu; subst hu; rfl) (by omega) (by unfold maxLen; omega) (by omega) (by simp; omega) _ rfl ?_; intro gg cap w4 hown4 hgrow hat hlt4))
        have HX := hid (HV.out.pushY B1.out g1 cp1 (X i) hg1 (by rw [HML.out]; exact O1.out) hgrow (by rw [HML.out]; exact hown4))
        have HBX := hid (HV.out.bound (HB.out.trans (B1.out.mono hsz)) (by omega) hgrow)
        have HY2 : Hid (∀ r, r < i + 1 → H r = true → ∀ j, j < l → (if r = i then X i else Y r) j = X r j) := fun r hr hr2 j hj => by
          by_cases e : r = i
          · subst e; rw [if_pos rfl]
          · rw [if_neg e]; exact HY.out r (by omega) hr2 j hj
        clear hown4 hgrow hat hlt4 HT HN HV HB O1 B1 HY
        go_wp2
        go_roundw
        case rel => exact ⟨i + 1, _, _, _, by omega, by go_num, HX.out, HY2.out, HBX.out⟩
        case measure => simp [intOf]; omega
      | false =>
        rw [hq] at c2
        have HN7 : Hid (∀ q u, [Value.int .u8 7][q]? = some u → (w1.alloc (.cells #[.int .u8 7] 5)).cell? ((⟨w1.heap.size, 0, none⟩ : Addr).add q) = some u) :=
          World.news_of_block (cs := #[.int .u8 7]) (t := 5) (fr := (0, 0)) (heap_alloc_new _ _)
        have O1a := hid (own_base (B' := wr.heap.size) (show w1.ownsRow wr.heap.size 5 1 (.slice (some ⟨g1, 0, none⟩) l cp1) l (vals l fun j => kv (X i j)) from ⟨O1.out.1, by
          rcases O1.out.2 with ⟨q, _⟩ | ⟨g', cap, cur, hv', h1', h2', h3'⟩
          · cases q
          · cases hv'; exact .inr ⟨g1, cp1, cur, rfl, hg1, h2', h3'⟩⟩) (Nat.le_refl _))
        go_wp2_with (first | (at_builtin; refine wpList_append_run (.tmp 15) (.tmp 19) 22 rfl (by first | rfl | simp [Region.wanted, yielded]) _ _ (.slice (some ⟨g1, 0, none⟩) l cp1) rfl rfl HR1.out ?_) | (at_builtin; refine wpList_append_lies _ rfl (.tmp 26) (.tmp 27) 22 rfl wr.heap.size 5 j0 (.int .u8 0) 1 1 Try.underlying22 hj0 jz0 jz1 jz2 rfl (by omega) (.slice (some ⟨g1, 0, none⟩) l cp1) l _ rfl (O1a.out.alloc _) ⟨w1.heap.size, 0, none⟩ 1 1 [.int .u8 7] rfl rfl HN7.out (by intro u hu; simp at hu; subst hu; rfl) (by omega) (by unfold maxLen; omega) (by omega) (by simp; omega) _ rfl ?_; intro gs cs w2 hown2 hgrow2 hat2 hlt2))
        have O2 : Hid (∃ y : Nat → K, w2.ownsRow wr.heap.size 5 1 (.slice (some ⟨gs, 0, none⟩) (l + 1) cs) (l + 1) (vals (l + 1) fun j => kv (y j))) := ⟨fun j => if j < l then X i j else kb 7, by
          show w2.ownsRow wr.heap.size 5 1 (.slice (some ⟨gs, 0, none⟩) (l + 1) cs) (l + 1) (vals (l + 1) fun j => kv (if j < l then X i j else kb 7))
          rw [vals7]; exact hown2⟩
        have B2 : Hid (Below wr.heap.size wr w2) := Below.grown (B1.out.alloc hsz1 _) hgrow2 (by simp; omega) (fun b q => by
          have q2 : g1 = b := by simpa [Value.ownBlock] using q
          omega)
        clear hown2 hgrow2 hat2 hlt2 HN7 O1a O1 B1
        obtain ⟨wo, hwo⟩ : ∃ wo, wo = wr := ⟨_, rfl⟩
        subst hwo
        go_loopw [8] (fun x wy => ∃ (j : Nat) (y : Nat → K), j ≤ l + 1 ∧ x = .int .i64 j ∧ wy.ownsRow wo.heap.size 5 1 (.slice (some ⟨gs, 0, none⟩) (l + 1) cs) (l + 1) (vals (l + 1) fun j => kv (y j)) ∧ Below wo.heap.size wo wy) (fun x _ => (l + 1 - intOf x).toNat)
        case atStart => exact ⟨0, _, by omega, rfl, O2.out.choose_spec, B2.out⟩
        case round =>
          clear O2 B2
          obtain ⟨j, y, hj, rfl, hy, hb2⟩ := hrel
          by_cases hlt3 : j < l + 1
          · have d1 : wr.cell? ⟨gs, j, none⟩ = some (.int .u8 ((y j).val : Nat)) := own_cell (V := fun j => kv (y j)) hy j hlt3
            have d2 := hy.frozenAt j
            have hxr := xor90 (y j)
            have hge := (own_ge hy).1
            have HYY : Hid ((wr.setCell ⟨gs, j, none⟩ (.int .u8 (((y j + kb 90).val : Nat) : Int))).ownsRow wo.heap.size 5 1 (.slice (some ⟨gs, 0, none⟩) (l + 1) cs) (l + 1) (vals (l + 1) fun q => kv (if q = j then y j + kb 90 else y q))) := by
              have h1 := (hy.stored j (kv (y j + kb 90))).1
              rw [vals_set, vals_congr (W := fun q => kv (if q = j then y j + kb 90 else y q)) (fun q _ => by unfold upd; by_cases e : q = j <;> simp [e])] at h1
              exact h1
            have HBB := hid (hb2.setCell (p := ⟨gs, j, none⟩) hge (.int .u8 (((y j + kb 90).val : Nat) : Int)))
            clear hy hb2 HV HY HB
            go_wp2
            go_roundw
            case rel => exact ⟨j + 1, _, by omega, by go_num, HYY.out, HBB.out⟩
            case measure => simp [intOf]; omega
          · have HYo := hid hy
            have BW := hid hb2
            have hge := (own_ge hy).1
            have hsw := hb2.size
            have HT := hid (HV.out.top_alloc BW.out (.cells #[.slice (some ⟨gs, 0, none⟩) (l + 1) cs] 22))
            have HN := hid (news_one wr (.slice (some ⟨gs, 0, none⟩) (l + 1) cs))
            have HML : Hid ((if H i = true then l else l + 1) = l + 1) := by show (if H i = true then l else l + 1) = l + 1; rw [if_neg (by rw [hq]; decide)]
            clear hy hb2
            go_wp2_with (at_builtin; refine wpList_append_lies _ rfl (.tmp 43) (.tmp 45) 24 rfl w.heap.size 22 i0 (.slice none 0 0) 1 24 Try.underlying24 hi0 hz0 hz1 hz2 rfl (by omega) u5 i _ rfl HT.out ⟨wr.heap.size, 0, none⟩ 1 1 [.slice (some ⟨gs, 0, none⟩) (l + 1) cs] rfl rfl HN.out (by intro u hu; simp at hu; subst hu; rfl) (by omega) (by unfold maxLen; omega) (by omega) (by simp; omega) _ rfl ?_; intro gg cap w4 hown4 hgrow hat hlt4)
            have HX := hid (HV.out.pushY BW.out gs cs y hge (by rw [HML.out]; exact own_base HYo.out hsz) hgrow (by rw [HML.out]; exact hown4))
            have HBX := hid (HV.out.bound (HB.out.trans (BW.out.mono hsz)) (by omega) hgrow)
            have HY2 : Hid (∀ r, r < i + 1 → H r = true → ∀ j, j < l → (if r = i then y else Y r) j = X r j) := fun r hr hr2 j hj => by
              by_cases e : r = i
              · subst e; rw [hq] at hr2; cases hr2
              · rw [if_neg e]; exact HY.out r (by omega) hr2 j hj
            clear hown4 hgrow hat hlt4 HT HN HV HB HYo BW HY
            go_wp2
            go_roundw
            case rel => exact ⟨i + 1, _, _, _, by omega, by go_num, HX.out, HY2.out, HBX.out⟩
            case measure => simp [intOf]; omega
    · have e : i = n := by omega
      subst e
      obtain ⟨pv, cv, rfl, _⟩ := own_len hv.top
      have HO : Hid (MatAt wr pv i (fun r => some ⟨Gn r, 0, none⟩) (fun i => if H i = true then l else l + 1) Cn Y) := hv.toMatAt (fun r hr => ⟨Nat.le_refl _, own_le (hv.row r hr)⟩) (fun _ _ _ _ => rfl)
      have HY := hid hY
      have HB := hid hb
      clear hv hY hb HM HH
      go_wp2
      go_ret
      exact ⟨_, _, _, _, Y, rfl, HO.out, HY.out, HB.out⟩
end Go.Proofs.Ytapgdenodhcliaa
