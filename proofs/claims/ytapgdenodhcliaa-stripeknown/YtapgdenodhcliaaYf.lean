/- Texts laid into one: the remark ahead of each part says what is proved there. -/
import Derived.Test.YtapgdenodhcliaaYd
import Derived.BigRegion
import Derived.Test.YtapgdenodhcliaaYe
/- Contract of sweep of the document's own answer: it leaves the rank, and with full rank the inverse beside it; nothing below the call's own memory is touched. -/
namespace Go.Proofs.Ytapgdenodhcliaa
open Go.RowKit

theorem OwnMat.swap {B : Nat} {w : World} {g c n m : Nat} {G Q : Nat → Nat} {X : Nat → Nat → K} (h : OwnMat B w g c n m G Q X) (p r : Nat) (hp : p < n) (hr : r < n) :
    OwnMat B ((w.setCell ⟨g, p, none⟩ (rv (G r) m (Q r))).setCell ⟨g, r, none⟩ (rv (G p) m (Q p))) g c n m (fun i => G (swI p r i)) (fun i => Q (swI p r i)) (fun i => X (swI p r i)) where
  top := by
    have h1 := ((h.top.stored p (rv (G r) m (Q r))).1.stored r (rv (G p) m (Q p))).1
    rw [vals_set, vals_set] at h1
    rwa [vals_congr (W := fun i => rv (G (swI p r i)) m (Q (swI p r i))) (fun i _ => by
      unfold upd swI
      by_cases e1 : i = r
      · by_cases e2 : i = p
        · subst e1; subst e2; simp
        · have e3 : ¬ r = p := fun q => e2 (e1.trans q)
          simp [e1, e3]
      · by_cases e2 : i = p
        · have e3 : ¬ p = r := fun q => e1 (e2.trans q)
          simp [e2, e3]
        · simp [e1, e2])] at h1
  row := fun i hi => by
    have hh := h.row (swI p r i) (swI_lt hp hr hi)
    have ha : g ≠ G (swI p r i) := h.apart _ (swI_lt hp hr hi)
    exact ownsRow_setCell_other (ownsRow_setCell_other hh (by simp [Value.ownBlock]; exact fun q => ha q.symm) _) (by simp [Value.ownBlock]; exact fun q => ha q.symm) _
  inj := fun i j hi hj q => by
    have := h.inj _ _ (swI_lt hp hr hi) (swI_lt hp hr hj) q
    have h2 := congrArg (swI p r) this
    rwa [swI_swI, swI_swI] at h2
theorem OwnMat.byBlock {B : Nat} {w w' : World} {g c n m : Nat} {G Q : Nat → Nat} {X : Nat → Nat → K} (h : OwnMat B w g c n m G Q X) (hg : w'.heap[g]? = w.heap[g]?) (hG : ∀ i, i < n → w'.heap[G i]? = w.heap[G i]?) : OwnMat B w' g c n m G Q X where
  top := own_keep h.top hg
  row := fun i hi => own_keep (h.row i hi) (hG i hi)
  inj := h.inj

/-- Two matrices that share nothing. -/
structure Two (B : Nat) (w : World) (ga ca gw cw n m : Nat) (Ga Qa Gw Qw : Nat → Nat) (T W : Nat → Nat → K) : Prop where
  a : OwnMat B w ga ca n m Ga Qa T
  b : OwnMat B w gw cw n n Gw Qw W
  tops : ga ≠ gw
  rows : ∀ i k, i < n → k < n → Ga i ≠ Gw k
section
variable {B : Nat} {w w' : World} {ga ca gw cw n m : Nat} {Ga Qa Gw Qw : Nat → Nat} {T W T' W' : Nat → Nat → K}
theorem Two.onA (h : Two B w ga ca gw cw n m Ga Qa Gw Qw T W) (r : Nat) (hr : r < n) (ha : OwnMat B w' ga ca n m Ga Qa T') (ho : OnlyIn (fun k => k = Ga r) w w') : Two B w' ga ca gw cw n m Ga Qa Gw Qw T' W where
  a := ha
  b := h.b.byBlock (ho.block gw (fun q => own_apart h.b.top (h.a.row r hr) (by decide) q)) (fun i hi => ho.block _ (fun q => h.rows r i hr hi q.symm))
  tops := h.tops
  rows := h.rows
theorem Two.onB (h : Two B w ga ca gw cw n m Ga Qa Gw Qw T W) (r : Nat) (hr : r < n) (hb : OwnMat B w' gw cw n n Gw Qw W') (ho : OnlyIn (fun k => k = Gw r) w w') : Two B w' ga ca gw cw n m Ga Qa Gw Qw T W' where
  a := h.a.byBlock (ho.block ga (fun q => own_apart h.a.top (h.b.row r hr) (by decide) q)) (fun i hi => ho.block _ (fun q => h.rows i r hi hr q))
  b := hb
  tops := h.tops
  rows := h.rows
theorem Two.drew (h : Two B w ga ca gw cw n m Ga Qa Gw Qw T W) : Two B w.drew ga ca gw cw n m Ga Qa Gw Qw T W := ⟨h.a.drew, h.b.drew, h.tops, h.rows⟩
theorem Two.congr (h : Two B w ga ca gw cw n m Ga Qa Gw Qw T W) (e1 : ∀ i, i < n → ∀ j, j < m → T i j = T' i j) (e2 : ∀ i, i < n → ∀ j, j < n → W i j = W' i j) : Two B w ga ca gw cw n m Ga Qa Gw Qw T' W' := ⟨h.a.congr e1, h.b.congr e2, h.tops, h.rows⟩
theorem Two.swapA (h : Two B w ga ca gw cw n m Ga Qa Gw Qw T W) (p r : Nat) (hp : p < n) (hr : r < n) :
    Two B ((w.setCell ⟨ga, p, none⟩ (rv (Ga r) m (Qa r))).setCell ⟨ga, r, none⟩ (rv (Ga p) m (Qa p))) ga ca gw cw n m (fun i => Ga (swI p r i)) (fun i => Qa (swI p r i)) Gw Qw (fun i => T (swI p r i)) W where
  a := h.a.swap p r hp hr
  b := h.b.byBlock ((Below.heap_setCell _ _ _ _ (fun q => h.tops q.symm)).trans (Below.heap_setCell _ _ _ _ (fun q => h.tops q.symm))) (fun i hi => (Below.heap_setCell _ _ _ _ (fun q => own_apart h.a.top (h.b.row i hi) (by decide) q.symm)).trans (Below.heap_setCell _ _ _ _ (fun q => own_apart h.a.top (h.b.row i hi) (by decide) q.symm)))
  tops := h.tops
  rows := fun i k hi hk => h.rows _ k (swI_lt hp hr hi) hk
theorem Two.swapB (h : Two B w ga ca gw cw n m Ga Qa Gw Qw T W) (p r : Nat) (hp : p < n) (hr : r < n) :
    Two B ((w.setCell ⟨gw, p, none⟩ (rv (Gw r) n (Qw r))).setCell ⟨gw, r, none⟩ (rv (Gw p) n (Qw p))) ga ca gw cw n m Ga Qa (fun i => Gw (swI p r i)) (fun i => Qw (swI p r i)) T (fun i => W (swI p r i)) where
  a := h.a.byBlock ((Below.heap_setCell _ _ _ _ (fun q => h.tops q)).trans (Below.heap_setCell _ _ _ _ (fun q => h.tops q))) (fun i hi => (Below.heap_setCell _ _ _ _ (fun q => own_apart h.b.top (h.a.row i hi) (by decide) q.symm)).trans (Below.heap_setCell _ _ _ _ (fun q => own_apart h.b.top (h.a.row i hi) (by decide) q.symm)))
  b := h.b.swap p r hp hr
  tops := h.tops
  rows := fun i k hi hk => h.rows i _ hi (swI_lt hp hr hk)
end
theorem elR_start (X T : Nat → Nat → K) (r j i c : Nat) : X i c = elR X T r j 0 i c := by unfold elR; rw [if_neg (by omega)]
theorem elR_skip (X T : Nat → Nat → K) (r j k : Nat) (h : k = r ∨ T k j = 0) (i c : Nat) : elR X T r j k i c = elR X T r j (k + 1) i c := by
  unfold elR
  by_cases e : i = k
  · subst e
    rw [if_neg (by omega)]
    rcases h with h | h
    · rw [if_neg (fun q => q.2 h)]
    · by_cases q : i = r
      · rw [if_neg (fun z => z.2 q)]
      · rw [if_pos ⟨by omega, q⟩, h, kmul_zero, kadd_zero]
  · by_cases q : i < k ∧ i ≠ r
    · rw [if_pos q, if_pos (by omega)]
    · rw [if_neg q, if_neg (by omega)]
theorem elR_take (X T : Nat → Nat → K) (r j k : Nat) (h : k ≠ r) (i c : Nat) : tkR (elR X T r j k) k r (T k j) i c = elR X T r j (k + 1) i c := by
  have e1 : elR X T r j k k c = X k c := by unfold elR; rw [if_neg (by omega)]
  have e2 : elR X T r j k r c = X r c := by unfold elR; rw [if_neg (fun q => q.2 rfl)]
  unfold tkR
  by_cases e : i = k
  · subst e
    rw [if_pos rfl, e1, e2]; unfold elR; rw [if_pos ⟨by omega, h⟩]
  · rw [if_neg e]; unfold elR
    by_cases q : i < k ∧ i ≠ r
    · rw [if_pos q, if_pos (by omega)]
    · rw [if_neg q, if_neg (by omega)]
theorem elR_at (X T : Nat → Nat → K) (r j k c : Nat) : elR X T r j k k c = X k c := by unfold elR; rw [if_neg (by omega)]

theorem swI_same (p r : Nat) : swI p r r = p := by unfold swI; by_cases e : r = p <;> simp [e]
theorem set_some {w : World} {a b : Addr} {v x y : Value} (ha : w.cell? a = some x) (hb : w.cell? b = some y) : ∃ u, (w.setCell a v).cell? b = some u := by
  by_cases e : b = a
  · subst e; exact ⟨v, World.cell?_setCell_same _ _ _ ha⟩
  · exact ⟨y, (World.cell?_setCell_other _ _ _ _ (fun q => e q.symm)).trans hb⟩

set_option maxRecDepth 100000 in
set_option maxHeartbeats 8000000 in
theorem rsweep_any (B ga ca gw cw n m : Nat) (Ga Qa Gw Qw : Nat → Nat) (A : Nat → Nat → K) (w : World) (h : Two B w ga ca gw cw n m Ga Qa Gw Qw A on) (h0 : 1 ≤ n) (hn : n ≤ 32) (h1 : 1 ≤ m) (hm : m ≤ 32) :
    Calls Try.prog 77 #[.slice (some ⟨ga, 0, none⟩) n ca, .slice (some ⟨gw, 0, none⟩) n cw] w fun e w' => ∃ r j T W Gw' Qw', e = .returned (.int .i64 ((r : Nat) : Int)) ∧ RInv A n m j r T W ∧ (j = m ∨ r = n) ∧ OwnMat B w' gw cw n n Gw' Qw' W ∧ Below B w w' := by
  have H0 := hid h
  clear h
  go_enter Try.func77, Try.ntmps77
  go_wp2
  go_loopw [5, 6] (fun xr xj wr => ∃ r j : Nat, ∃ (T W : Nat → Nat → K) (Ga Qa Gw Qw : Nat → Nat), xr = .int .i64 r ∧ xj = .int .i64 j ∧ RInv A n m j r T W ∧ Two B wr ga ca gw cw n m Ga Qa Gw Qw T W ∧ Below B w wr) (fun _ xj _ => (m - intOf xj).toNat)
  case atStart => exact ⟨0, 0, A, on, Ga, Qa, Gw, Qw, rfl, rfl, RInv.start A n m, H0.out, Below.refl _ _⟩
  case round =>
    clear H0 Ga Qa Gw Qw
    obtain ⟨r, j, T, W, Ga, Qa, Gw, Qw, rfl, rfl, hr, ht, hb⟩ := hrel
    have hrn := hr.rn
    have hjm := hr.jm
    have c0 := ht.a.topCell 0 (by omega)
    have HR := hid hr
    have HT := hid ht
    have HB := hid hb
    clear hr ht hb
    by_cases hj : j < m
    · by_cases hrr : r < n
      · go_wp2_with fail
        go_loop [7] (fun x => ∃ p : Nat, r ≤ p ∧ p ≤ n ∧ x = .int .i64 p ∧ ∀ i, i < n → r ≤ i → i < p → T i j = 0) (fun x => (n - intOf x).toNat)
        case atStart => exact ⟨r, by omega, by omega, rfl, fun i _ h2 h3 => absurd h3 (by omega)⟩
        case round =>
          obtain ⟨p, hp1, hp2, rfl, hs⟩ := hrel
          by_cases hpn : p < n
          · have c1 := HT.out.a.topCell p hpn
            have c2 := HT.out.a.cell p j hpn hj
            by_cases hz : T p j = 0
            · have hz' : ((((T p j).val : Nat) : Int) == 0) = true := by rw [hz]; rfl
              have HS : Hid (∀ i, i < n → r ≤ i → i < p + 1 → T i j = 0) := fun i h1 h2 h3 => by
                by_cases e : i = p
                · rw [e]; exact hz
                · exact hs i h1 h2 (by omega)
              clear hs hz
              go_wp2
              go_round
              case rel => exact ⟨p + 1, by omega, by omega, by go_num, HS.out⟩
              case measure => simp [intOf]; omega
            · have hz' : ((((T p j).val : Nat) : Int) == 0) = false := by have := K.val_ne hz; simp; omega
              have hpe : ((p : Int) == (n : Int)) = false := by simp; omega
              have HP := hid (HR.out.pivot hj hrr hp1 hpn hz)
              clear hs hz
              have c3 := HT.out.a.topCell r hrr
              have c4 := HT.out.a.topFree p
              have c5 := HT.out.a.topFree r
              have hgea := (own_ge HT.out.a.top).1
              have hgeb := (own_ge HT.out.b.top).1
              obtain ⟨u1, d1⟩ : ∃ u, (wr.setCell ⟨ga, p, none⟩ (.slice (some ⟨Ga r, 0, none⟩) m (Qa r))).cell? ⟨ga, r, none⟩ = some u := set_some c1 c3
              have hp0 : (p : Int) < (n : Int) := by omega
              have hr0 : (r : Int) < (n : Int) := by omega
              have HTa : Hid (Two B ((wr.setCell ⟨ga, p, none⟩ (.slice (some ⟨Ga r, 0, none⟩) m (Qa r))).setCell ⟨ga, r, none⟩ (.slice (some ⟨Ga p, 0, none⟩) m (Qa p))).drew ga ca gw cw n m (fun i => Ga (swI p r i)) (fun i => Qa (swI p r i)) Gw Qw (fun i => T (swI p r i)) W) := (HT.out.swapA p r hpn hrr).drew
              have HBa := hid (((HB.out.setCell (p := ⟨ga, p, none⟩) hgea (.slice (some ⟨Ga r, 0, none⟩) m (Qa r))).setCell (p := ⟨ga, r, none⟩) hgea (.slice (some ⟨Ga p, 0, none⟩) m (Qa p))).drew)
              go_wp2_with fail
              go_region
              clear c0 c1 c2 c3 c4 c5 d1 HT HB HR
              revert HTa HBa
              generalize ((wr.setCell ⟨ga, p, none⟩ (.slice (some ⟨Ga r, 0, none⟩) m (Qa r))).setCell ⟨ga, r, none⟩ (.slice (some ⟨Ga p, 0, none⟩) m (Qa p))).drew = wa
              intro HTa HBa
              have b1 := HTa.out.b.topCell p hpn
              have b3 := HTa.out.b.topCell r hrr
              have b4 := HTa.out.b.topFree p
              have b5 := HTa.out.b.topFree r
              obtain ⟨u2, d2⟩ : ∃ u, (wa.setCell ⟨gw, p, none⟩ (.slice (some ⟨Gw r, 0, none⟩) n (Qw r))).cell? ⟨gw, r, none⟩ = some u := set_some b1 b3
              have HTb : Hid (Two B ((wa.setCell ⟨gw, p, none⟩ (.slice (some ⟨Gw r, 0, none⟩) n (Qw r))).setCell ⟨gw, r, none⟩ (.slice (some ⟨Gw p, 0, none⟩) n (Qw p))).drew ga ca gw cw n m (fun i => Ga (swI p r i)) (fun i => Qa (swI p r i)) (fun i => Gw (swI p r i)) (fun i => Qw (swI p r i)) (fun i => T (swI p r i)) (fun i => W (swI p r i))) := (HTa.out.swapB p r hpn hrr).drew
              have HBb := hid (((HBa.out.setCell (p := ⟨gw, p, none⟩) hgeb (.slice (some ⟨Gw r, 0, none⟩) n (Qw r))).setCell (p := ⟨gw, r, none⟩) hgeb (.slice (some ⟨Gw p, 0, none⟩) n (Qw p))).drew)
              go_wp2_with fail
              go_region
              clear b1 b3 b4 b5 d2 HTa HBa
              revert HTb HBb
              generalize ((wa.setCell ⟨gw, p, none⟩ (.slice (some ⟨Gw r, 0, none⟩) n (Qw r))).setCell ⟨gw, r, none⟩ (.slice (some ⟨Gw p, 0, none⟩) n (Qw p))).drew = wb
              intro HTb HBb
              obtain ⟨Ga1, Qa1, Gw1, Qw1, hTb⟩ : ∃ Ga1 Qa1 Gw1 Qw1, Two B wb ga ca gw cw n m Ga1 Qa1 Gw1 Qw1 (fun i => T (swI p r i)) (fun i => W (swI p r i)) := ⟨_, _, _, _, HTb.out⟩
              have e1 : (fun i => T (swI p r i)) r j = T p j := by show T (swI p r r) j = T p j; rw [swI_same]
              revert HP e1 hTb
              generalize (fun i => T (swI p r i)) = T1
              generalize (fun i => W (swI p r i)) = W1
              intro HP hTb e1
              have HE1 := hid e1
              have HTc := hid hTb
              have a1 := hTb.a.topCell r hrr
              have a2 := hTb.a.cell r j hrr hj
              rw [e1] at a2
              clear HTb hTb e1
              go_wp2_with (go_at_call 57; refine (rinv_k _ _).mono ?_; rintro e w' ⟨rfl, hw⟩; have hw2 := hw.symm; subst hw2; clear hw)
              refine (scale_any B ga ca n m r Ga1 Qa1 T1 (K.iv (T p j)) wb HTc.out.a hrr hm).mono ?_
              rintro e wc ⟨rfl, hma, hoa⟩
              have HTd := hid (HTc.out.onA r hrr hma hoa)
              have HBd := hid (hoa.below HBb.out (fun k hk => by rw [hk]; exact (HTc.out.a.ge r hrr).1))
              have a3 := HTd.out.b.topCell r hrr
              clear hma hoa HTc HBb a1 a2
              go_wp2_with fail
              refine (scale_any B gw cw n n r Gw1 Qw1 W1 (K.iv (T p j)) wc HTd.out.b hrr hn).mono ?_
              rintro e wd ⟨rfl, hmb, hob⟩
              have HTe := hid (HTd.out.onB r hrr hmb hob)
              have HBe := hid (hob.below HBd.out (fun k hk => by rw [hk]; exact (HTd.out.b.ge r hrr).1))
              clear hmb hob HTd HBd a3
              revert HP HTe
              generalize scR T1 r (K.iv (T p j)) = T2
              generalize scR W1 r (K.iv (T p j)) = W2
              intro HP HTe
              go_wp2_with fail
              go_loopw [10] (fun x wy => ∃ i : Nat, i ≤ n ∧ x = .int .i64 i ∧ Two B wy ga ca gw cw n m Ga1 Qa1 Gw1 Qw1 (elR T2 T2 r j i) (elR W2 T2 r j i) ∧ Below B w wy) (fun x _ => (n - intOf x).toNat)
              case atStart => exact ⟨0, by omega, rfl, HTe.out.congr (fun i _ c _ => elR_start T2 T2 r j i c) (fun i _ c _ => elR_start W2 T2 r j i c), HBe.out⟩
              case round =>
                clear HTe HBe HE1
                obtain ⟨i, hi, rfl, ht, hb⟩ := hrel
                by_cases hlt : i < n
                · by_cases hir : i = r
                  · have hir' : ((i : Int) != (r : Int)) = false := by rw [hir]; simp
                    have HT := hid (ht.congr (fun k _ c _ => elR_skip T2 T2 r j i (Or.inl hir) k c) (fun k _ c _ => elR_skip W2 T2 r j i (Or.inl hir) k c))
                    have HB := hid hb
                    clear ht hb hir
                    go_wp2
                    go_roundw
                    case rel => exact ⟨i + 1, by omega, by go_num, HT.out, HB.out⟩
                    case measure => simp [intOf]; omega
                  · have hir' : ((i : Int) != (r : Int)) = true := by simp; omega
                    have a1 := ht.a.topCell i hlt
                    have a2 := ht.a.cell i j hlt hj
                    rw [elR_at] at a2
                    by_cases hz : T2 i j = 0
                    · have hz' : ((((T2 i j).val : Nat) : Int) != 0) = false := by rw [hz]; rfl
                      have HT := hid (ht.congr (fun k _ c _ => elR_skip T2 T2 r j i (Or.inr hz) k c) (fun k _ c _ => elR_skip W2 T2 r j i (Or.inr hz) k c))
                      have HB := hid hb
                      clear ht hb hir hz
                      go_wp2
                      go_roundw
                      case rel => exact ⟨i + 1, by omega, by go_num, HT.out, HB.out⟩
                      case measure => simp [intOf]; omega
                    · have hz' : ((((T2 i j).val : Nat) : Int) != 0) = true := by have := K.val_ne hz; simp; omega
                      have a3 := ht.a.topCell r hrr
                      have HT := hid ht
                      have HB := hid hb
                      have HIR := hid hir
                      have hlt0 : (i : Int) < (n : Int) := by omega
                      have hrr0 : (r : Int) < (n : Int) := by omega
                      clear ht hb hir hz
                      go_wp2_with fail
                      go_region_held3 (fun w' => w'.cell? ⟨ga, i, none⟩ = some (.slice (some ⟨Ga1 i, 0, none⟩) m (Qa1 i)) ∧ w'.cell? ⟨ga, r, none⟩ = some (.slice (some ⟨Ga1 r, 0, none⟩) m (Qa1 r))) (first | go_keep | exact ⟨hmt.topCell i hlt, hmt.topCell r hrr⟩) (first | (go_at_call 86; refine (take_any B ga ca n m i r Ga1 Qa1 (elR T2 T2 r j i) (T2 i j) _ (by exact HT.out.drew.a) hlt hrr HIR.out hm).mono ?_; rintro e wf ⟨rfl, hmt, hot⟩))
                      have HTf := hid (HT.out.drew.onA i hlt hmt hot)
                      have HBf := hid (hot.below HB.out.drew (fun k hk => by rw [hk]; exact (HT.out.a.ge i hlt).1))
                      have b1 := HTf.out.b.topCell i hlt
                      have b3 := HTf.out.b.topCell r hrr
                      clear hmt hot HT HB a1 a2 a3
                      go_wp2_with fail
                      go_region_held3 (fun w' => w'.cell? ⟨gw, i, none⟩ = some (.slice (some ⟨Gw1 i, 0, none⟩) n (Qw1 i)) ∧ w'.cell? ⟨gw, r, none⟩ = some (.slice (some ⟨Gw1 r, 0, none⟩) n (Qw1 r))) (first | go_keep | exact ⟨hmu.topCell i hlt, hmu.topCell r hrr⟩) (first | (go_at_call 86; refine (take_any B gw cw n n i r Gw1 Qw1 (elR W2 T2 r j i) (T2 i j) _ (by exact HTf.out.drew.b) hlt hrr HIR.out hn).mono ?_; rintro e wg ⟨rfl, hmu, hou⟩))
                      have HTg := hid ((HTf.out.drew.onB i hlt hmu hou).congr (fun k _ c _ => elR_take T2 T2 r j i HIR.out k c) (fun k _ c _ => elR_take W2 T2 r j i HIR.out k c))
                      have HBg := hid (hou.below HBf.out.drew (fun k hk => by rw [hk]; exact (HTf.out.b.ge i hlt).1))
                      clear hmu hou HTf HBf b1 b3
                      go_wp2
                      go_roundw
                      case rel => exact ⟨i + 1, by omega, by go_num, HTg.out, HBg.out⟩
                      case measure => simp [intOf]; omega
                · have e : i = n := by omega
                  subst e
                  have HT := hid ht
                  have HB := hid hb
                  clear ht hb
                  go_wp2
                  go_roundw
                  case rel => exact ⟨r + 1, j + 1, _, _, Ga1, Qa1, Gw1, Qw1, by go_num, by go_num, HP.out, HT.out, HB.out⟩
                  case measure => simp [intOf]; omega
          · have HS : Hid (RInv A n m (j + 1) r T W) := HR.out.skip hj (fun i h1 h2 => hs i h1 h2 (by omega))
            have hpe : ((p : Int) == (n : Int)) = true := by simp; omega
            clear hs
            go_wp2
            go_roundw
            case rel => exact ⟨r, j + 1, T, W, Ga, Qa, Gw, Qw, rfl, by go_num, HS.out, HT.out, HB.out⟩
            case measure => simp [intOf]; omega
      · have e : r = n := by omega
        have E := hid e
        clear e
        go_wp2
        go_ret
        exact ⟨r, j, T, W, Gw, Qw, rfl, HR.out, .inr E.out, HT.out.b, HB.out⟩
    · have e : j = m := by omega
      have E := hid e
      clear e
      go_wp2
      go_ret
      exact ⟨r, j, T, W, Gw, Qw, rfl, HR.out, .inl E.out, HT.out.b, HB.out⟩
end Go.Proofs.Ytapgdenodhcliaa

/- Contract of Product of the document's own answer: the product lies in new memory; what was there is as it was. -/
namespace Go.Proofs.Ytapgdenodhcliaa
open Go.RowKit

/-- A row's first j numbers are as they shall be, the number at j is the sum as far as k; the others are 0. -/
def prRow (X Y : Nat → Nat → K) (i m j k : Nat) : Nat → K := fun c => if c < j then pr m X Y i c else if c = j then sm (fun q => X i q * Y q c) k else 0
theorem prRow_at (X Y : Nat → Nat → K) (i m j k : Nat) : prRow X Y i m j k j = sm (fun q => X i q * Y q j) k := by unfold prRow; rw [if_neg (by omega), if_pos rfl]
theorem prRow_step (X Y : Nat → Nat → K) (i m j k c : Nat) : upd (fun c => kv (prRow X Y i m j k c)) j (kv (prRow X Y i m j k j + X i k * Y k j)) c = kv (prRow X Y i m j (k + 1) c) := by
  unfold upd
  by_cases e : c = j
  · subst e; rw [if_pos rfl, prRow_at, prRow_at]; rfl
  · rw [if_neg e]
    show kv (prRow X Y i m j k c) = kv (prRow X Y i m j (k + 1) c)
    unfold prRow
    by_cases q : c < j
    · rw [if_pos q, if_pos q]
    · rw [if_neg q, if_neg q, if_neg e, if_neg e]
theorem prRow_next (X Y : Nat → Nat → K) (i m j c : Nat) : prRow X Y i m j m c = prRow X Y i m (j + 1) 0 c := by
  unfold prRow
  by_cases q : c < j
  · rw [if_pos q, if_pos (by omega)]
  · rw [if_neg q]
    by_cases e : c = j
    · rw [if_pos e, if_pos (by omega)]; rfl
    · rw [if_neg e, if_neg (by omega)]
      by_cases z : c = j + 1
      · rw [if_pos z]; rfl
      · rw [if_neg z]
theorem prRow_start (X Y : Nat → Nat → K) (i m c : Nat) : prRow X Y i m 0 0 c = 0 := by
  unfold prRow; rw [if_neg (by omega)]; split <;> rfl

/-- What holds while the row in block g is made, beside rows that stand. -/
structure RowMade (B : Nat) (w wr : World) (g m : Nat) (x : Nat → K) : Prop where
  row : wr.ownsRow B 5 1 (.slice (some ⟨g, 0, none⟩) m m) m (vals m fun c => kv (x c))
  bel : Below B w wr
theorem RowMade.congr {B : Nat} {w wr : World} {g m : Nat} {x y : Nat → K} (h : RowMade B w wr g m x) (e : ∀ c, c < m → x c = y c) : RowMade B w wr g m y :=
  ⟨by have := h.row; rwa [vals_congr (W := fun c => kv (y c)) (fun c hc => by show kv (x c) = kv (y c); rw [e c hc])] at this, h.bel⟩
theorem RowMade.set {B : Nat} {w wr : World} {g m : Nat} {x y : Nat → K} (h : RowMade B w wr g m x) (k : Nat) (v : K) (e : ∀ c, upd (fun c => kv (x c)) k (kv v) c = kv (y c)) : RowMade B w (wr.setCell ⟨g, k, none⟩ (.int .u8 ((v.val : Nat) : Int))) g m y := by
  refine ⟨?_, h.bel.setCell (p := ⟨g, k, none⟩) (own_ge h.row).1 _⟩
  have h1 := (h.row.stored k (kv v)).1
  rw [vals_set, vals_congr (W := fun c => kv (y c)) (fun c _ => e c)] at h1
  exact h1
theorem RowMade.drew {B : Nat} {w wr : World} {g m : Nat} {x : Nat → K} (h : RowMade B w wr g m x) : RowMade B w wr.drew g m x := ⟨h.row.drew, h.bel.drew⟩

end Go.Proofs.Ytapgdenodhcliaa

/- Contracts of Invert and Rank of the document's own answer: as the program's, for there is one rank and one inverse; what was there is as it was. -/
namespace Go.Proofs.Ytapgdenodhcliaa
open Go.RowKit

theorem keep_drewN (w : World) (q : Nat) : Below w.heap.size w (w.drewN q) := below_drewN (Below.refl _ _)
theorem OwnMat.two {w w1 w2 : World} {ga ca gw cw n m : Nat} {Ga Qa Gw Qw : Nat → Nat} {T W : Nat → Nat → K} (ha : OwnMat w.heap.size w1 ga ca n m Ga Qa T) (hb : OwnMat w1.heap.size w2 gw cw n n Gw Qw W) (hbel : Below w1.heap.size w1 w2) (hsz : w.heap.size ≤ w1.heap.size) :
    Two w.heap.size w2 ga ca gw cw n m Ga Qa Gw Qw T W where
  a := ha.stay hbel
  b := hb.base hsz
  tops := by have := (own_ge ha.top).2; have := (own_ge hb.top).1; omega
  rows := fun i k hi hk => by have := (ha.ge i hi).2; have := (hb.ge k hk).1; omega
theorem OwnMat.two' {w w1 w2 : World} {ga ca gw cw n m : Nat} {Ga Qa Gw Qw : Nat → Nat} {T W : Nat → Nat → K} (hb : OwnMat w.heap.size w1 gw cw n n Gw Qw W) (ha : OwnMat w1.heap.size w2 ga ca n m Ga Qa T) (hbel : Below w1.heap.size w1 w2) (hsz : w.heap.size ≤ w1.heap.size) :
    Two w.heap.size w2 ga ca gw cw n m Ga Qa Gw Qw T W where
  a := ha.base hsz
  b := hb.stay hbel
  tops := by have := (own_ge hb.top).2; have := (own_ge ha.top).1; omega
  rows := fun i k hi hk => by have := (hb.ge k hk).2; have := (ha.ge i hi).1; omega

set_option maxRecDepth 100000 in
set_option maxHeartbeats 1000000 in
theorem rinvert_bad (p : Option Addr) (n c : Nat) (A : Nat → Option Addr) (L C : Nat → Nat) (X : Nat → Nat → K) (w : World) (hn : n ≤ 100) (h : MatAt w p n A L C X) (he : errC n L ≠ 0 ∨ n ≠ L 0) :
    Calls Try.prog 64 #[.slice p n c] w fun e w' => e = .returned (.tuple #[.slice none 0 0, .int .i64 (errI n L X)]) ∧ Below w.heap.size w w' := by
  have T := hid h.top
  by_cases h1 : errC n L = 0
  · have h3 : n ≠ L 0 := he.elim (fun q => absurd h1 q) id
    have HE : Hid (errI n L X = 2) := by unfold errI; rw [h1]; simp [h3]; trivial
    have ok := errC_zero h1
    obtain ⟨b, o, rfl, hc⟩ := h.top.pos (by omega)
    have c0 := hc 0 (by omega)
    rw [Nat.add_zero] at c0
    have h3' : ((n : Int) != ((L 0 : Nat) : Int)) = true := by simp; omega
    have hpos := ok.1
    clear hc he h3 ok h
    go_enter Try.func64, Try.ntmps64
    go_wp2_with fail
    refine (rcheck_any _ _ _ _ _ _ _ hn T.out).mono ?_
    rintro e w1 ⟨rfl, q, hw⟩
    have HB : Hid (Below w.heap.size w w1) := by rw [hw]; exact keep_drewN w q
    have c0' := Stays.of_below HB.out _ _ c0
    clear hw c0
    rw [h1]
    clear h1
    go_wp2
    go_ret2
    exact ⟨ret_se rfl HE.out.symm, HB.out⟩
  · have HE : Hid (errI n L X = errC n L) := by unfold errI; rw [if_pos h1]; trivial
    have h1' : (errC n L != 0) = true := by simpa using h1
    have h1'' : (errC n L == 0) = false := by simpa using h1
    clear he h1 h
    go_enter Try.func64, Try.ntmps64
    go_wp2_with fail
    refine (rcheck_any _ _ _ _ _ _ _ hn T.out).mono ?_
    rintro e w1 ⟨rfl, q, hw⟩
    have HB : Hid (Below w.heap.size w w1) := by rw [hw]; exact keep_drewN w q
    clear hw
    go_wp2
    go_ret2
    exact ⟨ret_se rfl HE.out.symm, HB.out⟩

set_option maxRecDepth 100000 in
set_option maxHeartbeats 2000000 in
theorem rinvert_square (p : Option Addr) (n c : Nat) (A : Nat → Option Addr) (C : Nat → Nat) (X : Nat → Nat → K) (w : World) (h0 : 1 ≤ n) (hn : n ≤ 32) (h : MatAt w p n A (fun _ => n) C X) :
    Calls Try.prog 64 #[.slice p n c] w fun e w' => Below w.heap.size w w' ∧ (((sw X n n).l.length < n ∧ e = .returned (.tuple #[.slice none 0 0, .int .i64 120])) ∨
      ((sw X n n).l.length = n ∧ ∃ g cp G Q Y, e = .returned (.tuple #[.slice (some ⟨g, 0, none⟩) n cp, .int .i64 0]) ∧ OwnMat w.heap.size w' g cp n n G Q Y ∧ ∀ i, i < n → ∀ j, j < n → pr n Y X i j = on i j)) := by
  have T := hid h.top
  have H := hid h
  have HE : Hid (errC n (fun _ => n) = 0) := errC_ok h0 hn h0 hn (fun _ _ => rfl)
  obtain ⟨b, o, rfl, hc⟩ := h.top.pos (by omega)
  have c0 := hc 0 (by omega)
  rw [Nat.add_zero] at c0
  clear hc h
  go_enter Try.func64, Try.ntmps64
  go_wp2_with fail
  refine (rcheck_any _ _ _ _ _ _ _ (by omega) T.out).mono ?_
  rintro e w1 ⟨rfl, q, hw⟩
  have B1 : Hid (Below w.heap.size w w1) := by rw [hw]; exact keep_drewN w q
  have H1 := hid (H.out.keep (Stays.of_below B1.out))
  have c0' := Stays.of_below B1.out _ _ c0
  clear hw c0
  rw [HE.out]
  go_wp2_with fail
  refine (rone_any n w1 h0 hn).mono ?_
  rintro e w2 ⟨gw, cw, Gw, rfl, hmw, hb2⟩
  have HMW := hid hmw
  have HB2 := hid hb2
  have H2 := hid (H1.out.keep (Stays.of_below hb2))
  clear hmw hb2 c0'
  go_wp2_with fail
  refine (copied_any _ n n c A C X w2 H2.out h0 hn h0 hn).mono ?_
  rintro e w3 ⟨ga, ca, Ga, Qa, rfl, hma, hb3⟩
  have hsz := HB2.out.size
  have HTW := hid (HMW.out.two' hma hb3 hsz)
  have HB3 := hid (B1.out.then (HB2.out.then hb3))
  have hszw := B1.out.size
  clear hma hb3 HMW
  go_wp2_with fail
  refine (rsweep_any w1.heap.size ga ca gw cw n n Ga Qa Gw _ X w3 HTW.out h0 hn h0 hn).mono ?_
  rintro e w4 ⟨r, j, T', W', Gw', Qw', rfl, hri, hend, hmat, hb4⟩
  have hrk : r = (sw X n n).l.length := rank_one (hri.rank hend) (sw_rank X n n)
  have hrn := hri.rn
  have HRK := hid hrk
  have HRI := hid hri
  have HM4 := hid (hmat.base hszw)
  have HB4 := hid (HB3.out.trans (hb4.mono hszw))
  clear hri hend hmat hb4 hrk
  by_cases hlt : r < n
  · go_wp2
    go_ret2
    exact ⟨HB4.out, .inl ⟨by rw [← HRK.out]; first | assumption | (have := HRI.out.rn; omega), rfl⟩⟩
  · have hrn2 : r = n := by omega
    subst hrn2
    go_wp2
    go_ret2
    exact ⟨HB4.out, .inr ⟨HRK.out.symm, gw, cw, Gw', Qw', W', rfl, HM4.out, fun i hi j hj => HRI.out.left i j hi hj⟩⟩
end Go.Proofs.Ytapgdenodhcliaa

/- Contract of ApartBytes of the statements' kit, over lists each of which lies whole in a block of its own: it returns true, and touches no block that was there but those. -/
namespace Go.Proofs.Ytapgdenodhcliaa
open Go.RowKit

theorem far_top {w : World} {g k b x : Nat} {v u : Value} (h : b < g) (hc : w.cell? ⟨b, x, none⟩ = some u) : (w.setCell ⟨g, k, none⟩ v).cell? ⟨b, x, none⟩ = some u :=
  (World.cell?_setCell_other _ _ _ _ (by intro q; have := congrArg Addr.block q; simp at this; omega)).trans hc

set_option maxRecDepth 100000 in
set_option maxHeartbeats 8000000 in
theorem apart_any (B : Nat) (v : Value) (n : Nat) (G L C : Nat → Nat) (X : Nat → Nat → K) (w : World) (hn : n ≤ 300) (hC : ∀ i, i < n → 1 ≤ C i ∧ C i ≤ 300) (h : OwnV B w v n G L C C C X) :
    Calls Try.prog 16 #[v] w fun e w' => e = .returned (.bool true) ∧ SpareIn (fun b => ∃ r, r < n ∧ b = G r) w w' := by
  obtain ⟨p, c, rfl, _⟩ := own_len h.top
  have H0 := hid h
  have HC := hid hC
  clear h hC
  go_enter Try.func16, Try.ntmps16
  go_wp2
  go_loopw [3] (fun x wr => ∃ i : Nat, ∃ X : Nat → Nat → K, i ≤ n ∧ x = .int .i64 i ∧ OwnV B wr (.slice p n c) n G L C C C X ∧ SpareIn (fun b => ∃ r, r < n ∧ b = G r) w wr) (fun x _ => (n - intOf x).toNat)
  case atStart => exact ⟨0, X, by omega, rfl, H0.out, SpareIn.refl _ _⟩
  case round =>
    clear H0 X
    obtain ⟨i, X, hi, rfl, hv, hs⟩ := hrel
    by_cases hlt : i < n
    · obtain ⟨gt, ct, hform, _, hgt⟩ := hv.top.form (by omega)
      cases hform
      have hmk := run_make_top n (by omega) wr
      have HW0 : Hid (WasAt wr (wr.alloc (.cells (madeCells #[.slice none 0 0] n) 22)) wr.heap.size n 0 C (fun _ => 0) (fun _ => 0) X) :=
        ⟨by simpa using own_made wr 22 (.slice none 0 0) n wr.heap.size (by omega) (Nat.le_refl _), fun i hi => absurd hi (by omega), (Below.refl _ _).alloc (Nat.le_refl _) _⟩
      have HV := hid hv
      have HS := hid hs
      clear hv hs
      go_wp2_with fail
      clear hmk
      obtain ⟨wo, hwo⟩ : ∃ wo, wo = wr := ⟨_, rfl⟩
      subst hwo
      go_loopw [5] (fun x wy => ∃ k : Nat, ∃ Gc Qc : Nat → Nat, k ≤ n ∧ x = .int .i64 k ∧ WasAt wo wy wo.heap.size n k C Gc Qc X) (fun x _ => (n - intOf x).toNat)
      case atStart => exact ⟨0, _, _, by omega, rfl, HW0.out⟩
      case round =>
        clear HW0
        obtain ⟨k, Gc, Qc, hk, rfl, hw⟩ := hrel
        by_cases hlt2 : k < n
        · have t1 : wr.cell? ⟨gt, k, none⟩ = some (.slice (some ⟨G k, 0, none⟩) (L k) (C k)) := (hw.bel.cell (p := ⟨gt, k, none⟩) hgt).trans (own_cell (V := fun i => .slice (some ⟨G i, 0, none⟩) (L i) (C i)) HV.out.top k hlt2)
          have r1 : RowAt wr.drew (G k) 0 (C k) fun j => (X k j).val := fun j hj => by
            rw [Nat.zero_add]
            exact (hw.bel.cell (p := ⟨G k, j, none⟩) (own_ge (HV.out.row k hlt2)).2).trans (own_cell (V := fun j => kv (X k j)) (HV.out.row k hlt2) j hj)
          have t2 : wr.cell? ⟨wo.heap.size, k, none⟩ = some (.slice none 0 0) := by rw [own_cell hw.top k hlt2]; simp
          have t3 := hw.top.frozenAt k
          have hsz := (own_ge hw.top).2
          have hck := HC.out k hlt2
          have hs1 := run_cap41 (G k) (L k) (C k)
          have i1 : (k : Int) < (n : Int) := by omega
          have HW := hid hw
          have R1 := hid r1
          clear hw r1 HC
          go_wp2_with fail
          go_region_held3 (fun w' => w'.cell? ⟨gt, k, none⟩ = some (.slice (some ⟨G k, 0, none⟩) (L k) (C k))) (first | exact (hbz.cell (p := ⟨gt, k, none⟩) (by show gt < _; have := HW.out.bel.size; simp; omega)).trans t1 | exact far_top hgt ((hbz.cell (p := ⟨gt, k, none⟩) (by show gt < _; have := HW.out.bel.size; simp; omega)).trans t1) | go_keep) (first | (go_at_call 41; refine (copyB_any (G k) 0 (C k) (C k) (X k) _ (by omega) (by omega) (by exact R1.out)).mono ?_; rintro e wz ⟨g1, c1, rfl, hg1, hr1, hbz⟩; have d1 := (hbz.cell (p := ⟨wo.heap.size, k, none⟩) (by show wo.heap.size < _; simp; omega)).trans t2; have d2 := (hbz.frozen (p := ⟨wo.heap.size, k, none⟩) (by show wo.heap.size < _; simp; omega)).trans t3))
          have hbz' : Below wr.heap.size wr wz := (Below.refl _ _).drew.trans hbz
          have HP := hid (HW.out.push hbz' g1 c1 hg1 hr1)
          clear hr1 hbz hbz' HW R1 t1 t2 t3 d1 d2 hs1
          go_wp2
          go_roundw
          case rel => exact ⟨k + 1, _, _, by omega, by go_num, HP.out⟩
          case measure => simp [intOf]; omega
        · have e : k = n := by omega
          subst e
          have t1 : wr.cell? ⟨gt, i, none⟩ = some (.slice (some ⟨G i, 0, none⟩) (L i) (C i)) := (hw.bel.cell (p := ⟨gt, i, none⟩) hgt).trans (own_cell (V := fun i => .slice (some ⟨G i, 0, none⟩) (L i) (C i)) HV.out.top i hlt)
          have HW := hid hw
          have HVy := hid (HV.out.stay hw.bel)
          have HSy := hid (HS.out.after hw.bel)
          have hci := HC.out i hlt
          have hgi : G i < wo.heap.size := (own_ge (HV.out.row i hlt)).2
          clear hw HV HS
          go_wp2_with fail
          refine (overB_any B (G i) (L i) (C i) (X i) wr hci.2 (HVy.out.row i hlt)).mono ?_
          rintro e wb ⟨rfl, ⟨y, hy⟩, ho⟩
          have HVb := hid (HVy.out.oneRow hlt hy ho)
          have HSb := hid (HSy.out.only ho ⟨i, hlt, rfl⟩)
          have HSM : Hid (∀ q, q < k → q ≠ i → (StrAt wb (some ⟨G q, 0, none⟩) (C q) (fun j => (X q j).val)) ∧ StrAt wb (some ⟨Gc q, 0, none⟩) (C q) (fun j => (X q j).val)) := fun q hq hne => by
            refine ⟨.inr ⟨_, _, rfl, fun j hj => ?_⟩, .inr ⟨_, _, rfl, fun j hj => ?_⟩⟩
            · have h1 := own_cell (HVb.out.row q hq) j hj
              simp only [if_neg hne] at h1
              rw [Nat.zero_add]; exact h1
            · have h1 := HW.out.row q hq
              have h2 : wb.heap[Gc q]? = wr.heap[Gc q]? := ho.block _ (fun z => by
                have a1 := (own_ge h1).1
                have z' : Gc q = G i := z
                omega)
              rw [Nat.zero_add]; exact own_cell (V := fun j => kv (X q j)) (own_keep h1 h2) j hj
          have HT1 : Hid (∀ q, q < k → wb.cell? ⟨gt, q, none⟩ = some (.slice (some ⟨G q, 0, none⟩) (L q) (C q)) ∧ wb.cell? ⟨wo.heap.size, q, none⟩ = some (.slice (some ⟨Gc q, 0, none⟩) (C q) (Qc q))) := fun q hq => by
            refine ⟨own_cell (V := fun i => .slice (some ⟨G i, 0, none⟩) (L i) (C i)) HVb.out.top q hq, ?_⟩
            have h2 : wb.heap[wo.heap.size]? = wr.heap[wo.heap.size]? := ho.block _ (fun z => by have z' : wo.heap.size = G i := z; omega)
            rw [own_cell (own_keep HW.out.top h2) q hq]; simp [hq]
          have hgb : gt < wb.heap.size := (own_ge HVb.out.top).2
          clear hy ho HVy HSy HW t1
          go_wp2_with fail
          go_loopw [6] (fun x wy => ∃ q z : Nat, q ≤ k ∧ x = .int .i64 q ∧ wy = wb.drewN z) (fun x _ => (k - intOf x).toNat)
          case atStart => exact ⟨0, 0, by omega, rfl, rfl⟩
          case round =>
            obtain ⟨q, z, hq, rfl, hwy⟩ := hrel
            have HWY := hid hwy
            by_cases hlt3 : q < k
            · have t1 : wr.cell? ⟨gt, q, none⟩ = some (.slice (some ⟨G q, 0, none⟩) (L q) (C q)) := by rw [hwy]; simpa using (HT1.out q hlt3).1
              have t2 : wr.cell? ⟨wo.heap.size, q, none⟩ = some (.slice (some ⟨Gc q, 0, none⟩) (C q) (Qc q)) := by rw [hwy]; simpa using (HT1.out q hlt3).2
              have i1 : (q : Int) < (k : Int) := by omega
              have hs1 := run_cap41 (G q) (L q) (C q)
              by_cases hqi : q = i
              · have hqi' : ((q : Int) != (i : Int)) = false := by rw [hqi]; simp
                clear hwy hqi
                go_wp2_with fail
                go_quiet (fail)
                go_wp2
                go_roundw
                case rel => exact ⟨q + 1, z + nq, by omega, by go_num, by rw [HWY.out, World.drewN_drewN]⟩
                case measure => simp [intOf]; omega
              · have hqi' : ((q : Int) != (i : Int)) = true := by simp; omega
                have hss := HSM.out q hlt3 hqi
                have S1 : Hid (StrAt wr (some ⟨G q, 0, none⟩) (C q) (fun j => (X q j).val)) := by rw [hwy]; exact hss.1.keep (Stays.of_below (below_drewN (Below.refl _ _)))
                have S2 : Hid (StrAt wr (some ⟨Gc q, 0, none⟩) (C q) (fun j => (X q j).val)) := by rw [hwy]; exact hss.2.keep (Stays.of_below (below_drewN (Below.refl _ _)))
                clear hwy hqi hss
                go_wp2_with fail
                go_quiet ((go_at_call 27; refine Calls.quiet_of_same (same_true _ _ (C q) _ _ (fun j => (X q j).val) _ (by exact S1.out) (by exact S2.out))))
                go_wp2
                go_roundw
                case rel => exact ⟨q + 1, z + nq, by omega, by go_num, by rw [HWY.out, World.drewN_drewN]⟩
                case measure => simp [intOf]; omega
            · have hbd : Below wb.heap.size wb wr := by rw [hwy]; exact below_drewN (Below.refl _ _)
              have t1 : wr.cell? ⟨gt, i, none⟩ = some (.slice (some ⟨G i, 0, none⟩) (L i) (C i)) := Stays.of_below hbd _ _ (HT1.out i hlt).1
              have HVc := hid (HVb.out.stay hbd)
              have HSc := hid (HSb.out.after hbd)
              clear hwy hbd
              go_wp2_with fail
              refine (overB_any B (G i) (L i) (C i) _ wr hci.2 (HVc.out.row i hlt)).mono ?_
              rintro e wd ⟨rfl, ⟨y2, hy2⟩, ho2⟩
              have HVd := hid (HVc.out.oneRow hlt hy2 ho2)
              have HSd := hid (HSc.out.only ho2 ⟨i, hlt, rfl⟩)
              clear hy2 ho2 HVc HSc HVb HSb t1
              go_wp2
              go_roundw
              case rel => exact ⟨i + 1, _, by omega, by go_num, HVd.out, HSd.out⟩
              case measure => simp [intOf]; omega
    · have HS := hid hs
      clear hv hs HC
      go_wp2
      go_ret
      exact ⟨rfl, HS.out⟩
end Go.Proofs.Ytapgdenodhcliaa

/- Contracts of Mul, Invert and Rank once more, the program's and the document's own, in one form for all inputs: a list of rows, of none where there is an error, and the error's number. -/
namespace Go.Proofs.Ytapgdenodhcliaa
open Go.RowKit

theorem OwnV.nil {B : Nat} {w : World} {G M C N Q : Nat → Nat} {Y : Nat → Nat → K} : OwnV B w (.slice none 0 0) 0 G M C N Q Y := OwnV.start _ _ _ _ _ _ _ _
theorem OwnMat.toV {B : Nat} {w : World} {g c n m : Nat} {G Q : Nat → Nat} {X : Nat → Nat → K} (h : OwnMat B w g c n m G Q X) : OwnV B w (.slice (some ⟨g, 0, none⟩) n c) n G (fun _ => m) Q (fun _ => m) Q X := ⟨h.top, h.row, h.inj⟩
theorem OwnV.base {B B' : Nat} {w : World} {v : Value} {n : Nat} {G M C N Q : Nat → Nat} {X : Nat → Nat → K} (h : OwnV B w v n G M C N Q X) (hb : B' ≤ B) : OwnV B' w v n G M C N Q X where
  top := by
    refine ⟨h.top.1, ?_⟩
    rcases h.top.2 with q | ⟨g', cap, cur, hv, h1, h2, h3⟩
    · exact .inl q
    · exact .inr ⟨g', cap, cur, hv, Nat.le_trans hb h1, h2, h3⟩
  row := fun i hi => own_base (h.row i hi) hb
  inj := h.inj
/-- What the rows read as. -/
theorem OwnV.toMatAt {B : Nat} {w : World} {p : Option Addr} {n c : Nat} {G M C N Q : Nat → Nat} {X Y : Nat → Nat → K} (h : OwnV B w (.slice p n c) n G M C N Q X) (hM : ∀ i, i < n → M i ≤ N i ∧ M i ≤ C i) (e : ∀ i, i < n → ∀ j, j < M i → X i j = Y i j) : MatAt w p n (fun i => some ⟨G i, 0, none⟩) M C Y where
  top := by
    by_cases h0 : n = 0
    · exact .inl h0
    · obtain ⟨g, ct, hf, _⟩ := h.top.form (by omega)
      cases hf
      exact .inr ⟨g, 0, rfl, fun i hi => by rw [Nat.zero_add]; exact own_cell (V := fun i => .slice (some ⟨G i, 0, none⟩) (M i) (C i)) h.top i hi⟩
  row := fun i hi => .inr ⟨G i, 0, rfl, fun j hj => by
    have := hM i hi
    rw [Nat.zero_add, own_cell (V := fun j => kv (X i j)) (h.row i hi) j (by omega), e i hi j hj]; rfl⟩
  le := fun i hi => (hM i hi).2
theorem LentAt.toMatAt {B : Nat} {w : World} {p : Option Addr} {n c : Nat} {G L : Nat → Nat} {X : Nat → Nat → K} (h : LentAt B w (.slice p n c) n G L X) : MatAt w p n (fun i => some ⟨G i, 0, none⟩) L (fun i => L i + 3) X :=
  OwnV.toMatAt h (fun i _ => ⟨by omega, by omega⟩) (fun i _ j hj => by unfold lentK; rw [if_pos hj])

/-- How many rows an answer has. -/
def cnt (e : Int) (n : Nat) : Nat := if e = 0 then n else 0
theorem cnt_pos {e : Int} {n i : Nat} (h : i < cnt e n) : e = 0 ∧ i < n := by
  unfold cnt at h
  by_cases q : e = 0
  · rw [if_pos q] at h; exact ⟨q, h⟩
  · rw [if_neg q] at h; omega
theorem mulU (p q : Option Addr) (n n' c d : Nat) (A A' : Nat → Option Addr) (L L' C C' : Nat → Nat) (X Y : Nat → Nat → K) (w : World) (hn : n ≤ 100) (hn' : n' ≤ 100) (h : MatAt w p n A L C X) (h' : MatAt w q n' A' L' C' Y) :
    Calls Try.prog 62 #[.slice p n c, .slice q n' d] w fun e w' => ∃ u cu G, e = .returned (.tuple #[.slice u (cnt (errMul n L n' L') n) cu, .int .i64 (errMul n L n' L')]) ∧ OwnV w.heap.size w' (.slice u (cnt (errMul n L n' L') n) cu) (cnt (errMul n L n' L') n) G (fun _ => L' 0) (fun _ => L' 0) (fun _ => L' 0) (fun _ => L' 0) (pr (L 0) X Y) ∧ Below w.heap.size w w' := by
  refine (mul_all p q n n' c d A A' L L' C C' X Y w hn hn' h h').mono ?_
  rintro e w' ⟨hb, ⟨he, rfl⟩ | ⟨he, g, G, rfl, hm⟩⟩
  · refine ⟨none, 0, fun _ => 0, ?_, ?_, hb⟩
    · unfold cnt; rw [if_neg he]
    · unfold cnt; rw [if_neg he]; exact OwnV.nil
  · refine ⟨some ⟨g, 0, none⟩, n, G, ?_, ?_, hb⟩
    · unfold cnt; rw [if_pos he, he]
    · unfold cnt; rw [if_pos he]; exact hm.toV
theorem errI_full {n : Nat} {L : Nat → Nat} {X : Nat → Nat → K} (h1 : errC n L = 0) (h2 : n = L 0) (h3 : (sw X n n).l.length = n) : errI n L X = 0 := by
  unfold errI; rw [if_neg (fun q => q h1), if_neg (fun q => q h2), if_neg (by omega)]
theorem errI_sing {n : Nat} {L : Nat → Nat} {X : Nat → Nat → K} (h1 : errC n L = 0) (h2 : n = L 0) (h3 : (sw X n n).l.length < n) : errI n L X = 120 := by
  unfold errI; rw [if_neg (fun q => q h1), if_neg (fun q => q h2), if_pos h3]
theorem errI_bad {n : Nat} {L : Nat → Nat} {X : Nat → Nat → K} (h : errC n L ≠ 0 ∨ n ≠ L 0) : errI n L X ≠ 0 := by
  unfold errI
  by_cases h1 : errC n L = 0
  · rw [if_neg (fun q => q h1), if_pos (h.elim (fun q => absurd h1 q) id)]; decide
  · rw [if_pos h1]; exact h1
theorem errI_zero {n : Nat} {L : Nat → Nat} {X : Nat → Nat → K} (h : errI n L X = 0) : errC n L = 0 ∧ n = L 0 := by
  refine ⟨?_, ?_⟩
  · apply Classical.byContradiction; intro q; exact errI_bad (.inl q) h
  · apply Classical.byContradiction; intro q; exact errI_bad (.inr q) h
theorem invU (p : Option Addr) (n c : Nat) (A : Nat → Option Addr) (L C : Nat → Nat) (X : Nat → Nat → K) (w : World) (hn : n ≤ 100) (h : MatAt w p n A L C X) :
    Calls Try.prog 61 #[.slice p n c] w fun e w' => ∃ u cu G Y, e = .returned (.tuple #[.slice u (cnt (errI n L X) n) cu, .int .i64 (errI n L X)]) ∧ OwnV w.heap.size w' (.slice u (cnt (errI n L X) n) cu) (cnt (errI n L X) n) G (fun _ => n) (fun _ => n) (fun _ => n) (fun _ => n) Y ∧ (errI n L X = 0 → ∀ i, i < n → ∀ j, j < n → pr n X Y i j = on i j) ∧ Below w.heap.size w w' := by
  by_cases hb : errC n L ≠ 0 ∨ n ≠ L 0
  · have hne := errI_bad (X := X) hb
    refine (invert_bad p n c A L C X w hn h hb).mono ?_
    rintro e w' ⟨rfl, rfl⟩
    refine ⟨none, 0, fun _ => 0, fun _ _ => 0, ?_, ?_, fun q => absurd q hne, Below.refl _ _⟩
    · unfold cnt; rw [if_neg hne]
    · unfold cnt; rw [if_neg hne]; exact OwnV.nil
  · have h1 : errC n L = 0 := Classical.byContradiction (fun q => hb (.inl q))
    have h2 : n = L 0 := Classical.byContradiction (fun q => hb (.inr q))
    have ok := errC_zero h1
    refine (invert_square p n c A C X w ok.1 ok.2.1 (h.even (fun i hi => by rw [ok.2.2.2.2 i hi, ← h2]))).mono ?_
    rintro e w' ⟨hbel, ⟨hl, rfl⟩ | ⟨hl, g, G, Y, rfl, hm, hY⟩⟩
    · have he := errI_sing h1 h2 hl
      refine ⟨none, 0, fun _ => 0, fun _ _ => 0, ?_, ?_, fun q => by rw [he] at q; exact absurd q (by decide), hbel⟩
      · unfold cnt; rw [he]; rfl
      · unfold cnt; rw [he]; exact OwnV.nil
    · have he := errI_full h1 h2 hl
      refine ⟨some ⟨g, 0, none⟩, n, G, Y, ?_, ?_, fun _ i hi j hj => full_right hl hY i j hi hj, hbel⟩
      · unfold cnt; rw [he, if_pos rfl]
      · unfold cnt; rw [he, if_pos rfl]; exact hm.toV
theorem rinvU (p : Option Addr) (n c : Nat) (A : Nat → Option Addr) (L C : Nat → Nat) (X : Nat → Nat → K) (w : World) (hn : n ≤ 100) (h : MatAt w p n A L C X) :
    Calls Try.prog 64 #[.slice p n c] w fun e w' => ∃ u cu G Q Y, e = .returned (.tuple #[.slice u (cnt (errI n L X) n) cu, .int .i64 (errI n L X)]) ∧ OwnV w.heap.size w' (.slice u (cnt (errI n L X) n) cu) (cnt (errI n L X) n) G (fun _ => n) Q (fun _ => n) Q Y ∧ (errI n L X = 0 → ∀ i, i < n → ∀ j, j < n → pr n Y X i j = on i j) ∧ Below w.heap.size w w' := by
  by_cases hb : errC n L ≠ 0 ∨ n ≠ L 0
  · have hne := errI_bad (X := X) hb
    refine (rinvert_bad p n c A L C X w hn h hb).mono ?_
    rintro e w' ⟨rfl, hbel⟩
    refine ⟨none, 0, fun _ => 0, fun _ => 0, fun _ _ => 0, ?_, ?_, fun q => absurd q hne, hbel⟩
    · unfold cnt; rw [if_neg hne]
    · unfold cnt; rw [if_neg hne]; exact OwnV.nil
  · have h1 : errC n L = 0 := Classical.byContradiction (fun q => hb (.inl q))
    have h2 : n = L 0 := Classical.byContradiction (fun q => hb (.inr q))
    have ok := errC_zero h1
    refine (rinvert_square p n c A C X w ok.1 ok.2.1 (h.even (fun i hi => by rw [ok.2.2.2.2 i hi, ← h2]))).mono ?_
    rintro e w' ⟨hbel, ⟨hl, rfl⟩ | ⟨hl, g, cp, G, Q, Y, rfl, hm, hY⟩⟩
    · have he := errI_sing h1 h2 hl
      refine ⟨none, 0, fun _ => 0, fun _ => 0, fun _ _ => 0, ?_, ?_, fun q => by rw [he] at q; exact absurd q (by decide), hbel⟩
      · unfold cnt; rw [he]; rfl
      · unfold cnt; rw [he]; exact OwnV.nil
    · have he := errI_full h1 h2 hl
      refine ⟨some ⟨g, 0, none⟩, cp, G, Q, Y, ?_, ?_, fun _ => hY, hbel⟩
      · unfold cnt; rw [he, if_pos rfl]
      · unfold cnt; rw [he, if_pos rfl]; exact hm.toV
end Go.Proofs.Ytapgdenodhcliaa

/- The walk of MatrixTells: of any two matrices that are not large the product, the inverse, the rank and the errors are the document's own; what is handed in stays, and the answers lie in memory of their own. No conditions. -/
namespace Go.Proofs.Ytapgdenodhcliaa
open Go.RowKit

/-- append at its place, guarded or not, by what it is known to do. -/
theorem wpList_append_run {P : Program} {w w' : World} {ops : Array Oper} {rest : List Oper} {o : Oper} {a : Act} {Q : Exit → Act → World → Prop} (s x : Operand) (t : TypeId)
    (ho : o.op = .call { callee := .builtin .append, args := #[s, x], argTypes := #[t, t] }) (hw : Region.wanted o (yielded ops a.tmps) = true)
    (v xv v' : Value) (hs : a.eval s = v) (hx : a.eval x = xv) (hr : (Builtin.append_ #[t, t] o.type #[v, xv]).run P w = .ok v' w') (h : wpList P ops Q rest (a.put o.dst v') w') : wpList P ops Q (o :: rest) a w := by
  refine BigFrame.wpList_want hw fun K hK => ?_
  unfold Oper.wp execOp
  simp only [ho, resolve, invoke, builtin, Sem.run_bind, Sem.run_pure, Result.andThen_ok, List.map_toArray, List.map_cons, List.map_nil, hs, hx, hr]
  exact hK _ _ h
theorem join_run {w : World} {B B' n m : Nat} {v s : Value} {xs ys : List Value} (hv : w.ownsRow B 22 1 v n xs) (hs : w.ownsRow B' 22 1 s m ys) (h1 : ∀ u ∈ ys, u.oneCell' = true) (hb : n + m ≤ 1000) (hB : B ≤ w.heap.size) :
    ∃ v' w', (Builtin.append_ #[24, 24] 24 #[v, s]).run Try.prog w = .ok v' w' ∧ w'.ownsRow B 22 1 v' (n + m) (xs ++ ys) ∧ w.grownBy w' v.ownBlock ∧ (v'.ownBlock = v.ownBlock ∨ v'.ownBlock = some w.heap.size) := by
  obtain ⟨i0, hi0, hz0, hz1, hz2⟩ := info_parts Try.info22
  rcases hs.2 with ⟨rfl, rfl⟩ | ⟨g, cap, cur, rfl, _, _, _⟩
  · have hy : ys = [] := List.eq_nil_of_length_eq_zero (by simpa using hs.1)
    subst hy
    exact ⟨v, w, run_append_owned_none (P := Try.prog) w B 24 24 22 i0 1 Try.underlying24 hi0 v n xs hv, by simpa using hv, ⟨rfl, rfl, rfl, Nat.le_refl _, fun _ _ _ => rfl⟩, .inl rfl⟩
  · obtain ⟨v', w', hr, h2, h3, _, h5⟩ := run_append_own_at (P := Try.prog) w B 24 24 22 i0 (.slice none 0 0) 1 24 Try.underlying24 hi0 hz0 hz1 hz2 rfl (by decide) v n xs hv ⟨g, 0, none⟩ m cap ys hs.1 (hs.cells (g := g) rfl) h1 (by unfold maxLen; omega) (by omega) hB
    exact ⟨v', w', hr, h2, h3, h5⟩
theorem vals_append (n m : Nat) (V W : Nat → Value) : vals n V ++ vals m W = vals (n + m) fun i => if i < n then V i else W (i - n) := by
  apply List.ext_getElem?
  intro i
  by_cases h1 : i < n
  · rw [List.getElem?_append_left (by rw [vals_len]; exact h1), vals_get _ _ _ h1, vals_get _ _ _ (by omega), if_pos h1]
  · rw [List.getElem?_append_right (by rw [vals_len]; omega), vals_len]
    by_cases h2 : i < n + m
    · rw [vals_get _ _ _ (by omega), vals_get _ _ _ h2, if_neg h1]
    · rw [List.getElem?_eq_none (by rw [vals_len]; omega), List.getElem?_eq_none (by rw [vals_len]; omega)]
/-- One of two, by place. -/
def two {α : Type} (n : Nat) (f g : Nat → α) (i : Nat) : α := if i < n then f i else g (i - n)
theorem OwnV.spare {B : Nat} {S : Nat → Prop} {w w' : World} {v : Value} {n : Nat} {G M C N Q : Nat → Nat} {X : Nat → Nat → K} (h : OwnV B w v n G M C N Q X) (hs : SpareIn S w w') (h1 : ∀ i, i < n → ¬ S (G i)) (h2 : ∀ b, v.ownBlock = some b → ¬ S b) : OwnV B w' v n G M C N Q X where
  top := own_keepV h.top (fun b q => hs.block b (h.top.lt b q).2 (h2 b q))
  row := fun i hi => own_keep (h.row i hi) (hs.block _ (own_ge (h.row i hi)).2 (h1 i hi))
  inj := h.inj
theorem slice_one {n : Nat} {G L C : Nat → Nat} : ∀ u ∈ vals n (fun i => .slice (some ⟨G i, 0, none⟩) (L i) (C i)), u.oneCell' = true := fun u hu => by
  unfold vals at hu
  obtain ⟨i, _, rfl⟩ := List.mem_map.1 hu
  rfl
/-- Two lists of rows joined. -/
theorem join_any {B : Nat} {w : World} {v1 v2 : Value} {n1 n2 : Nat} {G1 L1 C1 G2 L2 C2 : Nat → Nat} {X1 X2 : Nat → Nat → K} (h1 : OwnV B w v1 n1 G1 L1 C1 C1 C1 X1) (h2 : OwnV B w v2 n2 G2 L2 C2 C2 C2 X2) (hB : B ≤ w.heap.size) (hn : n1 + n2 ≤ 300) (hap : ∀ i k, i < n1 → k < n2 → G1 i ≠ G2 k) :
    ∃ u1 wa u2 wb, (Builtin.append_ #[24, 24] 24 #[.slice (some ⟨w.heap.size, 0, none⟩) 0 0, v1]).run Try.prog (w.alloc (.cells #[] 22)) = .ok u1 wa ∧ (Builtin.append_ #[24, 24] 24 #[u1, v2]).run Try.prog wa = .ok u2 wb ∧
      OwnV B wb u2 (n1 + n2) (two n1 G1 G2) (two n1 L1 L2) (two n1 C1 C2) (two n1 C1 C2) (two n1 C1 C2) (two n1 X1 X2) ∧ Below w.heap.size w wb := by
  have hz : (w.alloc (.cells #[] 22)).heap.size = w.heap.size + 1 := by simp
  have hv0 := World.ownsRow_lit (base := B) (e := 22) (size := 1) w #[] 0 hB (by unfold maxLen; omega) rfl
  have hb0 : Below w.heap.size w (w.alloc (.cells #[] 22)) := (Below.refl _ _).alloc (Nat.le_refl _) _
  obtain ⟨u1, wa, r1, o1, g1, at1⟩ := join_run hv0 (h1.stay hb0).top slice_one (by omega) (by omega)
  have hu1 : ∀ b, u1.ownBlock = some b → w.heap.size ≤ b := fun b q => by
    rcases at1 with e | e
    · rw [e] at q; have q2 : w.heap.size = b := by simpa [Value.ownBlock] using q
      omega
    · rw [e, hz] at q; have q2 : w.heap.size + 1 = b := by simpa using q
      omega
  have hba : Below w.heap.size w wa := Below.grown hb0 g1 (by omega) (fun b q => Nat.le_of_eq (by simpa [Value.ownBlock] using q))
  have hsa := g1.size
  obtain ⟨u2, wb, r2, o2, g2, at2⟩ := join_run o1 (h2.stay hba).top slice_one (by omega) (by omega)
  have hbb : Below w.heap.size w wb := Below.grown hba g2 (by omega) (fun b q => hu1 b q)
  refine ⟨u1, wa, u2, wb, r1, r2, ⟨?_, ?_, ?_⟩, hbb⟩
  · have e : ((#[] : Array Value).toList ++ vals n1 fun i => Value.slice (some ⟨G1 i, 0, none⟩) (L1 i) (C1 i)) ++ (vals n2 fun i => Value.slice (some ⟨G2 i, 0, none⟩) (L2 i) (C2 i)) = vals (n1 + n2) fun i => .slice (some ⟨two n1 G1 G2 i, 0, none⟩) (two n1 L1 L2 i) (two n1 C1 C2 i) := by
      rw [List.nil_append, vals_append]
      refine vals_congr (fun i _ => ?_)
      unfold two
      by_cases q : i < n1
      · rw [if_pos q, if_pos q, if_pos q, if_pos q]
      · rw [if_neg q, if_neg q, if_neg q, if_neg q]
    rw [e] at o2
    have e2 : 0 + n1 + n2 = n1 + n2 := by omega
    rw [e2] at o2; exact o2
  · intro i hi
    unfold two
    by_cases q : i < n1
    · simp only [if_pos q]; exact (h1.stay hbb).row i q
    · simp only [if_neg q]; exact (h2.stay hbb).row (i - n1) (by omega)
  · intro i j hi hj q
    unfold two at q
    by_cases q1 : i < n1
    · by_cases q2 : j < n1
      · rw [if_pos q1, if_pos q2] at q; exact h1.inj i j q1 q2 q
      · rw [if_pos q1, if_neg q2] at q; exact absurd q (hap i (j - n1) q1 (by omega))
    · by_cases q2 : j < n1
      · rw [if_neg q1, if_pos q2] at q; exact absurd q.symm (hap j (i - n1) q2 (by omega))
      · rw [if_neg q1, if_neg q2] at q; have := h2.inj (i - n1) (j - n1) (by omega) (by omega) q; omega
theorem cnt_le (e : Int) (n : Nat) : cnt e n ≤ n := by unfold cnt; split <;> omega

end Go.Proofs.Ytapgdenodhcliaa
