/- Contract of sweep of the document's own answer: it leaves the rank, and with full rank the inverse beside it; nothing below the call's own memory is touched. -/
import Derived.Test.YtapgdenodhcliaaPa
import Derived.Test.YtapgdenodhcliaaPc
import Derived.BigRegion
namespace Go.Proofs.Ytapgdenodhcliaa
open Go.RowKit

theorem OwnMat.swap {B : Nat} {w : World} {g c n m : Nat} {G Q : Nat → Nat} {X : Nat → Nat → K} (h : OwnMat B w g c n m G Q X) (p r : Nat) (hp : p < n) (hr : r < n) :
    OwnMat B ((w.setCell ⟨g, p, none⟩ (rv (G r) m (Q r))).setCell ⟨g, r, none⟩ (rv (G p) m (Q p))) g c n m (fun i => G (swI p r i)) (fun i => Q (swI p r i)) (fun i => X (swI p r i)) where
  top := by
    have h1 := ((h.top.stored p (rv (G r) m (Q r))).1.stored r (rv (G p) m (Q p))).1
    rw [vals_set, vals_set] at h1
    rwa [vals_congr (W := fun i => rv (G (swI p r i)) m (Q (swI p r i))) (fun i _ => by
      unfold upd swI
      by_cases e1 : i = r
      · by_cases e2 : i = p
        · subst e1; subst e2; simp
        · have e3 : ¬ r = p := fun q => e2 (e1.trans q)
          simp [e1, e3]
      · by_cases e2 : i = p
        · have e3 : ¬ p = r := fun q => e1 (e2.trans q)
          simp [e2, e3]
        · simp [e1, e2])] at h1
  row := fun i hi => by
    have hh := h.row (swI p r i) (swI_lt hp hr hi)
    have ha : g ≠ G (swI p r i) := h.apart _ (swI_lt hp hr hi)
    exact ownsRow_setCell_other (ownsRow_setCell_other hh (by simp [Value.ownBlock]; exact fun q => ha q.symm) _) (by simp [Value.ownBlock]; exact fun q => ha q.symm) _
  inj := fun i j hi hj q => by
    have := h.inj _ _ (swI_lt hp hr hi) (swI_lt hp hr hj) q
    have h2 := congrArg (swI p r) this
    rwa [swI_swI, swI_swI] at h2
theorem OwnMat.byBlock {B : Nat} {w w' : World} {g c n m : Nat} {G Q : Nat → Nat} {X : Nat → Nat → K} (h : OwnMat B w g c n m G Q X) (hg : w'.heap[g]? = w.heap[g]?) (hG : ∀ i, i < n → w'.heap[G i]? = w.heap[G i]?) : OwnMat B w' g c n m G Q X where
  top := own_keep h.top hg
  row := fun i hi => own_keep (h.row i hi) (hG i hi)
  inj := h.inj

/-- Two matrices that share nothing. -/
structure Two (B : Nat) (w : World) (ga ca gw cw n m : Nat) (Ga Qa Gw Qw : Nat → Nat) (T W : Nat → Nat → K) : Prop where
  a : OwnMat B w ga ca n m Ga Qa T
  b : OwnMat B w gw cw n n Gw Qw W
  tops : ga ≠ gw
  rows : ∀ i k, i < n → k < n → Ga i ≠ Gw k
section
variable {B : Nat} {w w' : World} {ga ca gw cw n m : Nat} {Ga Qa Gw Qw : Nat → Nat} {T W T' W' : Nat → Nat → K}
theorem Two.onA (h : Two B w ga ca gw cw n m Ga Qa Gw Qw T W) (r : Nat) (hr : r < n) (ha : OwnMat B w' ga ca n m Ga Qa T') (ho : OnlyIn (fun k => k = Ga r) w w') : Two B w' ga ca gw cw n m Ga Qa Gw Qw T' W where
  a := ha
  b := h.b.byBlock (ho.block gw (fun q => own_apart h.b.top (h.a.row r hr) (by decide) q)) (fun i hi => ho.block _ (fun q => h.rows r i hr hi q.symm))
  tops := h.tops
  rows := h.rows
theorem Two.onB (h : Two B w ga ca gw cw n m Ga Qa Gw Qw T W) (r : Nat) (hr : r < n) (hb : OwnMat B w' gw cw n n Gw Qw W') (ho : OnlyIn (fun k => k = Gw r) w w') : Two B w' ga ca gw cw n m Ga Qa Gw Qw T W' where
  a := h.a.byBlock (ho.block ga (fun q => own_apart h.a.top (h.b.row r hr) (by decide) q)) (fun i hi => ho.block _ (fun q => h.rows i r hi hr q))
  b := hb
  tops := h.tops
  rows := h.rows
theorem Two.drew (h : Two B w ga ca gw cw n m Ga Qa Gw Qw T W) : Two B w.drew ga ca gw cw n m Ga Qa Gw Qw T W := ⟨h.a.drew, h.b.drew, h.tops, h.rows⟩
theorem Two.congr (h : Two B w ga ca gw cw n m Ga Qa Gw Qw T W) (e1 : ∀ i, i < n → ∀ j, j < m → T i j = T' i j) (e2 : ∀ i, i < n → ∀ j, j < n → W i j = W' i j) : Two B w ga ca gw cw n m Ga Qa Gw Qw T' W' := ⟨h.a.congr e1, h.b.congr e2, h.tops, h.rows⟩
theorem Two.swapA (h : Two B w ga ca gw cw n m Ga Qa Gw Qw T W) (p r : Nat) (hp : p < n) (hr : r < n) :
    Two B ((w.setCell ⟨ga, p, none⟩ (rv (Ga r) m (Qa r))).setCell ⟨ga, r, none⟩ (rv (Ga p) m (Qa p))) ga ca gw cw n m (fun i => Ga (swI p r i)) (fun i => Qa (swI p r i)) Gw Qw (fun i => T (swI p r i)) W where
  a := h.a.swap p r hp hr
  b := h.b.byBlock ((Below.heap_setCell _ _ _ _ (fun q => h.tops q.symm)).trans (Below.heap_setCell _ _ _ _ (fun q => h.tops q.symm))) (fun i hi => (Below.heap_setCell _ _ _ _ (fun q => own_apart h.a.top (h.b.row i hi) (by decide) q.symm)).trans (Below.heap_setCell _ _ _ _ (fun q => own_apart h.a.top (h.b.row i hi) (by decide) q.symm)))
  tops := h.tops
  rows := fun i k hi hk => h.rows _ k (swI_lt hp hr hi) hk
theorem Two.swapB (h : Two B w ga ca gw cw n m Ga Qa Gw Qw T W) (p r : Nat) (hp : p < n) (hr : r < n) :
    Two B ((w.setCell ⟨gw, p, none⟩ (rv (Gw r) n (Qw r))).setCell ⟨gw, r, none⟩ (rv (Gw p) n (Qw p))) ga ca gw cw n m Ga Qa (fun i => Gw (swI p r i)) (fun i => Qw (swI p r i)) T (fun i => W (swI p r i)) where
  a := h.a.byBlock ((Below.heap_setCell _ _ _ _ (fun q => h.tops q)).trans (Below.heap_setCell _ _ _ _ (fun q => h.tops q))) (fun i hi => (Below.heap_setCell _ _ _ _ (fun q => own_apart h.b.top (h.a.row i hi) (by decide) q.symm)).trans (Below.heap_setCell _ _ _ _ (fun q => own_apart h.b.top (h.a.row i hi) (by decide) q.symm)))
  b := h.b.swap p r hp hr
  tops := h.tops
  rows := fun i k hi hk => h.rows i _ hi (swI_lt hp hr hk)
end
theorem elR_start (X T : Nat → Nat → K) (r j i c : Nat) : X i c = elR X T r j 0 i c := by unfold elR; rw [if_neg (by omega)]
theorem elR_skip (X T : Nat → Nat → K) (r j k : Nat) (h : k = r ∨ T k j = 0) (i c : Nat) : elR X T r j k i c = elR X T r j (k + 1) i c := by
  unfold elR
  by_cases e : i = k
  · subst e
    rw [if_neg (by omega)]
    rcases h with h | h
    · rw [if_neg (fun q => q.2 h)]
    · by_cases q : i = r
      · rw [if_neg (fun z => z.2 q)]
      · rw [if_pos ⟨by omega, q⟩, h, kmul_zero, kadd_zero]
  · by_cases q : i < k ∧ i ≠ r
    · rw [if_pos q, if_pos (by omega)]
    · rw [if_neg q, if_neg (by omega)]
theorem elR_take (X T : Nat → Nat → K) (r j k : Nat) (h : k ≠ r) (i c : Nat) : tkR (elR X T r j k) k r (T k j) i c = elR X T r j (k + 1) i c := by
  have e1 : elR X T r j k k c = X k c := by unfold elR; rw [if_neg (by omega)]
  have e2 : elR X T r j k r c = X r c := by unfold elR; rw [if_neg (fun q => q.2 rfl)]
  unfold tkR
  by_cases e : i = k
  · subst e
    rw [if_pos rfl, e1, e2]; unfold elR; rw [if_pos ⟨by omega, h⟩]
  · rw [if_neg e]; unfold elR
    by_cases q : i < k ∧ i ≠ r
    · rw [if_pos q, if_pos (by omega)]
    · rw [if_neg q, if_neg (by omega)]
theorem elR_at (X T : Nat → Nat → K) (r j k c : Nat) : elR X T r j k k c = X k c := by unfold elR; rw [if_neg (by omega)]

theorem swI_same (p r : Nat) : swI p r r = p := by unfold swI; by_cases e : r = p <;> simp [e]
theorem set_some {w : World} {a b : Addr} {v x y : Value} (ha : w.cell? a = some x) (hb : w.cell? b = some y) : ∃ u, (w.setCell a v).cell? b = some u := by
  by_cases e : b = a
  · subst e; exact ⟨v, World.cell?_setCell_same _ _ _ ha⟩
  · exact ⟨y, (World.cell?_setCell_other _ _ _ _ (fun q => e q.symm)).trans hb⟩

set_option maxRecDepth 100000 in
set_option maxHeartbeats 8000000 in
theorem rsweep_any (B ga ca gw cw n m : Nat) (Ga Qa Gw Qw : Nat → Nat) (A : Nat → Nat → K) (w : World) (h : Two B w ga ca gw cw n m Ga Qa Gw Qw A on) (h0 : 1 ≤ n) (hn : n ≤ 32) (h1 : 1 ≤ m) (hm : m ≤ 32) :
    Calls Try.prog 77 #[.slice (some ⟨ga, 0, none⟩) n ca, .slice (some ⟨gw, 0, none⟩) n cw] w fun e w' => ∃ r j T W Gw' Qw', e = .returned (.int .i64 ((r : Nat) : Int)) ∧ RInv A n m j r T W ∧ (j = m ∨ r = n) ∧ OwnMat B w' gw cw n n Gw' Qw' W ∧ Below B w w' := by
  have H0 := hid h
  clear h
  go_enter Try.func77, Try.ntmps77
  go_wp2
  go_loopw [5, 6] (fun xr xj wr => ∃ r j : Nat, ∃ (T W : Nat → Nat → K) (Ga Qa Gw Qw : Nat → Nat), xr = .int .i64 r ∧ xj = .int .i64 j ∧ RInv A n m j r T W ∧ Two B wr ga ca gw cw n m Ga Qa Gw Qw T W ∧ Below B w wr) (fun _ xj _ => (m - intOf xj).toNat)
  case atStart => exact ⟨0, 0, A, on, Ga, Qa, Gw, Qw, rfl, rfl, RInv.start A n m, H0.out, Below.refl _ _⟩
  case round =>
    clear H0 Ga Qa Gw Qw
    obtain ⟨r, j, T, W, Ga, Qa, Gw, Qw, rfl, rfl, hr, ht, hb⟩ := hrel
    have hrn := hr.rn
    have hjm := hr.jm
    have c0 := ht.a.topCell 0 (by omega)
    have HR := hid hr
    have HT := hid ht
    have HB := hid hb
    clear hr ht hb
    by_cases hj : j < m
    · by_cases hrr : r < n
      · go_wp2_with fail
        go_loop [7] (fun x => ∃ p : Nat, r ≤ p ∧ p ≤ n ∧ x = .int .i64 p ∧ ∀ i, i < n → r ≤ i → i < p → T i j = 0) (fun x => (n - intOf x).toNat)
        case atStart => exact ⟨r, by omega, by omega, rfl, fun i _ h2 h3 => absurd h3 (by omega)⟩
        case round =>
          obtain ⟨p, hp1, hp2, rfl, hs⟩ := hrel
          by_cases hpn : p < n
          · have c1 := HT.out.a.topCell p hpn
            have c2 := HT.out.a.cell p j hpn hj
            by_cases hz : T p j = 0
            · have hz' : ((((T p j).val : Nat) : Int) == 0) = true := by rw [hz]; rfl
              have HS : Hid (∀ i, i < n → r ≤ i → i < p + 1 → T i j = 0) := fun i h1 h2 h3 => by
                by_cases e : i = p
                · rw [e]; exact hz
                · exact hs i h1 h2 (by omega)
              clear hs hz
              go_wp2
              go_round
              case rel => exact ⟨p + 1, by omega, by omega, by go_num, HS.out⟩
              case measure => simp [intOf]; omega
            · have hz' : ((((T p j).val : Nat) : Int) == 0) = false := by have := K.val_ne hz; simp; omega
              have hpe : ((p : Int) == (n : Int)) = false := by simp; omega
              have HP := hid (HR.out.pivot hj hrr hp1 hpn hz)
              clear hs hz
              have c3 := HT.out.a.topCell r hrr
              have c4 := HT.out.a.topFree p
              have c5 := HT.out.a.topFree r
              have hgea := (own_ge HT.out.a.top).1
              have hgeb := (own_ge HT.out.b.top).1
              obtain ⟨u1, d1⟩ : ∃ u, (wr.setCell ⟨ga, p, none⟩ (.slice (some ⟨Ga r, 0, none⟩) m (Qa r))).cell? ⟨ga, r, none⟩ = some u := set_some c1 c3
              have hp0 : (p : Int) < (n : Int) := by omega
              have hr0 : (r : Int) < (n : Int) := by omega
              have HTa : Hid (Two B ((wr.setCell ⟨ga, p, none⟩ (.slice (some ⟨Ga r, 0, none⟩) m (Qa r))).setCell ⟨ga, r, none⟩ (.slice (some ⟨Ga p, 0, none⟩) m (Qa p))).drew ga ca gw cw n m (fun i => Ga (swI p r i)) (fun i => Qa (swI p r i)) Gw Qw (fun i => T (swI p r i)) W) := (HT.out.swapA p r hpn hrr).drew
              have HBa := hid (((HB.out.setCell (p := ⟨ga, p, none⟩) hgea (.slice (some ⟨Ga r, 0, none⟩) m (Qa r))).setCell (p := ⟨ga, r, none⟩) hgea (.slice (some ⟨Ga p, 0, none⟩) m (Qa p))).drew)
              go_wp2_with fail
              go_region
              clear c0 c1 c2 c3 c4 c5 d1 HT HB HR
              revert HTa HBa
              generalize ((wr.setCell ⟨ga, p, none⟩ (.slice (some ⟨Ga r, 0, none⟩) m (Qa r))).setCell ⟨ga, r, none⟩ (.slice (some ⟨Ga p, 0, none⟩) m (Qa p))).drew = wa
              intro HTa HBa
              have b1 := HTa.out.b.topCell p hpn
              have b3 := HTa.out.b.topCell r hrr
              have b4 := HTa.out.b.topFree p
              have b5 := HTa.out.b.topFree r
              obtain ⟨u2, d2⟩ : ∃ u, (wa.setCell ⟨gw, p, none⟩ (.slice (some ⟨Gw r, 0, none⟩) n (Qw r))).cell? ⟨gw, r, none⟩ = some u := set_some b1 b3
              have HTb : Hid (Two B ((wa.setCell ⟨gw, p, none⟩ (.slice (some ⟨Gw r, 0, none⟩) n (Qw r))).setCell ⟨gw, r, none⟩ (.slice (some ⟨Gw p, 0, none⟩) n (Qw p))).drew ga ca gw cw n m (fun i => Ga (swI p r i)) (fun i => Qa (swI p r i)) (fun i => Gw (swI p r i)) (fun i => Qw (swI p r i)) (fun i => T (swI p r i)) (fun i => W (swI p r i))) := (HTa.out.swapB p r hpn hrr).drew
              have HBb := hid (((HBa.out.setCell (p := ⟨gw, p, none⟩) hgeb (.slice (some ⟨Gw r, 0, none⟩) n (Qw r))).setCell (p := ⟨gw, r, none⟩) hgeb (.slice (some ⟨Gw p, 0, none⟩) n (Qw p))).drew)
              go_wp2_with fail
              go_region
              clear b1 b3 b4 b5 d2 HTa HBa
              revert HTb HBb
              generalize ((wa.setCell ⟨gw, p, none⟩ (.slice (some ⟨Gw r, 0, none⟩) n (Qw r))).setCell ⟨gw, r, none⟩ (.slice (some ⟨Gw p, 0, none⟩) n (Qw p))).drew = wb
              intro HTb HBb
              obtain ⟨Ga1, Qa1, Gw1, Qw1, hTb⟩ : ∃ Ga1 Qa1 Gw1 Qw1, Two B wb ga ca gw cw n m Ga1 Qa1 Gw1 Qw1 (fun i => T (swI p r i)) (fun i => W (swI p r i)) := ⟨_, _, _, _, HTb.out⟩
              have e1 : (fun i => T (swI p r i)) r j = T p j := by show T (swI p r r) j = T p j; rw [swI_same]
              revert HP e1 hTb
              generalize (fun i => T (swI p r i)) = T1
              generalize (fun i => W (swI p r i)) = W1
              intro HP hTb e1
              have HE1 := hid e1
              have HTc := hid hTb
              have a1 := hTb.a.topCell r hrr
              have a2 := hTb.a.cell r j hrr hj
              rw [e1] at a2
              clear HTb hTb e1
              go_wp2_with (go_at_call 57; refine (rinv_k _ _).mono ?_; rintro e w' ⟨rfl, hw⟩; have hw2 := hw.symm; subst hw2; clear hw)
              refine (scale_any B ga ca n m r Ga1 Qa1 T1 (K.iv (T p j)) wb HTc.out.a hrr hm).mono ?_
              rintro e wc ⟨rfl, hma, hoa⟩
              have HTd := hid (HTc.out.onA r hrr hma hoa)
              have HBd := hid (hoa.below HBb.out (fun k hk => by rw [hk]; exact (HTc.out.a.ge r hrr).1))
              have a3 := HTd.out.b.topCell r hrr
              clear hma hoa HTc HBb a1 a2
              go_wp2_with fail
              refine (scale_any B gw cw n n r Gw1 Qw1 W1 (K.iv (T p j)) wc HTd.out.b hrr hn).mono ?_
              rintro e wd ⟨rfl, hmb, hob⟩
              have HTe := hid (HTd.out.onB r hrr hmb hob)
              have HBe := hid (hob.below HBd.out (fun k hk => by rw [hk]; exact (HTd.out.b.ge r hrr).1))
              clear hmb hob HTd HBd a3
              revert HP HTe
              generalize scR T1 r (K.iv (T p j)) = T2
              generalize scR W1 r (K.iv (T p j)) = W2
              intro HP HTe
              go_wp2_with fail
              go_loopw [10] (fun x wy => ∃ i : Nat, i ≤ n ∧ x = .int .i64 i ∧ Two B wy ga ca gw cw n m Ga1 Qa1 Gw1 Qw1 (elR T2 T2 r j i) (elR W2 T2 r j i) ∧ Below B w wy) (fun x _ => (n - intOf x).toNat)
              case atStart => exact ⟨0, by omega, rfl, HTe.out.congr (fun i _ c _ => elR_start T2 T2 r j i c) (fun i _ c _ => elR_start W2 T2 r j i c), HBe.out⟩
              case round =>
                clear HTe HBe HE1
                obtain ⟨i, hi, rfl, ht, hb⟩ := hrel
                by_cases hlt : i < n
                · by_cases hir : i = r
                  · have hir' : ((i : Int) != (r : Int)) = false := by rw [hir]; simp
                    have HT := hid (ht.congr (fun k _ c _ => elR_skip T2 T2 r j i (Or.inl hir) k c) (fun k _ c _ => elR_skip W2 T2 r j i (Or.inl hir) k c))
                    have HB := hid hb
                    clear ht hb hir
                    go_wp2
                    go_roundw
                    case rel => exact ⟨i + 1, by omega, by go_num, HT.out, HB.out⟩
                    case measure => simp [intOf]; omega
                  · have hir' : ((i : Int) != (r : Int)) = true := by simp; omega
                    have a1 := ht.a.topCell i hlt
                    have a2 := ht.a.cell i j hlt hj
                    rw [elR_at] at a2
                    by_cases hz : T2 i j = 0
                    · have hz' : ((((T2 i j).val : Nat) : Int) != 0) = false := by rw [hz]; rfl
                      have HT := hid (ht.congr (fun k _ c _ => elR_skip T2 T2 r j i (Or.inr hz) k c) (fun k _ c _ => elR_skip W2 T2 r j i (Or.inr hz) k c))
                      have HB := hid hb
                      clear ht hb hir hz
                      go_wp2
                      go_roundw
                      case rel => exact ⟨i + 1, by omega, by go_num, HT.out, HB.out⟩
                      case measure => simp [intOf]; omega
                    · have hz' : ((((T2 i j).val : Nat) : Int) != 0) = true := by have := K.val_ne hz; simp; omega
                      have a3 := ht.a.topCell r hrr
                      have HT := hid ht
                      have HB := hid hb
                      have HIR := hid hir
                      have hlt0 : (i : Int) < (n : Int) := by omega
                      have hrr0 : (r : Int) < (n : Int) := by omega
                      clear ht hb hir hz
                      go_wp2_with fail
                      go_region_held3 (fun w' => w'.cell? ⟨ga, i, none⟩ = some (.slice (some ⟨Ga1 i, 0, none⟩) m (Qa1 i)) ∧ w'.cell? ⟨ga, r, none⟩ = some (.slice (some ⟨Ga1 r, 0, none⟩) m (Qa1 r))) (first | go_keep | exact ⟨hmt.topCell i hlt, hmt.topCell r hrr⟩) (first | (go_at_call 86; refine (take_any B ga ca n m i r Ga1 Qa1 (elR T2 T2 r j i) (T2 i j) _ (by exact HT.out.drew.a) hlt hrr HIR.out hm).mono ?_; rintro e wf ⟨rfl, hmt, hot⟩))
                      have HTf := hid (HT.out.drew.onA i hlt hmt hot)
                      have HBf := hid (hot.below HB.out.drew (fun k hk => by rw [hk]; exact (HT.out.a.ge i hlt).1))
                      have b1 := HTf.out.b.topCell i hlt
                      have b3 := HTf.out.b.topCell r hrr
                      clear hmt hot HT HB a1 a2 a3
                      go_wp2_with fail
                      go_region_held3 (fun w' => w'.cell? ⟨gw, i, none⟩ = some (.slice (some ⟨Gw1 i, 0, none⟩) n (Qw1 i)) ∧ w'.cell? ⟨gw, r, none⟩ = some (.slice (some ⟨Gw1 r, 0, none⟩) n (Qw1 r))) (first | go_keep | exact ⟨hmu.topCell i hlt, hmu.topCell r hrr⟩) (first | (go_at_call 86; refine (take_any B gw cw n n i r Gw1 Qw1 (elR W2 T2 r j i) (T2 i j) _ (by exact HTf.out.drew.b) hlt hrr HIR.out hn).mono ?_; rintro e wg ⟨rfl, hmu, hou⟩))
                      have HTg := hid ((HTf.out.drew.onB i hlt hmu hou).congr (fun k _ c _ => elR_take T2 T2 r j i HIR.out k c) (fun k _ c _ => elR_take W2 T2 r j i HIR.out k c))
                      have HBg := hid (hou.below HBf.out.drew (fun k hk => by rw [hk]; exact (HTf.out.b.ge i hlt).1))
                      clear hmu hou HTf HBf b1 b3
                      go_wp2
                      go_roundw
                      case rel => exact ⟨i + 1, by omega, by go_num, HTg.out, HBg.out⟩
                      case measure => simp [intOf]; omega
                · have e : i = n := by omega
                  subst e
                  have HT := hid ht
                  have HB := hid hb
                  clear ht hb
                  go_wp2
                  go_roundw
                  case rel => exact ⟨r + 1, j + 1, _, _, Ga1, Qa1, Gw1, Qw1, by go_num, by go_num, HP.out, HT.out, HB.out⟩
                  case measure => simp [intOf]; omega
          · have HS : Hid (RInv A n m (j + 1) r T W) := HR.out.skip hj (fun i h1 h2 => hs i h1 h2 (by omega))
            have hpe : ((p : Int) == (n : Int)) = true := by simp; omega
            clear hs
            go_wp2
            go_roundw
            case rel => exact ⟨r, j + 1, T, W, Ga, Qa, Gw, Qw, rfl, by go_num, HS.out, HT.out, HB.out⟩
            case measure => simp [intOf]; omega
      · have e : r = n := by omega
        have E := hid e
        clear e
        go_wp2
        go_ret
        exact ⟨r, j, T, W, Gw, Qw, rfl, HR.out, .inr E.out, HT.out.b, HB.out⟩
    · have e : j = m := by omega
      have E := hid e
      clear e
      go_wp2
      go_ret
      exact ⟨r, j, T, W, Gw, Qw, rfl, HR.out, .inl E.out, HT.out.b, HB.out⟩
end Go.Proofs.Ytapgdenodhcliaa
