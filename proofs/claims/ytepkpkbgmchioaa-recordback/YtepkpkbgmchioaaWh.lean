/- Contract of Read of package record. -/
import Derived.Test.YtepkpkbgmchioaaWg
namespace Go.Proofs.Ytepkpkbgmchioaa
open Go Go.RowKit

def ReadOk (w : World) (rc : Rc) (L : List Nat) (e : Ending) (w' : World) : Prop := ∃ (r : Rv) (ps : Ps) (out : Value), e = .returned (.tuple #[.agg r.cs, out, i64 0]) ∧ r.ok ∧ r.rc ps = rc ∧ PLF w.heap.size w' r.pv ps ∧ OutB w.heap.size w' out L ∧ Below w.heap.size w w'
set_option maxRecDepth 100000 in
set_option maxHeartbeats 400000 in
theorem read_bad (po : Option Addr) (c : Nat) (bs : List Nat) (w : World) (h : BL w po bs) (hc : bs.length ≤ c) (hn : bs.length ≤ 100000) (h8 : ∀ x ∈ bs, x < 256) (hq : rdR bs = none) :
    Calls Try.prog 30 #[.slice po bs.length c] w fun e w' => e = .returned (.tuple #[.agg zR.cs, .slice none 0 0, i64 4]) ∧ Below w.heap.size w w' := by
  have hro := fun w1 (hb : Below w.heap.size w w1) => readerOf_any po c bs w1 (h.below hb) hc hn h8
  have HRO := hid hro
  have HQ : Hid ((some bs).bind rdR = none) := hid hq
  clear h h8 hq hro
  go_enter Try.func30, Try.ntmps30
  go_wp2_with (first
    | ((with_reducible refine wpList_allocR rfl rfl ?_); intro w1 g1 hz1 hb1 hg1; have HZ1 := hid hz1; have HB1 := hid hb1; clear hz1 hb1)
    | (go_at_call 39; refine (HRO.out _ HB1.out).mono ?_; rintro e w2 ⟨rfl, hr2, hb2⟩; have HZ2 := hid (And.intro HZ1.out.at_.lt (HZ1.out.below zR_ok hb2)); have HB2 := hid (below_on HB1.out hb2); have HR2 := hid hr2; clear hr2 hb2 HZ1)
    | (go_at_call 55; refine (record_any _ _ _ HR2.out).mono ?_; rintro e w3 ⟨r, ps, rfl, hok, hpl, hr3, ho3, hval⟩; have HB3 := hid (below_tr HB2.out (ho3.below HB2.out.size (fun i e => by have := HB1.out.size; omega))); have HZ3 := hid (HZ2.out.2.only zR_ok ho3 (by have := HZ2.out.1; omega)); have HK := hid hok; rw [HQ.out] at hr3; have HR3 := hid hr3; clear hr3 ho3 hpl hok hval HR2)
    | (go_at_call 54; refine (toldR_bad _ _ r HK.out HR3.out).mono ?_; rintro e w4 ⟨rfl, hb4⟩; have HZ4 := hid (HZ3.out.below zR_ok hb4); have HB4 := hid (below_on HB3.out hb4); clear hb4)
    | ((with_reducible refine wpList_storeR rfl rfl _ _ rfl g1 ?_ (r := zR) ?_ zR_ok zR_ok rfl HZ4.out ?_); exact rfl; exact rfl; intro w5 h5 o5; have H5 := hid h5; have O5 := hid o5; clear h5 o5))
  refine ret_row3 rfl g1 (v := .slice none 0 0) (x := i64 4) rfl rfl rfl rfl H5.out zR_ok ⟨rfl, ?_⟩
  exact below_tr HB4.out (O5.out.below HB4.out.size (fun i e => by omega))
set_option maxRecDepth 100000 in
set_option maxHeartbeats 400000 in
theorem read_ok (po : Option Addr) (c : Nat) (bs : List Nat) (w : World) (h : BL w po bs) (hc : bs.length ≤ c) (hn : bs.length ≤ 100000) (h8 : ∀ x ∈ bs, x < 256) {rc : Rc} {L : List Nat} (hq : rdR bs = some (rc, L)) :
    Calls Try.prog 30 #[.slice po bs.length c] w (ReadOk w rc L) := by
  have hro := fun w1 (hb : Below w.heap.size w w1) => readerOf_any po c bs w1 (h.below hb) hc hn h8
  have HRO := hid hro
  have HQ : Hid ((some bs).bind rdR = some (rc, L)) := hid hq
  clear h h8 hq hro
  go_enter Try.func30, Try.ntmps30
  go_wp2_with (first
    | ((with_reducible refine wpList_allocR rfl rfl ?_); intro w1 g1 hz1 hb1 hg1; have HZ1 := hid hz1; have HB1 := hid hb1; clear hz1 hb1)
    | (go_at_call 39; refine (HRO.out _ HB1.out).mono ?_; rintro e w2 ⟨rfl, hr2, hb2⟩; have HZ2 := hid (And.intro HZ1.out.at_.lt (HZ1.out.below zR_ok hb2)); have HB2 := hid (below_on HB1.out hb2); have HR2 := hid hr2; clear hr2 hb2 HZ1)
    | (go_at_call 55; refine (record_any _ _ _ HR2.out).mono ?_; rintro e w3 ⟨r, ps, rfl, hok, hpl, hr3, ho3, hval⟩; have HB3 := hid (below_tr HB2.out (ho3.below HB2.out.size (fun i e => by have := HB1.out.size; omega))); have HZ3 := hid (HZ2.out.2.only zR_ok ho3 (by have := HZ2.out.1; omega)); have HK := hid hok; rw [HQ.out] at hr3; have HR3 := hid hr3; have HVAL := hid (hval _ _ HQ.out); have hone : r.pv.oneCell' = true := (by obtain ⟨_, _, _, e⟩ := hpl.form; rw [e]; rfl); have HPL := hid hpl; clear hr3 ho3 hpl hok hval HR2)
    | (go_at_call 54; refine (toldR_ok _ _ r HK.out hone L HR3.out).mono ?_; rintro e w4 ⟨out, rfl, hout, hb4⟩; have HOUT := hid hout; have HZ4 := hid (HZ3.out.below zR_ok hb4); have HB4 := hid (below_on HB3.out hb4); have HPL4 := hid (HPL.out.only (Only.of_below (S := fun _ => False) hb4) (fun _ h => h.elim)); clear hb4 hout)
    | ((with_reducible refine wpList_storeR rfl rfl _ _ rfl g1 ?_ (r := r) ?_ zR_ok HK.out hone HZ4.out ?_); exact rfl; exact rfl; intro w5 h5 o5; have H5 := hid h5; have O5 := hid o5; clear h5 o5))
  refine ret_row3 rfl g1 (v := out) (x := i64 0) rfl rfl rfl rfl H5.out HK.out ?_
  have l1 := HZ2.out.1
  have l2 := HB2.out.size
  have l3 := HB3.out.size
  have l4 := HB1.out.size
  have l5 := HZ3.out.at_.lt
  have l6 := HZ2.out.2.at_.lt
  refine ⟨r, ps, out, rfl, HK.out, HVAL.out, PLF.base (HPL4.out.only O5.out (fun i e => by omega)) l2, OutB.base (HOUT.out.only O5.out (fun i e => by have := (HOUT.out.blk i e).1; omega)) l3, ?_⟩
  exact below_tr HB4.out (O5.out.below HB4.out.size (fun i e => by omega))
#print axioms read_ok
#print axioms read_bad
end Go.Proofs.Ytepkpkbgmchioaa
