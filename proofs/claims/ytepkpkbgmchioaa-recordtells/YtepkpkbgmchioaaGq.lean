/- Texts laid into one: the remark ahead of each part says what is proved there. -/
import Derived.Test.YtepkpkbgmchioaaGl
import Derived.Test.YtepkpkbgmchioaaGn
import Derived.Test.YtepkpkbgmchioaaGp
/- RecordTells: records that came in; what is carried through its walk; its early ends. -/
namespace Go.Proofs.Ytepkpkbgmchioaa
open Go Go.RowKit

/-- What is told of a record that came in; its parts have room only where they lie somewhere. -/
def IsRN (w : World) (r : Rv) : Prop := IsR w r ∧ ∀ n c, r.pv = .slice none n c → c = 0
section
variable {H : Type} {enc : TypeId × Value → H} {w : World} {held : Bool} {fuel : Nat}
set_option maxRecDepth 100000 in
theorem rec_nil {cs : List Value} {x : DataW H × List MemPlace} (h : DataW.trod enc Try.prog w 0 (fun _ => true) held fuel 45 cs = some x) (n c : Nat) (e : cs[40]? = some (.slice none n c)) : c = 0 := by
  obtain ⟨xs, m, _, _, hcl, hxl, hf⟩ := DataW.trod_struct Try.underlying45 h
  have hx : xs.length = 11 := by rw [hxl]; rfl
  have kP : Try.prog.cellsOf 43 = 1 := by kernel_rfl
  match xs, hx with
  | [y0, y1, y2, y3, y4, y5, y6, y7, y8, y9, y10], _ =>
    have f9 : DataW.trod enc Try.prog w 0 (fun _ => true) held m 43 ((cs.drop 40).take (Try.prog.cellsOf 43)) = some y9 := hf 9 _ rfl
    rw [kP] at f9
    rcases DataW.trod_slice Try.underlying43 f9 with ⟨hcs, _⟩ | ⟨ad, l, c', elems, rest, n', _, hcs, _⟩
    · have e2 := congrArg (·[0]?) hcs
      simp only [List.getElem?_take, List.getElem?_drop] at e2
      rw [show 40 + 0 = 40 from rfl, e] at e2
      simp at e2
      exact e2.2
    · have e2 := congrArg (·[0]?) hcs
      simp only [List.getElem?_take, List.getElem?_drop] at e2
      rw [show 40 + 0 = 40 from rfl, e] at e2
      simp at e2
theorem rec_read2 {cs : List Value} {x : DataW H × List MemPlace} (h : DataW.trod enc Try.prog w 0 (fun _ => true) held fuel 45 cs = some x) : ∃ r : Rv, IsRN w r ∧ cs = r.cs.toList := by
  obtain ⟨r, hr, e⟩ := rec_read h
  refine ⟨r, ⟨hr, fun n c hp => rec_nil h n c ?_⟩, e⟩
  rw [e, Array.getElem?_toList, Rv.pv_at hr.sl, hp]
end
/-- What is carried: the two records, the copy of the first, the lent bytes. -/
structure Tl (w : World) (ra rb ri : Rv) (ps qs : Ps) (ga gb gi gl : Nat) (b : Option Addr) (bs : List Nat) (W : World) : Prop where
  below : Below w.heap.size w W
  ca : CAt W ga ra.cs 45
  cb : CAt W gb rb.cs 45
  ci : CAt W gi ri.cs 45
  pa : PL W ra.pv ps
  pb : PL W rb.pv qs
  pi : PL W ri.pv ps
  le : Lent W gl bs
  bl : BL W b bs
theorem Tl.on {w W W' : World} {ra rb ri : Rv} {ps qs : Ps} {ga gb gi gl : Nat} {b : Option Addr} {bs : List Nat} (h : Tl w ra rb ri ps qs ga gb gi gl b bs W) (hb : Below W.heap.size W W') : Tl w ra rb ri ps qs ga gb gi gl b bs W' :=
  ⟨below_on h.below hb, h.ca.below hb, h.cb.below hb, h.ci.below hb, h.pa.below hb, h.pb.below hb, h.pi.below hb, h.le.below hb, h.bl.below hb⟩
#print axioms rec_read2
set_option maxRecDepth 100000 in
set_option maxHeartbeats 400000 in
theorem tells_big0 (ra rb : Rv) (sa : ra.sum.length = 32) (sb : rb.sum.length = 32) (pa pb : Option Addr) (na ca nb_ cb : Nat) (ea : ra.pv = .slice pa na ca) (eb : rb.pv = .slice pb nb_ cb) (b : Option Addr) (len cap : Nat) (w : World) (hA : bigR ra na = true) : Calls Try.prog 4 #[.agg ra.cs, .agg rb.cs, .slice b len cap] w fun e w' => e = .returned (.bool true) ∧ Below w.heap.size w w' := by
  have HSra := hid sa
  have HSrb := hid sb
  have HLa := hid (fun W => large_any ra sa pa na ca ea W)
  have HLb := hid (fun W => large_any rb sb pb nb_ cb eb W)
  rw [hA] at HLa
  have T1 : Hid True := hid trivial
  have T2 : Hid True := hid trivial
  clear sa sb ea eb
  go_enter Try.func4, Try.ntmps4
  go_wp2_with (first
    | (clear T1; (with_reducible refine wpList_boxR rfl _ rfl ra.cs ?_ ?_); exact rfl; intro w1 ga hc1 hb1 hg1; have HC1 := hid hc1; have HB1 := hid hb1; clear hc1 hb1)
    | (clear T2; (with_reducible refine wpList_boxR rfl _ rfl rb.cs ?_ ?_); exact rfl; intro w2 gb hc2 hb2 hg2; have HT : Hid (Two w w2 ga gb ra rb) := hid ⟨below_on HB1.out hb2, HC1.out.below hb2, hc2⟩; clear hc2 hb2 HC1 HB1)
    | (go_at_call 32; (with_reducible refine (awake_any _).mono ?_); rintro e w3 ⟨rfl, hb3⟩; replace HT := hid (HT.out.on hb3); clear hb3)
    | ((with_reducible refine wpList_load_at 45 _ rfl ?_ ga 0 ?_ ra.cs (.struct (Try.prog.fieldsOf 45)) ?_ underRec rfl ?_ ?_); exact rfl; exact rfl; exact HT.out.ca.whole; (rw [Rv.size_of HSra.out]; exact sizeR))
    | ((with_reducible refine wpList_load_at 45 _ rfl ?_ gb 0 ?_ rb.cs (.struct (Try.prog.fieldsOf 45)) ?_ underRec rfl ?_ ?_); exact rfl; exact rfl; exact HT.out.cb.whole; (rw [Rv.size_of HSrb.out]; exact sizeR))
    | (go_at_call 21; (with_reducible refine (HLa.out _).mono ?_); rintro e w4 ⟨rfl, hb4⟩; replace HT := hid (HT.out.on hb4); clear hb4 HLa)
    | (go_at_call 21; (with_reducible refine (HLb.out _).mono ?_); rintro e w5 ⟨rfl, hb5⟩; replace HT := hid (HT.out.on hb5); clear hb5 HLb))
  go_ret
  exact ⟨rfl, HT.out.below⟩
set_option maxRecDepth 100000 in
set_option maxHeartbeats 400000 in
theorem tells_big1 (ra rb : Rv) (sa : ra.sum.length = 32) (sb : rb.sum.length = 32) (pa pb : Option Addr) (na ca nb_ cb : Nat) (ea : ra.pv = .slice pa na ca) (eb : rb.pv = .slice pb nb_ cb) (b : Option Addr) (len cap : Nat) (w : World) (hA : bigR ra na = false) (hB : bigR rb nb_ = true) : Calls Try.prog 4 #[.agg ra.cs, .agg rb.cs, .slice b len cap] w fun e w' => e = .returned (.bool true) ∧ Below w.heap.size w w' := by
  have HSra := hid sa
  have HSrb := hid sb
  have HLa := hid (fun W => large_any ra sa pa na ca ea W)
  have HLb := hid (fun W => large_any rb sb pb nb_ cb eb W)
  rw [hA] at HLa
  rw [hB] at HLb
  have T1 : Hid True := hid trivial
  have T2 : Hid True := hid trivial
  clear sa sb ea eb
  go_enter Try.func4, Try.ntmps4
  go_wp2_with (first
    | (clear T1; (with_reducible refine wpList_boxR rfl _ rfl ra.cs ?_ ?_); exact rfl; intro w1 ga hc1 hb1 hg1; have HC1 := hid hc1; have HB1 := hid hb1; clear hc1 hb1)
    | (clear T2; (with_reducible refine wpList_boxR rfl _ rfl rb.cs ?_ ?_); exact rfl; intro w2 gb hc2 hb2 hg2; have HT : Hid (Two w w2 ga gb ra rb) := hid ⟨below_on HB1.out hb2, HC1.out.below hb2, hc2⟩; clear hc2 hb2 HC1 HB1)
    | (go_at_call 32; (with_reducible refine (awake_any _).mono ?_); rintro e w3 ⟨rfl, hb3⟩; replace HT := hid (HT.out.on hb3); clear hb3)
    | ((with_reducible refine wpList_load_at 45 _ rfl ?_ ga 0 ?_ ra.cs (.struct (Try.prog.fieldsOf 45)) ?_ underRec rfl ?_ ?_); exact rfl; exact rfl; exact HT.out.ca.whole; (rw [Rv.size_of HSra.out]; exact sizeR))
    | ((with_reducible refine wpList_load_at 45 _ rfl ?_ gb 0 ?_ rb.cs (.struct (Try.prog.fieldsOf 45)) ?_ underRec rfl ?_ ?_); exact rfl; exact rfl; exact HT.out.cb.whole; (rw [Rv.size_of HSrb.out]; exact sizeR))
    | (go_at_call 21; (with_reducible refine (HLa.out _).mono ?_); rintro e w4 ⟨rfl, hb4⟩; replace HT := hid (HT.out.on hb4); clear hb4 HLa)
    | (go_at_call 21; (with_reducible refine (HLb.out _).mono ?_); rintro e w5 ⟨rfl, hb5⟩; replace HT := hid (HT.out.on hb5); clear hb5 HLb))
  go_ret
  exact ⟨rfl, HT.out.below⟩
set_option maxRecDepth 100000 in
set_option maxHeartbeats 400000 in
theorem tells_big2 (ra rb : Rv) (sa : ra.sum.length = 32) (sb : rb.sum.length = 32) (pa pb : Option Addr) (na ca nb_ cb : Nat) (ea : ra.pv = .slice pa na ca) (eb : rb.pv = .slice pb nb_ cb) (b : Option Addr) (len cap : Nat) (w : World) (hA : bigR ra na = false) (hB : bigR rb nb_ = false) (hl : 10000 < len) : Calls Try.prog 4 #[.agg ra.cs, .agg rb.cs, .slice b len cap] w fun e w' => e = .returned (.bool true) ∧ Below w.heap.size w w' := by
  have HSra := hid sa
  have HSrb := hid sb
  have HLa := hid (fun W => large_any ra sa pa na ca ea W)
  have HLb := hid (fun W => large_any rb sb pb nb_ cb eb W)
  rw [hA] at HLa
  rw [hB] at HLb
  have hl' : 10000 < (len : Int) := by omega
  have T1 : Hid True := hid trivial
  have T2 : Hid True := hid trivial
  clear sa sb ea eb
  go_enter Try.func4, Try.ntmps4
  go_wp2_with (first
    | (clear T1; (with_reducible refine wpList_boxR rfl _ rfl ra.cs ?_ ?_); exact rfl; intro w1 ga hc1 hb1 hg1; have HC1 := hid hc1; have HB1 := hid hb1; clear hc1 hb1)
    | (clear T2; (with_reducible refine wpList_boxR rfl _ rfl rb.cs ?_ ?_); exact rfl; intro w2 gb hc2 hb2 hg2; have HT : Hid (Two w w2 ga gb ra rb) := hid ⟨below_on HB1.out hb2, HC1.out.below hb2, hc2⟩; clear hc2 hb2 HC1 HB1)
    | (go_at_call 32; (with_reducible refine (awake_any _).mono ?_); rintro e w3 ⟨rfl, hb3⟩; replace HT := hid (HT.out.on hb3); clear hb3)
    | ((with_reducible refine wpList_load_at 45 _ rfl ?_ ga 0 ?_ ra.cs (.struct (Try.prog.fieldsOf 45)) ?_ underRec rfl ?_ ?_); exact rfl; exact rfl; exact HT.out.ca.whole; (rw [Rv.size_of HSra.out]; exact sizeR))
    | ((with_reducible refine wpList_load_at 45 _ rfl ?_ gb 0 ?_ rb.cs (.struct (Try.prog.fieldsOf 45)) ?_ underRec rfl ?_ ?_); exact rfl; exact rfl; exact HT.out.cb.whole; (rw [Rv.size_of HSrb.out]; exact sizeR))
    | (go_at_call 21; (with_reducible refine (HLa.out _).mono ?_); rintro e w4 ⟨rfl, hb4⟩; replace HT := hid (HT.out.on hb4); clear hb4 HLa)
    | (go_at_call 21; (with_reducible refine (HLb.out _).mono ?_); rintro e w5 ⟨rfl, hb5⟩; replace HT := hid (HT.out.on hb5); clear hb5 HLb))
  go_ret
  exact ⟨rfl, HT.out.below⟩
end Go.Proofs.Ytepkpkbgmchioaa

/- RecordTells: its walk. -/
namespace Go.Proofs.Ytepkpkbgmchioaa
open Go Go.RowKit

theorem hpl_on {B : Nat} {w w' : World} {v : Value} {ps : Ps} (h : PLF B w v ps) (hb : Below w.heap.size w w') : PLF B w' v ps := h.only (Only.of_below (S := fun _ => False) hb) (fun _ h => h.elim)
theorem sizeP : (Try.prog.info? 53).map (·.size) = some 2 := by kernel_rfl
theorem built_part : Try.prog.built 53 [] = some #[i64 0, i64 0] := by kernel_rfl
section
variable (w : World) (ra rb ri : Rv) (ps qs : Ps) (ga gb gi gl : Nat) (b : Option Addr) (bs : List Nat)
/-- Behind a copy of the record: all is there, and the copy's parts are new. -/
def YE (v : Value) (W : World) : Prop := ∃ Wp, Tl w ra rb ri ps qs ga gb gi gl b bs Wp ∧ Below Wp.heap.size Wp W ∧ PLX Wp.heap.size W v ps
/-- .. and may be written. -/
def YF (py : Option Addr) (g : Nat) (W : World) : Prop := ∃ Wp, Tl w ra rb ri ps qs ga gb gi gl b bs Wp ∧ Below Wp.heap.size Wp W ∧ (ps = [] ∨ ∃ yb yo cs, py = some ⟨yb, yo, none⟩ ∧ CAt W yb cs 53 ∧ yo + ps.length * 2 ≤ cs.size ∧ Wp.heap.size ≤ yb ∧ yb ≠ g)
/-- Behind what was read: all is there, and the rest is new. -/
def RE (out : Value) (L : List Nat) (W : World) : Prop := ∃ Wq, Tl w ra rb ri ps qs ga gb gi gl b bs Wq ∧ Below Wq.heap.size Wq W ∧ OutB Wq.heap.size W out L
end
section
variable {w : World} {ra rb ri : Rv} {ps qs : Ps} {ga gb gi gl : Nat} {b : Option Addr} {bs : List Nat} {W W' : World}
theorem YE.on {v : Value} (h : YE w ra rb ri ps qs ga gb gi gl b bs v W) (hb : Below W.heap.size W W') : YE w ra rb ri ps qs ga gb gi gl b bs v W' := by
  obtain ⟨Wp, h1, h2, h3⟩ := h
  exact ⟨Wp, h1, below_on h2 hb, h3.only (Only.of_below (S := fun _ => False) hb) (fun _ h => h.elim)⟩
theorem YE.pl {v : Value} (h : YE w ra rb ri ps qs ga gb gi gl b bs v W) : PL W v ps := by obtain ⟨_, _, _, h3⟩ := h; exact h3.1.1
theorem YE.made {py : Option Addr} {c g : Nat} (h : YE w ra rb ri ps qs ga gb gi gl b bs (.slice py ps.length c) W) (hb : Below W.heap.size W W') (hg : W.heap.size ≤ g) : YF w ra rb ri ps qs ga gb gi gl b bs py g W' := by
  obtain ⟨Wp, h1, h2, h3⟩ := h
  refine ⟨Wp, h1, below_on h2 hb, ?_⟩
  by_cases hne : ps = []
  · exact Or.inl hne
  obtain ⟨po, c', e, _, _, hp⟩ := h3.1.1
  rcases hp with hp | ⟨yb, yo, e2, hp⟩
  · exact absurd hp hne
  cases e
  subst e2
  obtain ⟨cs, hc⟩ := h3.2 ⟨yb, yo, none⟩ _ _ rfl hne
  have hlen : 0 < List.length ps := List.length_pos_iff.2 hne
  have h9 := (hp (List.length ps - 1) (by omega)).2
  have hc' : CAt W yb cs 53 := hc
  rw [hc'.cell] at h9
  have hlt := (Array.getElem?_eq_some_iff.1 h9).1
  exact Or.inr ⟨yb, yo, cs, rfl, hc'.below hb, by omega, h3.1.2 ⟨yb, yo, none⟩ _ _ rfl hne, by have := hc'.lt; omega⟩
theorem YF.on {py : Option Addr} {g : Nat} (h : YF w ra rb ri ps qs ga gb gi gl b bs py g W) (hb : Below W.heap.size W W') : YF w ra rb ri ps qs ga gb gi gl b bs py g W' := by
  obtain ⟨Wp, h1, h2, h3⟩ := h
  refine ⟨Wp, h1, below_on h2 hb, ?_⟩
  rcases h3 with h3 | ⟨yb, yo, cs, k1, k2, k3, k4, k5⟩
  · exact Or.inl h3
  · exact Or.inr ⟨yb, yo, cs, k1, k2.below hb, k3, k4, k5⟩
theorem YF.tl {py : Option Addr} {g : Nat} (h : YF w ra rb ri ps qs ga gb gi gl b bs py g W) : Tl w ra rb ri ps qs ga gb gi gl b bs W := by
  obtain ⟨Wp, h1, h2, _⟩ := h
  exact h1.on h2
theorem setAll_len (vs : List Value) : ∀ (cs : List Value) (o : Nat), (setAll cs o vs).length = cs.length := by
  induction vs with
  | nil => intro cs o; rfl
  | cons v r ih => intro cs o; rw [setAll, ih, List.length_set]
theorem YF.at {py : Option Addr} {g k : Nat} (h : YF w ra rb ri ps qs ga gb gi gl b bs py g W) (hk : k < ps.length) : ∃ yb yo, py = some ⟨yb, yo, none⟩ ∧ W.there yb (yo + k * 2) 2 ∧ (YF w ra rb ri ps qs ga gb gi gl b bs (some ⟨yb, yo, none⟩) g (W.setCells yb (yo + k * 2) [i64 0, i64 0]) ∧ (W.setCells yb (yo + k * 2) [i64 0, i64 0]).heap[g]? = W.heap[g]?) := by
  obtain ⟨Wp, h1, h2, h3⟩ := h
  rcases h3 with h3 | ⟨yb, yo, cs, k1, k2, k3, k4, k5⟩
  · rw [h3] at hk; cases hk
  refine ⟨yb, yo, k1, fun j hj => ⟨?_, k2.free _⟩, ⟨Wp, h1, ?_, Or.inr ⟨yb, yo, _, rfl, CAt.setCells _ _ _ _ k2, ?_, k4, k5⟩⟩, ?_⟩
  · rw [k2.cell, Array.getElem?_eq_getElem (by omega)]; rfl
  · exact below_tr h2 ((only_setCells (S := fun b => b = yb) W yb (yo + k * 2) [i64 0, i64 0] rfl).below h2.size (fun i e => by omega))
  · rw [List.size_toArray, setAll_len, Array.length_toList]; exact k3
  · by_cases hg : g < W.heap.size
    · exact (only_setCells (S := fun b => b = yb) W yb (yo + k * 2) [i64 0, i64 0] rfl).block g hg (fun e => k5 e.symm)
    · rw [Array.getElem?_eq_none (by rw [World.setCells, World.setCells, World.setCells, setCell_size, setCell_size]; omega), Array.getElem?_eq_none (by omega)]
theorem RE.on {out : Value} {L : List Nat} (h : RE w ra rb ri ps qs ga gb gi gl b bs out L W) (hb : Below W.heap.size W W') : RE w ra rb ri ps qs ga gb gi gl b bs out L W' := by
  obtain ⟨Wq, h1, h2, h3⟩ := h
  exact ⟨Wq, h1, below_on h2 hb, h3.below hb⟩
theorem RE.sl {out : Value} {L : List Nat} (h : RE w ra rb ri ps qs ga gb gi gl b bs out L W) : SL W out L := by obtain ⟨_, _, _, h3⟩ := h; exact h3.sl
theorem RE.over {out : Value} {L : List Nat} (h : RE w ra rb ri ps qs ga gb gi gl b bs out L W) (h8 : ∀ x ∈ L, x < 256) (hn : L.length ≤ 1000000) : Calls Try.prog 19 #[out] W fun e w' => e = .returned (.tuple #[]) ∧ Tl w ra rb ri ps qs ga gb gi gl b bs w' := by
  obtain ⟨Wq, h1, h2, h3⟩ := h
  exact (over_out h3 h8 hn).mono fun e w' ⟨k1, k2⟩ => ⟨k1, h1.on (below_tr h2 (k2.below h2.size (fun i e => e.2)))⟩
end
end Go.Proofs.Ytepkpkbgmchioaa
