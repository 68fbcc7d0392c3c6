/- Texts laid into one, cut to what is needed: the remark ahead of each part says what is proved there. -/
import Derived.Test.YtelkijiphhoacaaDoorLaf
import Derived.Test.YtelkijiphhoacaaDoorLad
/- A record in memory, field by field written. -/
namespace Go.Proofs.YtelkijiphhoacaaDoor
open Go Go.RowKit

theorem Rv.toL (r : Rv) : r.cs.toList = [.string r.id, i64 r.time, .bool r.mark, i64 r.size, .string r.etag, i64 r.k, i64 r.m, .string r.data] ++ (r.sum.map u8 ++ [r.pv, .string r.up]) := by simp [Rv.cs, sumC]
theorem set_lo (r s : Rv) (i : Nat) (v : Value) (hi : i < 8) (h : s.sum = r.sum ∧ s.pv = r.pv ∧ s.up = r.up)
    (he : ([.string r.id, i64 r.time, .bool r.mark, i64 r.size, .string r.etag, i64 r.k, i64 r.m, .string r.data] : List Value).set i v = [.string s.id, i64 s.time, .bool s.mark, i64 s.size, .string s.etag, i64 s.k, i64 s.m, .string s.data]) : r.cs.setIfInBounds i v = s.cs := by
  apply Array.toList_inj.1
  rw [Array.toList_setIfInBounds, Rv.toL, Rv.toL, List.set_append_left _ _ (by simpa using hi), he, h.1, h.2.1, h.2.2]
section
variable {w : World} {g : Nat} {r : Rv} (h : RBox w g r) (ho : r.ok)
include h ho
theorem RBox.set2 (b : Bool) : RBox (w.setCell ⟨g, 2, none⟩ (.bool b)) g { r with mark := b } := RBox.mk' ⟨ho.sl, ho.s8, ho.i, ho.e, ho.d, ho.u⟩ (by rw [← set_lo r { r with mark := b } 2 (.bool b) (by omega) ⟨rfl, rfl, rfl⟩ rfl]; exact h.at_.set 2 _)
theorem RBox.set3 (n : Int) : RBox (w.setCell ⟨g, 3, none⟩ (i64 n)) g { r with size := n } := RBox.mk' ⟨ho.sl, ho.s8, ho.i, ho.e, ho.d, ho.u⟩ (by rw [← set_lo r { r with size := n } 3 (i64 n) (by omega) ⟨rfl, rfl, rfl⟩ rfl]; exact h.at_.set 3 _)
theorem RBox.set4 (s : ByteArray) (hs : s.size ≤ 100000) : RBox (w.setCell ⟨g, 4, none⟩ (.string s)) g { r with etag := s } := RBox.mk' ⟨ho.sl, ho.s8, ho.i, hs, ho.d, ho.u⟩ (by rw [← set_lo r { r with etag := s } 4 (.string s) (by omega) ⟨rfl, rfl, rfl⟩ rfl]; exact h.at_.set 4 _)
theorem RBox.set5 (n : Int) : RBox (w.setCell ⟨g, 5, none⟩ (i64 n)) g { r with k := n } := RBox.mk' ⟨ho.sl, ho.s8, ho.i, ho.e, ho.d, ho.u⟩ (by rw [← set_lo r { r with k := n } 5 (i64 n) (by omega) ⟨rfl, rfl, rfl⟩ rfl]; exact h.at_.set 5 _)
theorem RBox.set6 (n : Int) : RBox (w.setCell ⟨g, 6, none⟩ (i64 n)) g { r with m := n } := RBox.mk' ⟨ho.sl, ho.s8, ho.i, ho.e, ho.d, ho.u⟩ (by rw [← set_lo r { r with m := n } 6 (i64 n) (by omega) ⟨rfl, rfl, rfl⟩ rfl]; exact h.at_.set 6 _)
theorem RBox.set7 (s : ByteArray) (hs : s.size ≤ 100000) : RBox (w.setCell ⟨g, 7, none⟩ (.string s)) g { r with data := s } := RBox.mk' ⟨ho.sl, ho.s8, ho.i, ho.e, hs, ho.u⟩ (by rw [← set_lo r { r with data := s } 7 (.string s) (by omega) ⟨rfl, rfl, rfl⟩ rfl]; exact h.at_.set 7 _)
theorem RBox.set40 (v : Value) : RBox (w.setCell ⟨g, 40, none⟩ v) g { r with pv := v } := RBox.mk' ⟨ho.sl, ho.s8, ho.i, ho.e, ho.d, ho.u⟩ (by
  have e : r.cs.setIfInBounds 40 v = ({ r with pv := v } : Rv).cs := by
    apply Array.toList_inj.1
    rw [Array.toList_setIfInBounds, Rv.toL, Rv.toL, List.set_append_right _ _ (by simp), List.set_append_right _ _ (by simp [ho.sl])]
    simp [ho.sl]
  rw [← e]; exact h.at_.set 40 _)
theorem RBox.set41 (s : ByteArray) (hs : s.size ≤ 100000) : RBox (w.setCell ⟨g, 41, none⟩ (.string s)) g { r with up := s } := RBox.mk' ⟨ho.sl, ho.s8, ho.i, ho.e, ho.d, hs⟩ (by
  have e : r.cs.setIfInBounds 41 (.string s) = ({ r with up := s } : Rv).cs := by
    apply Array.toList_inj.1
    rw [Array.toList_setIfInBounds, Rv.toL, Rv.toL, List.set_append_right _ _ (by simp), List.set_append_right _ _ (by simp [ho.sl])]
    simp [ho.sl]
  rw [← e]; exact h.at_.set 41 _)
end
/-- Cells set one behind the other. -/
def setAll (cs : List Value) (o : Nat) : List Value → List Value
  | [] => cs
  | v :: r => setAll (cs.set o v) (o + 1) r
theorem CAt.setCells {b : Nat} {t : TypeId} : ∀ (vs : List Value) (o : Nat) (cs : Array Value) (w : World), CAt w b cs t → CAt (w.setCells b o vs) b (setAll cs.toList o vs).toArray t
  | [], o, cs, w, h => by simpa [World.setCells, setAll] using h
  | v :: r, o, cs, w, h => by
    rw [World.setCells, setAll]
    have := CAt.setCells r (o + 1) _ _ (h.set o v)
    rw [Array.toList_setIfInBounds] at this
    exact this
theorem setAll_app (pre : List Value) : ∀ (vs mid suf : List Value), vs.length = mid.length → setAll (pre ++ (mid ++ suf)) pre.length vs = pre ++ (vs ++ suf)
  | [], mid, suf, h => by
    have : mid = [] := List.eq_nil_of_length_eq_zero (by simpa using h.symm)
    subst this; rfl
  | v :: r, [], suf, h => by simp at h
  | v :: r, m :: mid, suf, h => by
    rw [setAll]
    have e : (pre ++ (m :: mid ++ suf)).set pre.length v = (pre ++ [v]) ++ (mid ++ suf) := by
      rw [List.set_append_right _ _ (Nat.le_refl _)]; simp
    rw [e]
    have := setAll_app (pre ++ [v]) r mid suf (by simpa using h)
    rw [List.length_append] at this
    rw [show pre.length + 1 = pre.length + [v].length from rfl, this]
    simp
theorem RBox.setSum {w : World} {g : Nat} {r : Rv} (h : RBox w g r) (ho : r.ok) (x : List Nat) (hx : x.length = 32) (h8 : ∀ z ∈ x, z < 256) : RBox (w.setCells g 8 (x.map u8)) g { r with sum := x } := RBox.mk' ⟨hx, h8, ho.i, ho.e, ho.d, ho.u⟩ (by
  have h2 := CAt.setCells (x.map u8) 8 _ _ h.at_
  have e : (setAll r.cs.toList 8 (x.map u8)).toArray = ({ r with sum := x } : Rv).cs := by
    apply Array.toList_inj.1
    rw [Rv.toL, Rv.toL]
    have := setAll_app [.string r.id, i64 r.time, .bool r.mark, i64 r.size, .string r.etag, i64 r.k, i64 r.m, .string r.data] (x.map u8) (r.sum.map u8) [r.pv, .string r.up] (by simp [hx, ho.sl])
    simpa using this
  rw [e] at h2
  exact h2)
theorem only_setCells {S : Nat → Prop} (w : World) (b o : Nat) (vs : List Value) (h : S b) : Only S w (w.setCells b o vs) := by
  induction vs generalizing o w with
  | nil => exact Only.refl _ _
  | cons v r ih => rw [World.setCells]; exact (Only.set w ⟨b, o, none⟩ v h).trans (ih _ _)
/-- copy(v.Sum[:], 32 bytes) -/
theorem run_copySum {w : World} {g : Nat} {r : Rv} (h : RBox w g r) (ho : r.ok) (po : Option Addr) (x : List Nat) (hx : x.length = 32) (hb : BL w po x) (ty : TypeId) :
    (Builtin.copy_ #[29, 29] ty #[.slice (some ⟨g, 8, none⟩) 32 32, .slice po 32 32]).run Tryd.prog w = .ok (goInt 32) (w.setCells g 8 (x.map u8)) := by
  rcases hb with rfl | ⟨b, o, rfl, hb⟩
  · simp at hx
  have := run_copy_cells (P := Tryd.prog) w 29 29 ty 5 g 8 32 32 ⟨b, o, none⟩ 32 32 (x.map u8) Tryd.underlying29 (by kernel_rfl) (by simp [hx])
    (fun j v hj => by
      have hjn : j < x.length := by
        rcases Nat.lt_or_ge j x.length with q | q
        · exact q
        · rw [List.getElem?_eq_none (by simpa using q)] at hj; cases hj
      rw [add_none, hb j hjn]
      simp [hjn] at hj
      rw [← hj]; simp [List.getD, hjn])
    (fun j hj => by
      have hj' : j < 32 := by simpa [hx] using hj
      rw [h.cs j _ (sumC_get (by rw [ho.sl]; exact hj'))]; rfl)
    (fun j _ => h.free _)
    (fun v hv => by obtain ⟨i, _, rfl⟩ := List.mem_map.1 hv; rfl)
  simp only [List.length_map, hx] at this
  exact this
end Go.Proofs.YtelkijiphhoacaaDoor

/- What is appended turns nothing else; numbers and texts laid behind bytes once more, by this. -/
namespace Go.Proofs.YtelkijiphhoacaaDoor
open Go Go.RowKit

/-- From w0 on the bytes v0 have been appended to: they are L at v now; nothing else that was there has turned. -/
structure AppZ (B : Nat) (v0 : Value) (w0 : World) (L : List Nat) (v : Value) (w : World) : Prop where
  buf : Buf B w v L
  only : Only (fun b => v0.ownBlock = some b) w0 w
  own : ∀ b, v.ownBlock = some b → v0.ownBlock = some b ∨ w0.heap.size ≤ b
theorem AppZ.refl {B : Nat} {v : Value} {w : World} {L : List Nat} (h : Buf B w v L) : AppZ B v w L v w := ⟨h, Only.refl _ _, fun _ h => Or.inl h⟩
theorem AppZ.trans {B : Nat} {v0 v1 v2 : Value} {w0 w1 w2 : World} {L M : List Nat} (h : AppZ B v0 w0 L v1 w1) (k : AppZ B v1 w1 M v2 w2) : AppZ B v0 w0 M v2 w2 :=
  ⟨k.buf, h.only.then k.only fun i hi e => (h.own i e).elim id fun q => by omega, fun b hb => (k.own b hb).elim (h.own b) fun q => Or.inr (Nat.le_trans h.only.size q)⟩
theorem AppZ.below {B : Nat} {v0 v : Value} {w0 w w' : World} {L : List Nat} (h : AppZ B v0 w0 L v w) (hb : Below w.heap.size w w') : AppZ B v0 w0 L v w' :=
  ⟨h.buf.below hb, h.only.trans (Only.of_below hb), h.own⟩
theorem AppZ.start {B : Nat} {v0 v : Value} {w0 w1 w : World} {L : List Nat} (hb : Below w0.heap.size w0 w1) (h : AppZ B v0 w1 L v w) : AppZ B v0 w0 L v w :=
  ⟨h.buf, (Only.of_below hb).trans h.only, fun b e => (h.own b e).imp id fun q => by have := hb.size; omega⟩
theorem Buf.appZ {B : Nat} {w : World} {v : Value} {L : List Nat} (hv : Buf B w v L) (po : Option Addr) (c : Nat) (bs : List Nat) (hb : BL w po bs) (hc : po = none → c = 0) (hn : L.length + bs.length ≤ 2000000) (hB : B ≤ w.heap.size) :
    ∃ v' w', (Builtin.append_ #[29, 29] 29 #[v, .slice po bs.length c]).run Tryd.prog w = .ok v' w' ∧ AppZ B v w (L ++ bs) v' w' := by
  obtain ⟨i0, hi0, hz0, hz1, hz2⟩ := info_parts Tryd.info5
  cases po with
  | none =>
    have : bs = [] := by rcases hb with h | ⟨b, o, h, _⟩
                         · exact h
                         · cases h
    subst this
    obtain rfl := hc rfl
    exact ⟨v, w, run_append_owned_none (P := Tryd.prog) (w := w) B 29 29 5 i0 1 Tryd.underlying29 hi0 v _ _ hv, by rw [List.append_nil]; exact AppZ.refl hv⟩
  | some a =>
    obtain ⟨v', w', hr, h2, h3, _, h4⟩ := run_append_own_at (P := Tryd.prog) w B 29 29 5 i0 (.int .u8 0) 1 1 Tryd.underlying29 hi0 hz0 hz1 hz2 rfl (by decide) v L.length (L.map u8) hv a bs.length c (bs.map u8) (by simp) (fun j u hj => by
        have hjl : j < bs.length := by
          rcases Nat.lt_or_ge j bs.length with q | q
          · exact q
          · rw [List.getElem?_eq_none (by simpa using q)] at hj; cases hj
        have e : u = u8 (bs.getD j 0) := by simp [hjl] at hj; rw [← hj]; simp [List.getD, hjl]
        rcases hb with h | ⟨b, o, e2, h⟩
        · subst h; simp at hjl
        · cases e2
          rw [add_none, e]; exact h j hjl) (by intro u hu; simp at hu; obtain ⟨k, _, rfl⟩ := hu; rfl) (by unfold maxLen; omega) (by omega) hB
    refine ⟨v', w', hr, ?_, Only.of_grown h3 fun k e _ => e, fun b e => ?_⟩
    · unfold Buf; rw [List.length_append, List.map_append]; exact h2
    · rcases h4 with h4 | h4
      · exact Or.inl (h4 ▸ e)
      · rw [h4] at e; cases e; exact Or.inr (Nat.le_refl _)
theorem Buf.pushZ {B : Nat} {w : World} {v : Value} {L : List Nat} (hv : Buf B w v L) (k : Nat) (hn : L.length + 1 ≤ 2000000) (hB : B ≤ w.heap.size) :
    ∃ v' w', (Builtin.append_ #[29, 29] 29 #[v, .slice (some ⟨w.heap.size, 0, none⟩) 1 1]).run Tryd.prog (w.alloc (.cells #[u8 k] 5)) = .ok v' w' ∧ AppZ B v w (L ++ [k]) v' w' := by
  have h2 := hv.below (below_al w (.cells #[u8 k] 5))
  have hc : CAt (w.alloc (.cells #[u8 k] 5)) w.heap.size #[u8 k] 5 := CAt.made w _ _
  obtain ⟨v', w', h3, h4⟩ := h2.appZ (some ⟨w.heap.size, 0, none⟩) 1 [k] (Or.inr ⟨w.heap.size, 0, rfl, fun i hi => by
    have : i = 0 := by simpa using hi
    subst this; rw [Nat.zero_add, hc.cell]; rfl⟩) (by simp) (by simpa using hn) (by rw [size_al]; omega)
  exact ⟨v', w', h3, AppZ.start (below_al w _) h4⟩
theorem appS_where {B : Nat} {w : World} {v : Value} {L : List Nat} (hv : Buf B w v L) (s : ByteArray) (hn : L.length + s.size ≤ 2000000) {v' : Value} {w' : World} (hr : (Builtin.append_ #[29, 9] 29 #[v, .string s]).run Tryd.prog w = .ok v' w') :
    v'.ownBlock = v.ownBlock ∨ v'.ownBlock = some w.heap.size := by
  obtain ⟨i0, hi0, hz0, hz1, hz2⟩ := info_parts Tryd.info5
  have hv0 : w.ownsRow B 5 1 v L.length (L.map u8) := hv
  rcases hv0.2 with ⟨rfl, hl⟩ | ⟨g, cap, cur, rfl, hbg, hg, hnc, hcm, hcs, htake⟩
  · by_cases hm : s.size = 0
    · have hf := Lib.run_firstCells_string (P := Tryd.prog) w 1 s
      rw [hm] at hf
      have h2 : (Builtin.append_ #[29, 9] 29 #[.slice none 0 0, .string s]).run Tryd.prog w = .ok (.slice none 0 0) w := by
        simp [Builtin.append_, run_underlying Tryd.underlying29, run_underlying Tryd.underlying9, sizeOf, typeInfo, hi0, hz1, Builtin.lenOf, hm, hf]
      rw [h2] at hr; cases hr; exact Or.inl rfl
    · have h2 := run_append_nil_string (P := Tryd.prog) w 29 9 29 5 i0 (.int .u8 0) Tryd.underlying29 Tryd.underlying9 hi0 hz0 s (by omega) (by omega) (by rw [hz2]; omega)
      rw [h2] at hr; cases hr; exact Or.inr rfl
  · by_cases hroom : L.length + s.size ≤ cap
    · have h2 := Lib.run_append_room_string (P := Tryd.prog) w 29 9 29 5 i0 Tryd.underlying29 Tryd.underlying9 hi0 hz1 g L.length cap cur hg s hroom (by omega)
      rw [h2] at hr; cases hr; exact Or.inl rfl
    · have holds : ∀ j u, (L.map u8)[j]? = some u → w.cell? ((⟨g, 0, none⟩ : Addr).add j) = some u := hv0.cells (g := g) rfl
      have h2 := Lib.run_append_grow_string (P := Tryd.prog) w 29 9 29 5 i0 (.int .u8 0) Tryd.underlying29 Tryd.underlying9 hi0 hz0 ⟨g, 0, none⟩ L.length cap (L.map u8) (by rw [hz1]; simp) holds s (by omega) (by omega) (by rw [hz2]; exact growslice_fits (by omega) (by omega))
      rw [h2] at hr; cases hr; exact Or.inr rfl
theorem Buf.appSZ {B : Nat} {w : World} {v : Value} {L : List Nat} (hv : Buf B w v L) (s : ByteArray) (hn : L.length + s.size ≤ 2000000) (hB : B ≤ w.heap.size) :
    ∃ v' w', (Builtin.append_ #[29, 9] 29 #[v, .string s]).run Tryd.prog w = .ok v' w' ∧ AppZ B v w (L ++ lst s) v' w' := by
  obtain ⟨i0, hi0, hz0, hz1, hz2⟩ := info_parts Tryd.info5
  obtain ⟨v', w', hr, h2, h3, _⟩ := Lib.run_append_own_string (P := Tryd.prog) w B 29 9 29 5 i0 Tryd.underlying29 Tryd.underlying9 hi0 hz0 hz1 hz2 v L.length (L.map u8) hv s (by unfold maxLen; omega) (by omega) hB
  refine ⟨v', w', hr, ?_, Only.of_grown h3 fun k e _ => e, fun b e => ?_⟩
  · unfold Buf; rw [List.length_append, List.map_append, lst_len, ← strCells_lst]; exact h2
  · rcases appS_where hv s hn hr with h4 | h4
    · exact Or.inl (h4 ▸ e)
    · rw [h4] at e; cases e; exact Or.inr (Nat.le_refl _)
def ZS (B : Nat) (v : Value) (w : World) (L : List Nat) (e : Ending) (w' : World) : Prop := ∃ v', e = .returned v' ∧ AppZ B v w L v' w'
set_option maxRecDepth 100000 in
set_option maxHeartbeats 400000 in
theorem appNumZ (B : Nat) (L : List Nat) (v : Value) (n : Nat) (w : World) (hn : n ≤ 1099511627776) (hv : Buf B w v L) (hL : L.length ≤ 1000000) (hB : B ≤ w.heap.size) :
    Calls Tryd.prog 38 #[v, i64 n] w (ZS B v w (L ++ nb n)) := by
  have HV := hid hv
  have HN := hid (nb_le hn)
  have HB := hid hB
  clear hv hB
  go_enter Tryd.func38, Tryd.ntmps38
  go_wp2
  go_loopw [0, 1] (fun b i wr => ∃ (m : Nat) (L' : List Nat), m ≤ n ∧ i = i64 m ∧ L' ++ nb m = L ++ nb n ∧ AppZ B v w L' b wr) (fun b i _ => (intOf i).toNat)
  case atStart => exact ⟨n, L, Nat.le_refl _, rfl, rfl, AppZ.refl HV.out⟩
  case round =>
    obtain ⟨m, L', hm, rfl, hl, hb⟩ := hrel
    have HR := hid hb
    have HE := hid hl
    have hlen := congrArg List.length hl
    rw [List.length_append, List.length_append] at hlen
    have HLN := hid hlen
    have HSZ := hid (show B ≤ wr.heap.size by have := hb.only.size; have := HB.out; omega)
    clear hb hl hlen
    by_cases hlt : (128 : Int) ≤ (m : Int)
    · have hp1 : L'.length + 1 ≤ 2000000 := by have := HLN.out; have := HN.out; omega
      obtain ⟨v', w', hr, hq⟩ := HR.out.buf.pushZ (m % 128 + 128) hp1 HSZ.out
      have HRUN := hid hr
      clear hr hp1
      have hor := or_128 m
      generalize hc : m % 128 + 128 = c at *
      have HC := hid hc
      clear hc
      go_wp2_with (at_builtin; refine wpList_append_run _ _ 29 29 rfl rfl _ _ _ rfl rfl HRUN.out ?_)
      refine ⟨⟨m / 128, L' ++ [c], by omega, by simp, ?_, HR.out.trans hq⟩, by simp [intOf]; omega⟩
      rw [← HE.out, nb_ge (n := m) (by omega), HC.out, List.append_assoc]; rfl
    · have hp1 : L'.length + 1 ≤ 2000000 := by have := HLN.out; have := HN.out; omega
      obtain ⟨v', w', hr, hq⟩ := HR.out.buf.pushZ m hp1 HSZ.out
      have HRUN := hid hr
      clear hr hp1
      go_wp2_with (at_builtin; refine wpList_append_run _ _ 29 29 rfl rfl _ _ _ rfl rfl HRUN.out ?_)
      go_ret
      have e : nb m = [m] := nb_lt (by omega)
      refine ⟨_, rfl, ?_⟩
      rw [← HE.out, e]; exact HR.out.trans hq
theorem appTextZ (B : Nat) (L : List Nat) (v : Value) (s : ByteArray) (w : World) (hn : s.size ≤ 65536) (hv : Buf B w v L) (hL : L.length ≤ 900000) (hB : B ≤ w.heap.size) :
    Calls Tryd.prog 39 #[v, .string s] w (ZS B v w (L ++ tb (lst s))) := by
  have HV := hid hv
  have HB := hid hB
  clear hv hB
  go_enter Tryd.func39, Tryd.ntmps39
  go_wp2_with (first
    | (go_at_call 38; refine (appNumZ B L _ s.size w (by omega) HV.out (by omega) HB.out).mono ?_; rintro e w1 ⟨v1, rfl, hb1⟩; have hlen := nb_le (n := s.size) (by omega); obtain ⟨v2, w2, hr, hb2⟩ := hb1.buf.appSZ s (by rw [List.length_append]; omega) (by have := hb1.only.size; have := HB.out; omega); have HRUN := hid hr; clear hr)
    | (at_builtin; refine wpList_append_run _ _ 29 9 rfl rfl _ _ _ rfl rfl HRUN.out ?_))
  go_ret
  refine ⟨v2, rfl, ?_⟩
  unfold tb; rw [lst_len, ← List.append_assoc]; exact hb1.trans hb2
end Go.Proofs.YtelkijiphhoacaaDoor

/- Contract of appendVersion of package record. -/
namespace Go.Proofs.YtelkijiphhoacaaDoor
open Go Go.RowKit

theorem below_drewN (w : World) (n : Nat) : Below w.heap.size w (w.drewN n) := ⟨rfl, rfl, rfl, Nat.le_refl _, fun _ _ => rfl⟩
theorem below_drew (w : World) : Below w.heap.size w w.drew := (Below.refl _ _).drew
def ZT (B : Nat) (v0 : Value) (w0 : World) (L : List Nat) (e : Ending) (w' : World) : Prop := ∃ v', e = .returned v' ∧ AppZ B v0 w0 L v' w'
section
variable {B : Nat} {v0 v : Value} {w0 w : World} {L : List Nat}
theorem AppZ.num (h : AppZ B v0 w0 L v w) {n : Int} (h0 : 0 ≤ n) (hn : n ≤ 1099511627776) (hL : L.length ≤ 900000) (hB : B ≤ w0.heap.size) (W : World) (hW : Below w.heap.size w W) : Calls Tryd.prog 38 #[v, i64 n] W (ZT B v0 w0 (L ++ ib n)) := by
  obtain ⟨k, rfl⟩ := Int.eq_ofNat_of_zero_le h0
  have h2 := h.below hW
  exact (appNumZ B L v k W (by omega) h2.buf (by omega) (by have := h2.only.size; omega)).mono fun e w' ⟨v', e1, hz⟩ => ⟨v', e1, h2.trans hz⟩
theorem AppZ.text (h : AppZ B v0 w0 L v w) {s : ByteArray} (hn : s.size ≤ 65536) (hL : L.length ≤ 900000) (hB : B ≤ w0.heap.size) (W : World) (hW : Below w.heap.size w W) : Calls Tryd.prog 39 #[v, .string s] W (ZT B v0 w0 (L ++ tb (lst s))) := by
  have h2 := h.below hW
  exact (appTextZ B L v s W hn h2.buf hL (by have := h2.only.size; omega)).mono fun e w' ⟨v', e1, hz⟩ => ⟨v', e1, h2.trans hz⟩
end
theorem RBox.only {w w' : World} {g : Nat} {r : Rv} {S : Nat → Prop} (h : RBox w g r) (ho : r.ok) (hO : Only S w w') (hS : ¬ S g) : RBox w' g r := RBox.mk' ho (h.at_.keep (hO.block g h.at_.lt hS))
theorem ib_le {n : Int} (h : n ≤ 1099511627776) : (ib n).length ≤ 6 := nb_le (by omega)
theorem tb_le {s : ByteArray} (h : s.size ≤ 65536) : (tb (lst s)).length ≤ s.size + 6 := by
  unfold tb; rw [List.length_append, lst_len]; have := nb_le (n := s.size) (by omega); omega
/-- What only a record of no mark has, as bytes. -/
def vB (r : Rv) (ps : Ps) : List Nat := ib r.size ++ (tb (lst r.etag) ++ (ib r.k ++ (ib r.m ++ (tb (lst r.data) ++ (r.sum ++ (nb ps.length ++ (psB ps ++ tb (lst r.up))))))))
theorem versOk_iff {r : Rv} {ps : Ps} (h : versOk r ps = true) : 0 ≤ r.size ∧ r.size ≤ 65536 ∧ r.etag.size ≤ 40 ∧ 1 ≤ r.k ∧ r.k ≤ 16 ∧ 1 ≤ r.m ∧ r.m ≤ 16 ∧ r.data.size ≤ 32 ∧ ps.length ≤ 32 ∧ okPs 0 ps = true ∧ r.up.size ≤ 32 := by
  unfold versOk at h
  simp only [Bool.and_eq_true] at h
  obtain ⟨h1, h2, h3, h4, h5, h6, h7⟩ := h
  have a1 := inR_iff.1 h1
  have a3 := inR_iff.1 h3
  have a4 := inR_iff.1 h4
  have a2 := okOf_len h2
  have a5 := okOf_len h5
  rw [lst_len] at a2 a5
  unfold okParts at h6
  simp only [Bool.and_eq_true, decide_eq_true_eq] at h6
  have a7 : r.up.size ≤ 32 := by
    unfold upOk at h7
    rw [Bool.or_eq_true] at h7
    rcases h7 with h | h
    · rw [isEmpty_lst] at h
      have : (lst r.up).length = 0 := by simpa using h
      rw [lst_len] at this; omega
    · have := okOf_len h; rw [lst_len] at this; omega
  exact ⟨a1.1, a1.2, a2.2, a3.1, a3.2, a4.1, by omega, a5.2, h6.1.1, h6.1.2, a7⟩
theorem okPs_at : ∀ {ps : Ps} {last : Int}, 0 ≤ last → okPs last ps = true → ∀ i, i < ps.length → 0 ≤ (ps.getD i (0, 0)).1 ∧ (ps.getD i (0, 0)).1 ≤ 10000 ∧ 0 ≤ (ps.getD i (0, 0)).2 ∧ (ps.getD i (0, 0)).2 ≤ 65536
  | [], _, _, _, i, hi => by simp at hi
  | p :: r, last, h0, h, i, hi => by
    simp [okPs, inR] at h
    cases i with
    | zero => simp; omega
    | succ i => simpa using okPs_at (ps := r) (last := p.1) (by omega) h.2 i (by simpa using hi)
theorem run_sum (g : Nat) (w : World) : (Instr.sliceAt 57 (.pointer (some ⟨g, 8, none⟩)) none none none).run Tryd.prog w = .ok (.slice (some ⟨g, 8, none⟩) 32 32) w := by kernel_rfl
theorem psB_take {ps : Ps} {k : Nat} (h : k < ps.length) : psB (ps.take (k + 1)) = psB (ps.take k) ++ (ib (ps.getD k (0, 0)).1 ++ ib (ps.getD k (0, 0)).2) := by
  have e : ps.take (k + 1) = ps.take k ++ [ps.getD k (0, 0)] := by rw [List.take_succ_eq_append_getElem h]; simp [List.getD, h]
  rw [e]
  unfold psB
  rw [List.map_append, List.flatten_append]
  simp
theorem psB_le {ps : Ps} (h : ∀ i, i < ps.length → (ps.getD i (0, 0)).1 ≤ 10000 ∧ (ps.getD i (0, 0)).2 ≤ 65536) : ∀ k, k ≤ ps.length → (psB (ps.take k)).length ≤ 12 * k
  | 0, _ => by simp [psB]
  | k + 1, hk => by
    have ih := psB_le h k (by omega)
    have h1 := h k (by omega)
    rw [psB_take (by omega), List.length_append, List.length_append]
    have := ib_le (n := (ps.getD k (0, 0)).1) (by omega)
    have := ib_le (n := (ps.getD k (0, 0)).2) (by omega)
    omega
theorem step_append_ex {P : Program} {w : World} {ops : Array Oper} {o : Oper} {a : Act} {K : Act → World → Prop} {Q : Exit → Act → World → Prop} {E : Prop} {R : Value → World → Prop} (hgd : o.guard = none) (s x : Operand) (t : TypeId)
    (ho : o.op = .call { callee := .builtin .append, args := #[s, x], argTypes := #[t, t] }) (v xv : Value) (hs : a.eval s = v) (hx : a.eval x = xv)
    (hr : ∃ v' w', (Builtin.append_ #[t, t] o.type #[v, xv]).run P w = .ok v' w' ∧ R v' w') (h : ∀ v' w', R v' w' → K (a.put o.dst v') w') : if Region.wanted o (yielded ops a.tmps) = true then Oper.wp P o a w K Q else E := by
  have hw : Region.wanted o (yielded ops a.tmps) = true := by simp [Region.wanted, hgd]
  rw [if_pos hw]
  obtain ⟨v', w', hr, hR⟩ := hr
  unfold Oper.wp execOp
  simp only [ho, resolve, invoke, builtin, Sem.run_bind, Sem.run_pure, Result.andThen_ok, List.map_toArray, List.map_cons, List.map_nil, hs, hx, hr]
  exact h _ _ hR
theorem AppZ.sumA {B : Nat} {v0 v : Value} {w0 w : World} {L : List Nat} (h : AppZ B v0 w0 L v w) {g : Nat} {r : Rv} (hr : r.ok) (hg : RBox w g r) (hL : L.length ≤ 900000) (hB : B ≤ w0.heap.size) (W : World) (hW : Below w.heap.size w W) :
    ∃ v' w', (Builtin.append_ #[29, 29] 29 #[v, .slice (some ⟨g, 8, none⟩) 32 32]).run Tryd.prog W = .ok v' w' ∧ AppZ B v0 w0 (L ++ r.sum) v' w' := by
  have h2 := h.below hW
  have hg2 := hg.below hr hW
  obtain ⟨v', w', h3, h4⟩ := h2.buf.appZ (some ⟨g, 8, none⟩) 32 r.sum (Or.inr ⟨g, 8, rfl, fun i hi => hg2.cs i _ (sumC_get hi)⟩) (by simp) (by rw [hr.sl]; omega) (by have := h2.only.size; omega)
  rw [hr.sl] at h3
  exact ⟨v', w', h3, h2.trans h4⟩
set_option maxRecDepth 100000 in
set_option maxHeartbeats 4000000 in
theorem appVers (w0 : World) (r : Rv) (hr : r.ok) (ps : Ps) (hp : PL w0 r.pv ps) (hv : versOk r ps = true) (v : Value) (L : List Nat) (w : World) (hw : Below w0.heap.size w0 w) (hb : Buf w0.heap.size w v L) (hL : L.length ≤ 200000) :
    Calls Tryd.prog 40 #[v, .agg r.cs] w (ZS w0.heap.size v w (L ++ vB r ps)) := by
  have HR := hid hr
  have HP := hid hp
  have HW := hid hw
  have HB := hid hb
  obtain ⟨q1, q2, q3, q4, q5, q6, q7, q8, q9, q10, q11⟩ := versOk_iff hv
  have HPS := hid (okPs_at (Int.le_refl 0) q10)
  have HVO := hid (fun b hb' => (own_ge hb b hb').2)
  have HVB := hid (fun b hb' => (own_ge hb b hb').1)
  obtain ⟨p1, d1, hpv, hpc, hpl, _⟩ := hp
  clear hr hv hw hb
  go_enter Tryd.func40, Tryd.ntmps40
  go_wp2_with ((with_reducible refine wpList_boxR rfl _ rfl r.cs ?_ ?_); exact rfl; intro w1 g1 hc1 hb1 hg1; have HA := hid (RBox.mk' HR.out hc1); have HB1 := hid hb1; clear hc1 hb1)
  have HG : Hid (∀ W, Only (fun b => v.ownBlock = some b) w1 W → RBox W g1 r) := fun W ho => HA.out.only HR.out ho (fun e => by have := HVO.out g1 e; omega)
  have hB1 : w0.heap.size ≤ w1.heap.size := by have := HW.out.size; have := HB1.out.size; omega
  have HZ := hid (AppZ.refl (HB.out.below HB1.out))
  have HC := hid (show _ ∧ _ from ⟨HA.out.c3, HA.out.c4⟩)
  have l1 := ib_le (n := r.size) (by omega)
  have l2 := tb_le (s := r.etag) (by omega)
  have l3 := ib_le (n := r.k) (by omega)
  have l4 := ib_le (n := r.m) (by omega)
  have l5 := tb_le (s := r.data) (by omega)
  have HLL := hid (And.intro l1 (And.intro l2 (And.intro l3 (And.intro l4 l5))))
  clear l1 l2 l3 l4 l5
  go_region_held3 (fun w' => w'.cell? ⟨g1, 3, none⟩ = some (i64 r.size) ∧ w'.cell? ⟨g1, 4, none⟩ = some (.string r.etag)) (exact HC.out) (first
    | (go_at_call 38; (first | refine (HZ.out.num q1 (by omega) (by omega) hB1 _ (below_drewN _ _)).mono ?_ | refine (HZ.out.num q1 (by omega) (by omega) hB1 _ (Below.refl _ _)).mono ?_); rintro e w2 ⟨v2, rfl, hz⟩; replace HZ := hid hz; replace HC := hid (show _ ∧ _ from ⟨(HG.out _ hz.only).c3, (HG.out _ hz.only).c4⟩); clear hz)
    | (go_at_call 39; (first | refine (HZ.out.text (by omega) (by rw [List.length_append]; have := HLL.out; omega) hB1 _ (below_drewN _ _)).mono ?_ | refine (HZ.out.text (by omega) (by rw [List.length_append]; have := HLL.out; omega) hB1 _ (Below.refl _ _)).mono ?_); rintro e w3 ⟨v3, rfl, hz⟩; replace HZ := hid hz; replace HC := hid (show _ ∧ _ from ⟨(HG.out _ hz.only).c3, (HG.out _ hz.only).c4⟩); clear hz))
  go_wp2
  replace HC := hid (show _ ∧ _ from ⟨(HG.out _ HZ.out.only).c5, (HG.out _ HZ.out.only).c6⟩)
  have q4' : 0 ≤ r.k := by omega
  have q6' : 0 ≤ r.m := by omega
  go_region_held3 (fun w' => w'.cell? ⟨g1, 5, none⟩ = some (i64 r.k) ∧ w'.cell? ⟨g1, 6, none⟩ = some (i64 r.m)) (exact HC.out) ((go_at_call 38; (first
    | with_reducible refine (HZ.out.num (n := r.k) q4' (by omega) (by simp only [List.length_append]; have := HLL.out; omega) hB1 _ (below_drewN _ _)).mono ?_
    | with_reducible refine (HZ.out.num (n := r.k) q4' (by omega) (by simp only [List.length_append]; have := HLL.out; omega) hB1 _ (below_drew _)).mono ?_
    | with_reducible refine (HZ.out.num (n := r.k) q4' (by omega) (by simp only [List.length_append]; have := HLL.out; omega) hB1 _ (Below.refl _ _)).mono ?_
    | with_reducible refine (HZ.out.num (n := r.m) q6' (by omega) (by simp only [List.length_append]; have := HLL.out; omega) hB1 _ (below_drewN _ _)).mono ?_
    | with_reducible refine (HZ.out.num (n := r.m) q6' (by omega) (by simp only [List.length_append]; have := HLL.out; omega) hB1 _ (below_drew _)).mono ?_
    | with_reducible refine (HZ.out.num (n := r.m) q6' (by omega) (by simp only [List.length_append]; have := HLL.out; omega) hB1 _ (Below.refl _ _)).mono ?_); rintro e w4 ⟨v4, rfl, hz⟩; replace HZ := hid hz; replace HC := hid (show _ ∧ _ from ⟨(HG.out _ hz.only).c5, (HG.out _ hz.only).c6⟩); clear hz))
  go_wp2
  replace HC := hid (HG.out _ HZ.out.only).c7
  have hsl := run_sum g1
  go_region_held3 (fun w' => w'.cell? ⟨g1, 7, none⟩ = some (.string r.data)) (exact HC.out) (first
    | (go_at_call 39; (first | refine (HZ.out.text (by omega) (by simp only [List.length_append]; have := HLL.out; omega) hB1 _ (below_drewN _ _)).mono ?_ | refine (HZ.out.text (by omega) (by simp only [List.length_append]; have := HLL.out; omega) hB1 _ (Below.refl _ _)).mono ?_); rintro e w5 ⟨v5, rfl, hz⟩; replace HZ := hid hz; replace HC := hid (HG.out _ hz.only).c7; clear hz)
    | ((first | refine step_append_ex (by rfl) (.tmp 24) (.tmp 26) 29 (by rfl) _ (.slice (some ⟨g1, 8, none⟩) 32 32) (by rfl) (by rfl) (HZ.out.sumA HR.out (HG.out _ HZ.out.only) (by simp only [List.length_append]; have := HLL.out; omega) hB1 _ (below_drewN _ _)) ?_ | refine step_append_ex (by rfl) (.tmp 24) (.tmp 26) 29 (by rfl) _ (.slice (some ⟨g1, 8, none⟩) 32 32) (by rfl) (by rfl) (HZ.out.sumA HR.out (HG.out _ HZ.out.only) (by simp only [List.length_append]; have := HLL.out; omega) hB1 _ (Below.refl _ _)) ?_); rintro v6 w6 hz; replace HZ := hid hz; replace HC := hid (HG.out _ hz.only).c7; clear hz))
  have hM : (L ++ ib r.size ++ tb (lst r.etag) ++ ib r.k ++ ib r.m ++ tb (lst r.data) ++ r.sum).length ≤ 300000 := by simp only [List.length_append, HR.out.sl]; have := HLL.out; omega
  generalize hMM : L ++ ib r.size ++ tb (lst r.etag) ++ ib r.k ++ ib r.m ++ tb (lst r.data) ++ r.sum = M at HZ hM
  have HMM := hid hMM
  clear hMM HC hsl HLL
  have HBW : Hid (∀ W, Only (fun b => v.ownBlock = some b) w1 W → Below w0.heap.size w0 W) := fun W ho => below_tr (below_tr HW.out (below_less HB1.out HW.out.size)) (ho.below (by have := HW.out.size; have := HB1.out.size; omega) (fun i e => HVB.out i e))
  have c40 := (HG.out _ HZ.out.only).c40
  rw [hpv] at c40
  have hps : ((ps.length : Nat) : Int) ≤ 1099511627776 := by omega
  go_wp2_with (go_at_call 38; refine (HZ.out.num (n := (ps.length : Int)) (by omega) hps (by omega) hB1 _ (Below.refl _ _)).mono ?_; rintro e w7 ⟨v7, rfl, hz⟩; replace HZ := hid hz; clear c40; have c40 := (HG.out _ hz.only).c40; rw [hpv] at c40; clear hz)
  have HPL := hid (psB_le fun i hi => ⟨(HPS.out i hi).2.1, (HPS.out i hi).2.2.2⟩)
  have hN : (M ++ ib (ps.length : Int)).length ≤ 300006 := by rw [List.length_append]; have := ib_le hps; omega
  generalize hNN : M ++ ib (ps.length : Int) = N at HZ hN
  have HNN := hid hNN
  clear hNN hM
  go_loopw [0, 36] (fun bv iv wr => ∃ k : Nat, k ≤ ps.length ∧ iv = i64 k ∧ AppZ w0.heap.size v w1 (N ++ psB (ps.take k)) bv wr) (fun _ iv _ => (ps.length - intOf iv).toNat)
  case atStart => exact ⟨0, by omega, rfl, by simpa [psB] using HZ.out⟩
  case round =>
    clear c40
    obtain ⟨k, hk, rfl, hz⟩ := hrel
    have HZ2 := hid hz
    have hlenN : (N ++ psB (ps.take k)).length ≤ 700000 := by rw [List.length_append]; have := HPL.out k hk; omega
    by_cases hlt : k < ps.length
    · have hlt' : (k : Int) < (ps.length : Int) := by omega
      have hpl2 := HP.out.below (HBW.out _ hz.only)
      rw [hpv] at hpl2
      obtain ⟨b, o, hpo, x1, x2⟩ := hpl2.at hlt
      subst hpo
      clear hpl2 hz
      obtain ⟨s1, s2, s3, s4⟩ := HPS.out k hlt
      have HPT := hid (psB_take hlt)
      generalize (ps.getD k (0, 0)).1 = X1 at *
      generalize (ps.getD k (0, 0)).2 = X2 at *
      go_wp2
      have hpb := CAt.made wr #[Value.int IntKind.i64 X1, Value.int IntKind.i64 X2] 105
      have hbl := below_al wr (.cells #[Value.int IntKind.i64 X1, Value.int IntKind.i64 X2] 105)
      generalize wr.alloc (.cells #[Value.int IntKind.i64 X1, Value.int IntKind.i64 X2] 105) = Wp at hpb hbl ⊢
      have HZW := hid (HZ2.out.below hbl)
      have HOW := hid (fun b e => (own_ge HZ2.out.buf b e).2)
      have HCF : Hid (∀ W, Only (fun b => u0.ownBlock = some b) Wp W → W.cell? ⟨wr.heap.size, 0, none⟩ = some (i64 X1) ∧ W.cell? ⟨wr.heap.size, 1, none⟩ = some (i64 X2)) := fun W ho => by
        have hk2 := hpb.keep (ho.block wr.heap.size hpb.lt (fun e => by have := HOW.out _ e; omega))
        exact ⟨hk2.cell 0, hk2.cell 1⟩
      have HC := hid (HCF.out _ (Only.refl _ _))
      have HZp := hid (AppZ.refl HZW.out.buf)
      have hBp : w0.heap.size ≤ Wp.heap.size := by have := HZW.out.only.size; omega
      clear hpb hbl HZ2
      have e1 := ib_le (n := X1) (by omega)
      have s2' : X1 ≤ 1099511627776 := by omega
      have s4' : X2 ≤ 1099511627776 := by omega
      have hl2 : (N ++ psB (ps.take k) ++ ib X1).length ≤ 800000 := by rw [List.length_append]; omega
      have hl1 : (N ++ psB (ps.take k)).length ≤ 900000 := by omega
      have hl3 : (N ++ psB (ps.take k) ++ ib X1).length ≤ 900000 := by omega
      go_region_held3 (fun w' => w'.cell? ⟨wr.heap.size, 0, none⟩ = some (i64 X1) ∧ w'.cell? ⟨wr.heap.size, 1, none⟩ = some (i64 X2)) (exact HC.out) (first
        | (go_at_call 38; (with_reducible refine (HZp.out.num (n := X1) s1 s2' hl1 hBp _ (below_drewN _ _)).mono ?_); rintro e w8 ⟨v8, rfl, hz⟩; replace HZp := hid hz; replace HC := hid (HCF.out _ hz.only); clear hz)
        | (go_at_call 38; (with_reducible refine (HZp.out.num (n := X1) s1 s2' hl1 hBp _ (below_drew _)).mono ?_); rintro e w8 ⟨v8, rfl, hz⟩; replace HZp := hid hz; replace HC := hid (HCF.out _ hz.only); clear hz)
        | (go_at_call 38; (with_reducible refine (HZp.out.num (n := X1) s1 s2' hl1 hBp _ (Below.refl _ _)).mono ?_); rintro e w8 ⟨v8, rfl, hz⟩; replace HZp := hid hz; replace HC := hid (HCF.out _ hz.only); clear hz)
        | (go_at_call 38; (with_reducible refine (HZp.out.num (n := X2) s3 s4' hl3 hBp _ (below_drewN _ _)).mono ?_); rintro e w8 ⟨v8, rfl, hz⟩; replace HZp := hid hz; replace HC := hid (HCF.out _ hz.only); clear hz)
        | (go_at_call 38; (with_reducible refine (HZp.out.num (n := X2) s3 s4' hl3 hBp _ (below_drew _)).mono ?_); rintro e w8 ⟨v8, rfl, hz⟩; replace HZp := hid hz; replace HC := hid (HCF.out _ hz.only); clear hz)
        | (go_at_call 38; (with_reducible refine (HZp.out.num (n := X2) s3 s4' hl3 hBp _ (Below.refl _ _)).mono ?_); rintro e w8 ⟨v8, rfl, hz⟩; replace HZp := hid hz; replace HC := hid (HCF.out _ hz.only); clear hz))
      go_wp2
      refine ⟨⟨k + 1, by omega, by simp, ?_⟩, by simp [intOf]; omega⟩
      have := HZW.out.trans HZp.out
      rw [HPT.out, ← List.append_assoc, ← List.append_assoc]; exact this
    · have hlt' : ¬ (k : Int) < (ps.length : Int) := by omega
      have c41 := (HG.out _ hz.only).c41
      clear hz
      go_wp2_with (go_at_call 39; refine (HZ2.out.text (by omega) (by omega) hB1 _ (Below.refl _ _)).mono ?_; rintro e w9 ⟨v9, rfl, hz⟩)
      go_ret
      refine ⟨v9, rfl, ?_⟩
      have hb := AppZ.start HB1.out hz
      have hk2 : ps.take k = ps := List.take_of_length_le (by omega)
      rw [hk2, ← HNN.out, ← HMM.out] at hb
      have e2 : ib (ps.length : Int) = nb ps.length := by unfold ib; simp
      rw [e2] at hb
      unfold vB
      simp only [List.append_assoc] at hb ⊢
      exact hb
end Go.Proofs.YtelkijiphhoacaaDoor
