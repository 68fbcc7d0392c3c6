/- Texts laid into one: the remark ahead of each part says what is proved there. -/
import Derived.Test.YtapgdenodhcliaaYc
import Derived.Test.YtapgdenodhcliaaLz
/- The walk of MatrixJoins: of any three matrices that are not large the products may be put together in any way. No conditions. -/
namespace Go.Proofs.Ytapgdenodhcliaa
open Go.RowKit

theorem errMul_zero {n n' : Nat} {L L' : Nat → Nat} (h : errMul n L n' L' = 0) : errC n L = 0 ∧ errC n' L' = 0 ∧ n' = L 0 := by
  unfold errMul at h
  by_cases h1 : errC n L = 0
  · rw [if_neg (fun q => q h1)] at h
    by_cases h2 : errC n' L' = 0
    · rw [if_neg (fun q => q h2)] at h
      by_cases h3 : n' = L 0
      · exact ⟨h1, h2, h3⟩
      · rw [if_neg h3] at h; exact absurd h (by decide)
    · rw [if_pos h2] at h; exact absurd h h2
  · rw [if_pos h1] at h; exact absurd h h1

theorem errMul_ok {n n' : Nat} {L L' : Nat → Nat} (h1 : errC n L = 0) (h2 : errC n' L' = 0) (h3 : n' = L 0) : errMul n L n' L' = 0 := by
  unfold errMul; rw [if_neg (fun q => q h1), if_neg (fun q => q h2), if_pos h3]
/-- Mul, whatever comes in. -/
theorem mul_all (p q : Option Addr) (n n' c d : Nat) (A A' : Nat → Option Addr) (L L' C C' : Nat → Nat) (X Y : Nat → Nat → K) (w : World) (hn : n ≤ 100) (hn' : n' ≤ 100) (h : MatAt w p n A L C X) (h' : MatAt w q n' A' L' C' Y) :
    Calls Try.prog 62 #[.slice p n c, .slice q n' d] w fun e w' => Below w.heap.size w w' ∧ ((errMul n L n' L' ≠ 0 ∧ e = .returned (.tuple #[.slice none 0 0, .int .i64 (errMul n L n' L')])) ∨
      (errMul n L n' L' = 0 ∧ ∃ g G, e = .returned (.tuple #[.slice (some ⟨g, 0, none⟩) n n, .int .i64 0]) ∧ OwnMat w.heap.size w' g n n (L' 0) G (fun _ => L' 0) (pr (L 0) X Y))) := by
  by_cases he : errMul n L n' L' = 0
  · obtain ⟨h1, h2, h3⟩ := errMul_zero he
    have o1 := errC_zero h1
    have o2 := errC_zero h2
    subst h3
    refine (mul_ok p q n (L 0) (L' 0) c d A A' C C' X Y w (h.even o1.2.2.2.2) (h'.even o2.2.2.2.2) o1.1 o1.2.1 o1.2.2.1 o1.2.2.2.1 o2.2.2.1 o2.2.2.2.1).mono ?_
    rintro e w' ⟨g, G, rfl, hm, hb⟩
    exact ⟨hb, .inr ⟨he, g, G, rfl, hm⟩⟩
  · refine (mul_err p q n n' c d A A' L L' C C' w hn hn' h.top h'.top he).mono ?_
    rintro e w' ⟨rfl, rfl⟩
    exact ⟨Below.refl _ _, .inl ⟨he, rfl⟩⟩

end Go.Proofs.Ytapgdenodhcliaa

/- For the walk of MatrixAny: append of any number of values at a step of a region that draws; Pick of the statements' kit; lists whose numbers are unlike. No conditions. -/
namespace Go.Proofs.Ytapgdenodhcliaa
open Go.RowKit

theorem wp_append_at {P : Program} {w : World} {o : Oper} {a : Act} {K : Act → World → Prop} {Q : Exit → Act → World → Prop} (s x : Operand) (t : TypeId)
    (ho : o.op = .call { callee := .builtin .append, args := #[s, x], argTypes := #[t, t] })
    (base : Nat) (e : TypeId) (i : TypeInfo) (z : Value) (bytes : Nat) (ht : P.underlying t = some (.slice e)) (hi : P.info? e = some i) (hz : i.zero = some z)
    (hsize : i.size = 1) (hby : i.bytes = bytes) (hzs : z.cells.size = 1)
    (v : Value) (n : Nat) (xs : List Value) (hs : a.eval s = v) (hown : w.ownsRow base e 1 v n xs)
    (ad : Addr) (m c : Nat) (news : List Value) (hx : a.eval x = .slice (some ad) m c) (hl : news.length = m * 1) (hnews : ∀ j u, news[j]? = some u → w.cell? (ad.add j) = some u) (h1 : ∀ u ∈ news, u.oneCell' = true)
    (h63 : n + m ≤ maxLen) (hbytes : (n + m) * bytes ≤ 140737488355328) (hbase : base ≤ w.heap.size)
    (h : ∀ v' w', w'.ownsRow base e 1 v' (n + m) (xs ++ news) → w.grownBy w' v.ownBlock → (v'.ownBlock = v.ownBlock ∨ v'.ownBlock = some w.heap.size) → K (a.put o.dst v') w') : o.wp P a w K Q := by
  obtain ⟨v', w', hr, h2, h3, _, h5⟩ := run_append_own_at (P := P) w base t o.type e i z 1 bytes ht hi hz hsize hby hzs (by decide) v n xs hown ad m c news hl hnews h1 h63 hbytes hbase
  unfold Oper.wp execOp
  simp only [ho, resolve, invoke, builtin, Sem.run_bind, Sem.run_pure, Result.andThen_ok, List.map_toArray, List.map_cons, List.map_nil, hs, hx, hr]
  exact h v' w' h2 h3 h5
theorem step_append_at {P : Program} {w : World} {ops : Array Oper} {o : Oper} {a : Act} {K : Act → World → Prop} {Q : Exit → Act → World → Prop} {E : Prop} (hgd : o.guard = none) (s x : Operand) (t : TypeId)
    (ho : o.op = .call { callee := .builtin .append, args := #[s, x], argTypes := #[t, t] })
    (base : Nat) (e : TypeId) (i : TypeInfo) (z : Value) (bytes : Nat) (ht : P.underlying t = some (.slice e)) (hi : P.info? e = some i) (hz : i.zero = some z)
    (hsize : i.size = 1) (hby : i.bytes = bytes) (hzs : z.cells.size = 1)
    (v : Value) (n : Nat) (xs : List Value) (hs : a.eval s = v) (hown : w.ownsRow base e 1 v n xs)
    (ad : Addr) (m c : Nat) (news : List Value) (hx : a.eval x = .slice (some ad) m c) (hl : news.length = m * 1) (hnews : ∀ j u, news[j]? = some u → w.cell? (ad.add j) = some u) (h1 : ∀ u ∈ news, u.oneCell' = true)
    (h63 : n + m ≤ maxLen) (hbytes : (n + m) * bytes ≤ 140737488355328) (hbase : base ≤ w.heap.size)
    (h : ∀ v' w', w'.ownsRow base e 1 v' (n + m) (xs ++ news) → w.grownBy w' v.ownBlock → (v'.ownBlock = v.ownBlock ∨ v'.ownBlock = some w.heap.size) → K (a.put o.dst v') w') :
    if Region.wanted o (yielded ops a.tmps) = true then Oper.wp P o a w K Q else E := by
  have hw : Region.wanted o (yielded ops a.tmps) = true := by simp [Region.wanted, hgd]
  rw [if_pos hw]
  exact wp_append_at s x t ho base e i z bytes ht hi hz hsize hby hzs v n xs hs hown ad m c news hx hl hnews h1 h63 hbytes hbase h

set_option maxHeartbeats 400000 in
theorem kitPick_any (x : Int) (n : Nat) (w : World) (h0 : 1 ≤ n) (hn : n ≤ 100) :
    Calls Try.prog 32 #[.int .i64 x, .int .i64 n] w fun e w' => (∃ r : Nat, r < n ∧ e = .returned (.int .i64 r)) ∧ w' = w := by
  have b1 := Int.tmod_lt_of_pos x (b := (n : Int)) (by omega)
  have b2 : -(n : Int) < x.tmod n := by
    have := Int.tmod_lt_of_pos (-x) (b := (n : Int)) (by omega)
    rw [Int.neg_tmod] at this; omega
  by_cases hneg : x.tmod n < 0
  · go_enter Try.func32, Try.ntmps32
    go_wp2
    go_ret
    exact ⟨⟨(x.tmod n + n).toNat, by omega, ret_int (by omega)⟩, rfl⟩
  · go_enter Try.func32, Try.ntmps32
    go_wp2
    go_ret
    exact ⟨⟨(x.tmod n).toNat, by omega, ret_int (by omega)⟩, rfl⟩

/-- The rows that were taken and those that are left: unlike, and below t. -/
structure Parts (t i : Nat) (l r : List Nat) : Prop where
  len : l.length + i = t
  taken : r.length = i
  nodup : (r ++ l).Nodup
  lt : ∀ y ∈ r ++ l, y < t
theorem Parts.start (t : Nat) : Parts t 0 (List.range t) [] := ⟨by simp, rfl, by simpa using List.nodup_range, fun y hy => by simpa using hy⟩
theorem pl_get (l : List Nat) (i : Nat) (h : i < l.length) : pl l i = l[i] := by unfold pl; rw [List.getElem?_eq_getElem h]; rfl
theorem Parts.next {t i : Nat} {l r : List Nat} (h : Parts t i l r) (n : Nat) (hn : n < l.length) : Parts t (i + 1) (l.take n ++ l.drop (n + 1)) (r ++ [pl l n]) := by
  have e : l = l.take n ++ l[n] :: l.drop (n + 1) := by
    have := List.take_append_drop n l
    rw [List.drop_eq_getElem_cons hn] at this; exact this.symm
  have hp : List.Perm (r ++ l) ((r ++ [pl l n]) ++ (l.take n ++ l.drop (n + 1))) := by
    rw [pl_get l n hn]
    have h1 : List.Perm l (l[n] :: (l.take n ++ l.drop (n + 1))) := by
      have := @List.perm_middle Nat l[n] (l.take n) (l.drop (n + 1))
      rwa [← e] at this
    have h2 := h1.append_left r
    rw [List.append_assoc]; exact h2
  refine ⟨?_, by simp [h.taken], hp.nodup h.nodup, fun y hy => h.lt y (hp.symm.mem_iff.1 hy)⟩
  have := h.len
  simp only [List.length_append, List.length_take, List.length_drop]
  omega
theorem Parts.inj {t i : Nat} {l r : List Nat} (h : Parts t i l r) (a b : Nat) (ha : a < i) (hb : b < i) (e : pl r a = pl r b) : a = b := by
  have hr : r.Nodup := (List.nodup_append.1 h.nodup).1
  have ht := h.taken
  rw [pl_get r a (by omega), pl_get r b (by omega)] at e
  have hp := List.pairwise_iff_getElem.1 hr
  rcases Nat.lt_trichotomy a b with q | q | q
  · exact absurd e (hp a b (by omega) (by omega) q)
  · exact q
  · exact absurd e.symm (hp b a (by omega) (by omega) q)
theorem Parts.below {t i : Nat} {l r : List Nat} (h : Parts t i l r) (a : Nat) (ha : a < i) : pl r a < t := by
  have ht := h.taken
  rw [pl_get r a (by omega)]
  exact h.lt _ (by simp)
theorem pivV_take (l : List Nat) (n : Nat) : pivV (l.take n) = (pivV l).take n := by unfold pivV; rw [List.map_take]
theorem pivV_len (l : List Nat) : (pivV l).length = l.length := by simp [pivV]
theorem pivV_append (l r : List Nat) : pivV (l ++ r) = pivV l ++ pivV r := by simp [pivV]
theorem pivV_one (l : List Nat) : ∀ u ∈ pivV l, u.oneCell' = true := fun u hu => by
  unfold pivV at hu
  obtain ⟨i, _, rfl⟩ := List.mem_map.1 hu
  rfl
/-- The cells of a part of the list. -/
theorem pivV_part {w : World} {B g c : Nat} {l : List Nat} (h : w.ownsRow B 3 1 (.slice (some ⟨g, 0, none⟩) l.length c) l.length (pivV l)) (o : Nat) (k : List Nat) (hk : ∀ j, j < k.length → o + j < l.length ∧ pl k j = pl l (o + j)) :
    ∀ j u, (pivV k)[j]? = some u → w.cell? ((⟨g, o, none⟩ : Addr).add j) = some u := fun j u hj => by
  have hlt : j < k.length := by
    rcases Nat.lt_or_ge j k.length with q | q
    · exact q
    · rw [List.getElem?_eq_none (by rw [pivV_len]; exact q)] at hj; cases hj
  rw [pivV_get k j hlt] at hj
  cases hj
  rw [add_plain', pivV_cell h (o + j) (hk j hlt).1 rfl, (hk j hlt).2]
theorem part_take (l : List Nat) (n : Nat) (hn : n ≤ l.length) : ∀ j, j < (l.take n).length → 0 + j < l.length ∧ pl (l.take n) j = pl l (0 + j) := fun j hj => by
  rw [List.length_take] at hj
  rw [Nat.zero_add]
  refine ⟨by omega, ?_⟩
  unfold pl; rw [List.getElem?_take, if_pos (by omega)]
theorem part_drop (l : List Nat) (n : Nat) : ∀ j, j < (l.drop n).length → n + j < l.length ∧ pl (l.drop n) j = pl l (n + j) := fun j hj => by
  rw [List.length_drop] at hj
  refine ⟨by omega, ?_⟩
  unfold pl; rw [List.getElem?_drop]
end Go.Proofs.Ytapgdenodhcliaa

/- The walk of MatrixAny: any k unlike rows of the code of k and m have an inverse, for any k and m and any choice of rows. No conditions. -/
namespace Go.Proofs.Ytapgdenodhcliaa
open Go.RowKit

theorem size34 (w : World) : (sizeOf (Try.prog.elem 46)).run Try.prog w = .ok 1 w := by
  obtain ⟨i0, hi0, hz0, hz1, hz2⟩ := info_parts Try.info3
  rw [show Try.prog.elem 46 = 3 by kernel_rfl]
  simp [sizeOf, typeInfo, hi0, hz1]
theorem under34 : Try.prog.underlying 46 = some (.slice (Try.prog.elem 46)) := by kernel_rfl
theorem run_sl_hi (gl n cL nn : Nat) (h : nn ≤ cL) (w : World) : (Instr.slice 46 (.slice (some ⟨gl, 0, none⟩) n cL) none (some (.int .i64 (nn : Int))) none).run Try.prog w = .ok (.slice (some ⟨gl, 0, none⟩) nn cL) w := by
  rw [run_slice_h (P := Try.prog) w 46 (some ⟨gl, 0, none⟩) n cL under34 .i64 (nn : Int) (by omega) (by omega), size34]
  simp [Result.andThen, sliced, Addr.add]
theorem run_sl_lo (gl n cL nn : Nat) (h : nn + 1 ≤ n) : ∃ ad : Addr, (∀ w : World, (Instr.slice 46 (.slice (some ⟨gl, 0, none⟩) n cL) (some (.int .i64 ((nn : Int) + 1))) none none).run Try.prog w = .ok (.slice (some ad) (n - (nn + 1)) (cL - (nn + 1))) w) ∧ (cL ≠ nn + 1 → ad = ⟨gl, nn + 1, none⟩) := by
  by_cases e : cL = nn + 1
  · refine ⟨⟨gl, 0, none⟩, fun w => ?_, fun q => absurd e q⟩
    rw [run_slice_l (P := Try.prog) w 46 (some ⟨gl, 0, none⟩) n cL under34 .i64 ((nn : Int) + 1) (by omega) (by omega), size34]
    simp [Result.andThen, sliced, e, show ((nn : Int) + 1).toNat = nn + 1 by omega]
  · refine ⟨⟨gl, nn + 1, none⟩, fun w => ?_, fun _ => rfl⟩
    rw [run_slice_l (P := Try.prog) w 46 (some ⟨gl, 0, none⟩) n cL under34 .i64 ((nn : Int) + 1) (by omega) (by omega), size34]
    simp [Result.andThen, sliced, e, show ((nn : Int) + 1).toNat = nn + 1 by omega, Addr.add]
/-- What the append onto the rows leaves of either list. -/
theorem any_push {B gl cL g5 cap5 x : Nat} {w2 wr w5 : World} {l r : List Nat} {vR : Value} {o : Obj} (hL : wr.ownsRow B 3 1 (.slice (some ⟨gl, 0, none⟩) l.length cL) l.length (pivV l)) (hR : wr.ownsRow B 3 1 vR r.length (pivV r))
    (hap : ∀ b, (Value.slice (some ⟨gl, 0, none⟩) l.length cL).ownBlock = some b → vR.ownBlock ≠ some b) (hb : Below B w2 wr)
    (hown : w5.ownsRow B 3 1 (.slice (some ⟨g5, 0, none⟩) (r.length + 1) cap5) (r.length + 1) (pivV r ++ [.int .i64 ((x : Nat) : Int)])) (hgrow : (wr.alloc o).grownBy w5 vR.ownBlock) (hat : vR.ownBlock = some g5 ∨ g5 = (wr.alloc o).heap.size) :
    Hid (w5.ownsRow B 3 1 (.slice (some ⟨gl, 0, none⟩) l.length cL) l.length (pivV l)) ∧ Hid (w5.ownsRow B 3 1 (.slice (some ⟨g5, 0, none⟩) (r.length + 1) cap5) (r.length + 1) (pivV (r ++ [x]))) ∧ Hid (Below B w2 w5) ∧ Hid (gl ≠ g5) := by
  have hg := own_ge (hL.alloc o)
  have hg' := own_ge hL
  have hsz : B ≤ wr.heap.size := by omega
  have hz : (wr.alloc o).heap.size = wr.heap.size + 1 := by simp
  refine ⟨own_keep (hL.alloc o) (hgrow.block gl hg.2 (fun q => hap gl rfl q.symm)), ?_, ?_, ?_⟩
  · show w5.ownsRow B 3 1 _ (r.length + 1) (pivV (r ++ [x]))
    rw [pivV_append]; exact hown
  · exact Below.grown (hb.alloc hsz o) hgrow (by omega) (fun b q => (hR.lt b q).1)
  · show gl ≠ g5
    intro q
    rcases hat with h | h
    · exact hap gl rfl (by rw [q]; exact h)
    · omega

/-- The list that is left, behind the first of the two appends. -/
theorem any_keep {B gl cL : Nat} {w5 w6 : World} {l : List Nat} (hL : w5.ownsRow B 3 1 (.slice (some ⟨gl, 0, none⟩) l.length cL) l.length (pivV l)) (hg : (w5.alloc (.cells #[] 3)).drew.grownBy w6 (some w5.heap.size)) :
    w6.ownsRow B 3 1 (.slice (some ⟨gl, 0, none⟩) l.length cL) l.length (pivV l) := by
  have h := own_ge hL
  have h2 : (w5.alloc (.cells #[] 3)).drew.ownsRow B 3 1 (.slice (some ⟨gl, 0, none⟩) l.length cL) l.length (pivV l) := (hL.alloc (.cells #[] 3)).drew
  have hz : (w5.alloc (.cells #[] 3)).drew.heap.size = w5.heap.size + 1 := by simp
  exact own_keep h2 (hg.block gl (by omega) (fun q => by cases q; omega))
theorem any_news {B gl cL nn : Nat} {w6 : World} {l : List Nat} {ad : Addr} (hL : w6.ownsRow B 3 1 (.slice (some ⟨gl, 0, none⟩) l.length cL) l.length (pivV l)) (had : cL ≠ nn + 1 → ad = ⟨gl, nn + 1, none⟩) :
    ∀ j u, (pivV (l.drop (nn + 1)))[j]? = some u → w6.cell? (ad.add j) = some u := by
  have hle := own_le hL
  by_cases e : cL = nn + 1
  · have h0 : l.drop (nn + 1) = [] := List.drop_eq_nil_of_le (by omega)
    rw [h0]; intro j u h; cases h
  · rw [had e]; exact pivV_part hL (nn + 1) _ (part_drop l (nn + 1))
theorem any_left {B g5 cap5 nn N : Nat} {w2 w5 w6 w7 : World} {l r : List Nat} {v6 v7 : Value} (hR : w5.ownsRow B 3 1 (.slice (some ⟨g5, 0, none⟩) N cap5) N (pivV r)) (hb : Below B w2 w5) (hsz : B ≤ w5.heap.size) (hnn : nn < l.length)
    (hg6 : (w5.alloc (.cells #[] 3)).drew.grownBy w6 (some w5.heap.size)) (hat6 : v6.ownBlock = some w5.heap.size ∨ v6.ownBlock = some (w5.alloc (.cells #[] 3)).drew.heap.size)
    (hown7 : w7.ownsRow B 3 1 v7 (0 + nn + (l.length - (nn + 1))) ([] ++ pivV (l.take nn) ++ pivV (l.drop (nn + 1)))) (hg7 : w6.grownBy w7 v6.ownBlock) (hat7 : v7.ownBlock = v6.ownBlock ∨ v7.ownBlock = some w6.heap.size) :
    Hid (w7.ownsRow B 3 1 v7 (l.take nn ++ l.drop (nn + 1)).length (pivV (l.take nn ++ l.drop (nn + 1)))) ∧ Hid (w7.ownsRow B 3 1 (.slice (some ⟨g5, 0, none⟩) N cap5) N (pivV r)) ∧ Hid (∀ b, v7.ownBlock = some b → (Value.slice (some ⟨g5, 0, none⟩) N cap5).ownBlock ≠ some b) ∧ Hid (Below B w2 w7) := by
  have hg5 := own_ge hR
  have hz : (w5.alloc (.cells #[] 3)).drew.heap.size = w5.heap.size + 1 := by simp
  rw [hz] at hat6
  have hs6 := hg6.size
  have h6 : ∀ b, v6.ownBlock = some b → w5.heap.size ≤ b := fun b q => by
    rcases hat6 with h | h
    · rw [h] at q; cases q; omega
    · rw [h] at q; cases q; omega
  have h7 : ∀ b, v7.ownBlock = some b → w5.heap.size ≤ b := fun b q => by
    rcases hat7 with h | h
    · rw [h] at q; exact h6 b q
    · rw [h] at q; cases q; omega
  have r6 : w6.ownsRow B 3 1 (.slice (some ⟨g5, 0, none⟩) N cap5) N (pivV r) :=
    own_keep (hR.alloc (.cells #[] 3)).drew (hg6.block g5 (by omega) (fun q => by cases q; omega))
  refine ⟨?_, own_keep r6 (hg7.block g5 (by omega) (fun q => by have := h6 g5 q.symm; omega)), (fun b q e => by cases e; have := h7 g5 q; omega), ?_⟩
  · show w7.ownsRow B 3 1 v7 _ _
    have e : (l.take nn ++ l.drop (nn + 1)).length = 0 + nn + (l.length - (nn + 1)) := by simp only [List.length_append, List.length_take, List.length_drop]; omega
    rw [e, pivV_append]; exact hown7
  · exact Below.grown (Below.grown (hb.alloc hsz (.cells #[] 3)).drew hg6 (by omega) (fun b q => by cases q; omega)) hg7 (by omega) (fun b q => by have := h6 b q; omega)

end Go.Proofs.Ytapgdenodhcliaa
