/- For the walk of MatrixAny: append of any number of values at a step of a region that draws; Pick of the statements' kit; lists whose numbers are unlike. No conditions. -/
import Derived.Test.YtapgdenodhcliaaMo
import Derived.Test.YtapgdenodhcliaaLc
namespace Go.Proofs.Ytapgdenodhcliaa
open Go.RowKit

theorem wp_append_at {P : Program} {w : World} {o : Oper} {a : Act} {K : Act → World → Prop} {Q : Exit → Act → World → Prop} (s x : Operand) (t : TypeId)
    (ho : o.op = .call { callee := .builtin .append, args := #[s, x], argTypes := #[t, t] })
    (base : Nat) (e : TypeId) (i : TypeInfo) (z : Value) (bytes : Nat) (ht : P.underlying t = some (.slice e)) (hi : P.info? e = some i) (hz : i.zero = some z)
    (hsize : i.size = 1) (hby : i.bytes = bytes) (hzs : z.cells.size = 1)
    (v : Value) (n : Nat) (xs : List Value) (hs : a.eval s = v) (hown : w.ownsRow base e 1 v n xs)
    (ad : Addr) (m c : Nat) (news : List Value) (hx : a.eval x = .slice (some ad) m c) (hl : news.length = m * 1) (hnews : ∀ j u, news[j]? = some u → w.cell? (ad.add j) = some u) (h1 : ∀ u ∈ news, u.oneCell' = true)
    (h63 : n + m ≤ maxLen) (hbytes : (n + m) * bytes ≤ 140737488355328) (hbase : base ≤ w.heap.size)
    (h : ∀ v' w', w'.ownsRow base e 1 v' (n + m) (xs ++ news) → w.grownBy w' v.ownBlock → (v'.ownBlock = v.ownBlock ∨ v'.ownBlock = some w.heap.size) → K (a.put o.dst v') w') : o.wp P a w K Q := by
  obtain ⟨v', w', hr, h2, h3, _, h5⟩ := run_append_own_at (P := P) w base t o.type e i z 1 bytes ht hi hz hsize hby hzs (by decide) v n xs hown ad m c news hl hnews h1 h63 hbytes hbase
  unfold Oper.wp execOp
  simp only [ho, resolve, invoke, builtin, Sem.run_bind, Sem.run_pure, Result.andThen_ok, List.map_toArray, List.map_cons, List.map_nil, hs, hx, hr]
  exact h v' w' h2 h3 h5
theorem step_append_at {P : Program} {w : World} {ops : Array Oper} {o : Oper} {a : Act} {K : Act → World → Prop} {Q : Exit → Act → World → Prop} {E : Prop} (hgd : o.guard = none) (s x : Operand) (t : TypeId)
    (ho : o.op = .call { callee := .builtin .append, args := #[s, x], argTypes := #[t, t] })
    (base : Nat) (e : TypeId) (i : TypeInfo) (z : Value) (bytes : Nat) (ht : P.underlying t = some (.slice e)) (hi : P.info? e = some i) (hz : i.zero = some z)
    (hsize : i.size = 1) (hby : i.bytes = bytes) (hzs : z.cells.size = 1)
    (v : Value) (n : Nat) (xs : List Value) (hs : a.eval s = v) (hown : w.ownsRow base e 1 v n xs)
    (ad : Addr) (m c : Nat) (news : List Value) (hx : a.eval x = .slice (some ad) m c) (hl : news.length = m * 1) (hnews : ∀ j u, news[j]? = some u → w.cell? (ad.add j) = some u) (h1 : ∀ u ∈ news, u.oneCell' = true)
    (h63 : n + m ≤ maxLen) (hbytes : (n + m) * bytes ≤ 140737488355328) (hbase : base ≤ w.heap.size)
    (h : ∀ v' w', w'.ownsRow base e 1 v' (n + m) (xs ++ news) → w.grownBy w' v.ownBlock → (v'.ownBlock = v.ownBlock ∨ v'.ownBlock = some w.heap.size) → K (a.put o.dst v') w') :
    if Region.wanted o (yielded ops a.tmps) = true then Oper.wp P o a w K Q else E := by
  have hw : Region.wanted o (yielded ops a.tmps) = true := by simp [Region.wanted, hgd]
  rw [if_pos hw]
  exact wp_append_at s x t ho base e i z bytes ht hi hz hsize hby hzs v n xs hs hown ad m c news hx hl hnews h1 h63 hbytes hbase h

set_option maxHeartbeats 400000 in
theorem kitPick_any (x : Int) (n : Nat) (w : World) (h0 : 1 ≤ n) (hn : n ≤ 100) :
    Calls Try.prog 32 #[.int .i64 x, .int .i64 n] w fun e w' => (∃ r : Nat, r < n ∧ e = .returned (.int .i64 r)) ∧ w' = w := by
  have b1 := Int.tmod_lt_of_pos x (b := (n : Int)) (by omega)
  have b2 : -(n : Int) < x.tmod n := by
    have := Int.tmod_lt_of_pos (-x) (b := (n : Int)) (by omega)
    rw [Int.neg_tmod] at this; omega
  by_cases hneg : x.tmod n < 0
  · go_enter Try.func32, Try.ntmps32
    go_wp2
    go_ret
    exact ⟨⟨(x.tmod n + n).toNat, by omega, ret_int (by omega)⟩, rfl⟩
  · go_enter Try.func32, Try.ntmps32
    go_wp2
    go_ret
    exact ⟨⟨(x.tmod n).toNat, by omega, ret_int (by omega)⟩, rfl⟩

/-- The rows that were taken and those that are left: unlike, and below t. -/
structure Parts (t i : Nat) (l r : List Nat) : Prop where
  len : l.length + i = t
  taken : r.length = i
  nodup : (r ++ l).Nodup
  lt : ∀ y ∈ r ++ l, y < t
theorem Parts.start (t : Nat) : Parts t 0 (List.range t) [] := ⟨by simp, rfl, by simpa using List.nodup_range, fun y hy => by simpa using hy⟩
theorem pl_get (l : List Nat) (i : Nat) (h : i < l.length) : pl l i = l[i] := by unfold pl; rw [List.getElem?_eq_getElem h]; rfl
theorem Parts.next {t i : Nat} {l r : List Nat} (h : Parts t i l r) (n : Nat) (hn : n < l.length) : Parts t (i + 1) (l.take n ++ l.drop (n + 1)) (r ++ [pl l n]) := by
  have e : l = l.take n ++ l[n] :: l.drop (n + 1) := by
    have := List.take_append_drop n l
    rw [List.drop_eq_getElem_cons hn] at this; exact this.symm
  have hp : List.Perm (r ++ l) ((r ++ [pl l n]) ++ (l.take n ++ l.drop (n + 1))) := by
    rw [pl_get l n hn]
    have h1 : List.Perm l (l[n] :: (l.take n ++ l.drop (n + 1))) := by
      have := @List.perm_middle Nat l[n] (l.take n) (l.drop (n + 1))
      rwa [← e] at this
    have h2 := h1.append_left r
    rw [List.append_assoc]; exact h2
  refine ⟨?_, by simp [h.taken], hp.nodup h.nodup, fun y hy => h.lt y (hp.symm.mem_iff.1 hy)⟩
  have := h.len
  simp only [List.length_append, List.length_take, List.length_drop]
  omega
theorem Parts.inj {t i : Nat} {l r : List Nat} (h : Parts t i l r) (a b : Nat) (ha : a < i) (hb : b < i) (e : pl r a = pl r b) : a = b := by
  have hr : r.Nodup := (List.nodup_append.1 h.nodup).1
  have ht := h.taken
  rw [pl_get r a (by omega), pl_get r b (by omega)] at e
  have hp := List.pairwise_iff_getElem.1 hr
  rcases Nat.lt_trichotomy a b with q | q | q
  · exact absurd e (hp a b (by omega) (by omega) q)
  · exact q
  · exact absurd e.symm (hp b a (by omega) (by omega) q)
theorem Parts.below {t i : Nat} {l r : List Nat} (h : Parts t i l r) (a : Nat) (ha : a < i) : pl r a < t := by
  have ht := h.taken
  rw [pl_get r a (by omega)]
  exact h.lt _ (by simp)
theorem pivV_take (l : List Nat) (n : Nat) : pivV (l.take n) = (pivV l).take n := by unfold pivV; rw [List.map_take]
theorem pivV_len (l : List Nat) : (pivV l).length = l.length := by simp [pivV]
theorem pivV_append (l r : List Nat) : pivV (l ++ r) = pivV l ++ pivV r := by simp [pivV]
theorem pivV_one (l : List Nat) : ∀ u ∈ pivV l, u.oneCell' = true := fun u hu => by
  unfold pivV at hu
  obtain ⟨i, _, rfl⟩ := List.mem_map.1 hu
  rfl
/-- The cells of a part of the list. -/
theorem pivV_part {w : World} {B g c : Nat} {l : List Nat} (h : w.ownsRow B 3 1 (.slice (some ⟨g, 0, none⟩) l.length c) l.length (pivV l)) (o : Nat) (k : List Nat) (hk : ∀ j, j < k.length → o + j < l.length ∧ pl k j = pl l (o + j)) :
    ∀ j u, (pivV k)[j]? = some u → w.cell? ((⟨g, o, none⟩ : Addr).add j) = some u := fun j u hj => by
  have hlt : j < k.length := by
    rcases Nat.lt_or_ge j k.length with q | q
    · exact q
    · rw [List.getElem?_eq_none (by rw [pivV_len]; exact q)] at hj; cases hj
  rw [pivV_get k j hlt] at hj
  cases hj
  rw [add_plain', pivV_cell h (o + j) (hk j hlt).1 rfl, (hk j hlt).2]
theorem part_take (l : List Nat) (n : Nat) (hn : n ≤ l.length) : ∀ j, j < (l.take n).length → 0 + j < l.length ∧ pl (l.take n) j = pl l (0 + j) := fun j hj => by
  rw [List.length_take] at hj
  rw [Nat.zero_add]
  refine ⟨by omega, ?_⟩
  unfold pl; rw [List.getElem?_take, if_pos (by omega)]
theorem part_drop (l : List Nat) (n : Nat) : ∀ j, j < (l.drop n).length → n + j < l.length ∧ pl (l.drop n) j = pl l (n + j) := fun j hj => by
  rw [List.length_drop] at hj
  refine ⟨by omega, ?_⟩
  unfold pl; rw [List.getElem?_drop]
end Go.Proofs.Ytapgdenodhcliaa
