/- A buffer of bytes that a call fills by append. -/
import Derived.Test.YtgmehiidnclgmaaSh
import Derived.Maps.AppendAt
import Derived.Laws.AppendOwnNone
namespace Go.Proofs.Ytgmehiidnclgmaa
open Go Go.RowKit

def Buf (B : Nat) (w : World) (v : Value) (n : Nat) (x : Nat → Nat) : Prop := w.ownsRow B 5 1 v n (valN n x)
theorem Buf.nil (B : Nat) (w : World) (x : Nat → Nat) : Buf B w (.slice none 0 0) 0 x := by
  have := World.ownsRow_nil w B 5 1
  unfold Buf valN; simpa using this
theorem valN_congr (n : Nat) {x y : Nat → Nat} (h : ∀ i, i < n → x i = y i) : valN n x = valN n y := by
  unfold valN; apply List.map_congr_left; intro i hi; rw [h i (List.mem_range.1 hi)]
theorem Buf.congr {B : Nat} {w : World} {v : Value} {n : Nat} {x y : Nat → Nat} (h : Buf B w v n x) (e : ∀ i, i < n → x i = y i) : Buf B w v n y := by
  unfold Buf at *; rwa [← valN_congr n e]
theorem Buf.str {B : Nat} {w : World} {v : Value} {n : Nat} {x : Nat → Nat} (h : Buf B w v n x) : ∃ p c, v = .slice p n c ∧ n ≤ c ∧ StrAt w p n x ∧ (p = none → n = 0 ∧ c = 0) := by
  have h0 : w.ownsRow B 5 1 v n (valN n x) := h
  obtain ⟨hl, h | ⟨g, cap, cur, rfl, hB, hg, hc, _, hs, ht⟩⟩ := h0
  · obtain ⟨rfl, rfl⟩ := h
    exact ⟨none, 0, rfl, by omega, .inl rfl, fun _ => ⟨rfl, rfl⟩⟩
  · refine ⟨some ⟨g, 0, none⟩, cap, rfl, hc, .inr ⟨g, 0, rfl, fun i hi => ?_⟩, fun e => by cases e⟩
    have h1 : w.ownsRow B 5 1 (.slice (some ⟨g, 0, none⟩) n cap) n (valN n x) := h
    have h2 := h1.cellAt i (by omega)
    rw [Nat.zero_add, h2, valN_get n x i hi]
theorem Buf.str2 {B : Nat} {w : World} {v : Value} {n : Nat} {x : Nat → Nat} (h : Buf B w v n x) : ∃ p c, v = .slice p n c ∧ n ≤ c ∧ StrAt w p n x ∧ (p = none → n = 0 ∧ c = 0) ∧ ∀ a, p = some a → B ≤ a.block := by
  have hs := h.str
  have h0 : w.ownsRow B 5 1 v n (valN n x) := h
  obtain ⟨p, c, rfl, h1, h2, h3⟩ := hs
  refine ⟨p, c, rfl, h1, h2, h3, fun a ha => ?_⟩
  subst ha
  exact (h0.lt a.block rfl).1
theorem Buf.below {B : Nat} {w w' : World} {v : Value} {n : Nat} {x : Nat → Nat} (h : Buf B w v n x) (hb : Below w.heap.size w w') : Buf B w' v n x := by
  obtain ⟨hl, h | ⟨g, cap, cur, rfl, hB, hg, hc, hm, hs, ht⟩⟩ := h
  · exact ⟨hl, .inl h⟩
  · refine ⟨hl, .inr ⟨g, cap, cur, rfl, hB, ?_, hc, hm, hs, ht⟩⟩
    exact (hb.block g (CAt.lt hg)).trans hg
theorem valN_app (n l : Nat) (x y : Nat → Nat) : valN n x ++ valN l y = valN (n + l) (fun i => if i < n then x i else y (i - n)) := by
  apply List.ext_getElem?
  intro i
  by_cases h : i < n
  · rw [List.getElem?_append_left (by rw [valN_len]; exact h), valN_get _ _ _ h, valN_get _ _ _ (by omega), if_pos h]
  · rw [List.getElem?_append_right (by rw [valN_len]; omega), valN_len]
    by_cases h2 : i < n + l
    · rw [valN_get _ _ _ (by omega), valN_get _ _ _ h2, if_neg h]
    · rw [List.getElem?_eq_none (by rw [valN_len]; omega), List.getElem?_eq_none (by rw [valN_len]; omega)]
theorem Buf.app {B : Nat} {w : World} {v : Value} {n : Nat} {x : Nat → Nat} (hv : Buf B w v n x) (p : Option Addr) (l c : Nat) (y : Nat → Nat) (hy : StrAt w p l y) (hp : p = none → l = 0 ∧ c = 0) (hn : n + l ≤ 2000000) (hB : B ≤ w.heap.size) :
    ∃ v' w', (Builtin.append_ #[22, 22] 22 #[v, .slice p l c]).run Try.prog w = .ok v' w' ∧ Buf B w' v' (n + l) (fun i => if i < n then x i else y (i - n)) ∧ Below B w w' := by
  obtain ⟨i0, hi0, hz0, hz1, hz2⟩ := info_parts Try.info5
  cases p with
  | none =>
    obtain ⟨rfl, rfl⟩ := hp rfl
    refine ⟨v, w, run_append_owned_none (P := Try.prog) (w := w) B 22 22 5 i0 1 Try.underlying22 hi0 v n _ hv, ?_, Below.refl _ _⟩
    exact hv.congr (fun i hi => by rw [if_pos hi])
  | some a =>
    obtain ⟨v', w', hr, h2, h3, _, _⟩ := run_append_own_at (P := Try.prog) w B 22 22 5 i0 (.int .u8 0) 1 1 Try.underlying22 hi0 hz0 hz1 hz2 rfl (by decide) v n (valN n x) hv a l c (valN l y) (by rw [valN_len, Nat.mul_one])
      (fun j u hj => by
        have hlt : j < l := by
          rcases Nat.lt_or_ge j l with h | h
          · exact h
          · rw [List.getElem?_eq_none (by rw [valN_len]; exact h)] at hj; cases hj
        rw [valN_get _ _ _ hlt] at hj
        cases hj
        rcases hy with h | ⟨b, o, e, hr⟩
        · omega
        · cases e
          rw [add_plain']; exact hr j hlt)
      (fun u hu => by
        simp only [valN, List.mem_map] at hu
        obtain ⟨i, _, rfl⟩ := hu; rfl) (by unfold maxLen; omega) (by omega) hB
    refine ⟨v', w', hr, ?_, (Below.refl _ _).grown h3 hB (fun k hk => (hv.lt k hk).1)⟩
    unfold Buf
    rw [← valN_app]; exact h2

theorem wpList_append_eq {P : Program} {w : World} {ops : Array Oper} {rest : List Oper} {o : Oper} {a : Act} {Q : Exit → Act → World → Prop} (hgd : o.guard = none) (s x : Operand) (t : TypeId)
    (ho : o.op = .call { callee := .builtin .append, args := #[s, x], argTypes := #[t, t] }) (v y : Value) (hs : a.eval s = v) (hx : a.eval x = y) (v' : Value) (w' : World)
    (hr : (Builtin.append_ #[t, t] o.type #[v, y]).run P w = .ok v' w') (h : wpList P ops Q rest (a.put o.dst v') w') : wpList P ops Q (o :: rest) a w := by
  refine wpList_plain hgd fun K hK => ?_
  unfold Oper.wp
  simp [execOp, ho, resolve, invoke, builtin, hs, hx, hr, Result.andThen]
  exact hK _ _ h
end Go.Proofs.Ytgmehiidnclgmaa
