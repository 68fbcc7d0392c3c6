/- Contracts of the reader of package record: need, take, one. -/
import Derived.Test.YtepkpkbgmchioaaVb
namespace Go.Proofs.Ytepkpkbgmchioaa
open Go Go.RowKit

/-- A reader lies at block p: it has the bytes s still, or (none) a fault. -/
def Rd (w : World) (p : Nat) (s : Option (List Nat)) : Prop := ∃ po L, CAt w p #[.slice po L.length L.length, i64 (if s.isSome then 0 else 4)] 83 ∧ BL w po L ∧ (L ≠ [] → ∀ a, po = some a → a.block < p) ∧ (po = none → L = []) ∧ (s = none ∨ s = some L) ∧ L.length ≤ 100000 ∧ ∀ x ∈ L, x < 256
theorem Rd.lt {w : World} {p : Nat} {s : Option (List Nat)} (h : Rd w p s) : p < w.heap.size := by obtain ⟨_, _, h, _⟩ := h; exact h.lt
theorem Rd.only {w w' : World} {p : Nat} {s : Option (List Nat)} {S : Nat → Prop} (h : Rd w p s) (ho : Only S w w') (hS : ∀ i, S i → p < i) : Rd w' p s := by
  obtain ⟨po, L, h1, h2, h3, h4⟩ := h
  have hp := h1.lt
  exact ⟨po, L, h1.keep (ho.block p hp fun e => by have := hS _ e; omega), h2.onlyAt ho (fun hne a ha e => by have := hS _ e; have := h3 hne a ha; omega), h3, h4⟩
theorem Rd.below {w w' : World} {p : Nat} {s : Option (List Nat)} (h : Rd w p s) (hb : Below w.heap.size w w') : Rd w' p s := h.only (S := fun _ => False) (Only.of_below hb) (fun _ h => h.elim)
def ReS (w : World) (p : Nat) (s : Option (List Nat)) (v : Value) (e : Ending) (w' : World) : Prop := e = .returned v ∧ Rd w' p s ∧ Only (fun b => b = p) w w'
theorem need_any (w : World) (p : Nat) (s : Option (List Nat)) (b : Bool) (h : Rd w p s) : Calls Try.prog 59 #[ptr p, .bool b] w (ReS w p (if b then s else none) (.tuple #[])) := by
  have H := hid h
  obtain ⟨po, L, h1, h2, h3, h4, h5, h6⟩ := h
  have HC := hid h1
  have c1 := h1.cell 1
  have z1 := h1.free 1
  simp at c1
  cases b with
  | true =>
    clear h1 h2 h3 h4 h5 h6
    go_enter Try.func59, Try.ntmps59
    go_wp2
    go_end0
    exact ⟨rfl, H.out, Only.refl _ _⟩
  | false =>
    cases s with
    | none =>
      simp at c1
      clear h1 h2 h3 h4 h5 h6
      go_enter Try.func59, Try.ntmps59
      go_wp2
      go_end0
      exact ⟨rfl, H.out, Only.refl _ _⟩
    | some K =>
      simp at c1
      have HX : Hid (Rd (w.setCell ⟨p, 1, none⟩ (i64 4)) p none) := by
        refine ⟨po, L, ?_, h2.onlyAt (Only.set (S := fun b => b = p) w ⟨p, 1, none⟩ _ rfl) (fun hne a ha e => by have := h3 hne a ha; omega), h3, h4, Or.inl rfl, h6⟩
        have := h1.set 1 (i64 4)
        simpa using this
      clear h1 h2 h3 h4 h5 h6
      go_enter Try.func59, Try.ntmps59
      go_wp2
      go_end0
      exact ⟨rfl, HX.out, Only.set _ _ _ rfl⟩
theorem need_true (w : World) (p : Nat) : Calls Try.prog 59 #[ptr p, .bool true] w fun e w' => e = .returned (.tuple #[]) ∧ w' = w := by
  go_enter Try.func59, Try.ntmps59
  go_wp2
  go_end0
  exact ⟨rfl, rfl⟩
theorem need_gone (w : World) (p : Nat) (b : Bool) (h : Rd w p none) : Calls Try.prog 59 #[ptr p, .bool b] w fun e w' => e = .returned (.tuple #[]) ∧ w' = w := by
  obtain ⟨po, L, h1, _⟩ := h
  have c1 := h1.cell 1
  simp at c1
  clear h1
  cases b <;>
  · go_enter Try.func59, Try.ntmps59
    go_wp2
    go_end0
    exact ⟨rfl, rfl⟩
theorem run_from8 (po : Option Addr) (n c l : Nat) (hl : l ≤ n) (hc : n ≤ c) : ∃ p2 : Option Addr, (∀ w : World, (Instr.slice 22 (.slice po n c) (some (.int .i64 (l : Int))) none none).run Try.prog w = .ok (.slice p2 (n - l) (c - l)) w) ∧
    (∀ b o, po = some ⟨b, o, none⟩ → l < n → p2 = some ⟨b, o + l, none⟩) ∧ (p2 = none → po = none) ∧ (∀ a, p2 = some a → ∃ a', po = some a' ∧ a.block = a'.block) := by
  have hr : ∀ w, (Instr.slice 22 (.slice po n c) (some (.int .i64 (l : Int))) none none).run Try.prog w = .ok (sliced po l n c 1) w := fun w => by
    rw [run_slice_l (P := Try.prog) w 22 po n c underE8 .i64 (l : Int) (by omega) (by omega), elem8]
    simp [Result.andThen]
  cases po with
  | none => exact ⟨none, fun w => by rw [hr]; simp [sliced], (fun b o e => by cases e), fun _ => rfl, fun a e => by cases e⟩
  | some a =>
    by_cases e : c = l
    · exact ⟨some a, fun w => by rw [hr]; simp [sliced, e], (fun b o _ q => by omega), (fun e => by cases e), fun a2 e2 => ⟨a, rfl, by cases e2; rfl⟩⟩
    · refine ⟨some (a.add l), fun w => by rw [hr]; simp [sliced, e], (fun b o q _ => by cases q; rw [add_none]), (fun e => by cases e), fun a2 e2 => ⟨a, rfl, by cases e2; unfold Addr.add; split <;> rfl⟩⟩
theorem run_head8 (po : Option Addr) (n c h : Nat) (hh : h ≤ c) (w : World) : (Instr.slice 22 (.slice po n c) none (some (.int .i64 (h : Int))) (some (.int .i64 (h : Int)))).run Try.prog w = .ok (.slice po h h) w := by
  rw [run_slice_hm (P := Try.prog) w 22 po n c underE8 .i64 .i64 (h : Int) (h : Int) (by omega) (by omega) (by omega), elem8]
  cases po with
  | none => simp [Result.andThen, sliced]
  | some a =>
    by_cases h0 : h = 0
    · simp [Result.andThen, sliced, h0]
    · simp [Result.andThen, sliced, h0, add_zero']
def TakS (w : World) (p n : Nat) (L : List Nat) (e : Ending) (w' : World) : Prop := ∃ po, e = .returned (.slice po n n) ∧ BL w' po (L.take n) ∧ Rd w' p (some (L.drop n)) ∧ Only (fun b => b = p) w w' ∧ (po = none → n = 0)
set_option maxRecDepth 100000 in
theorem take_ok (w : World) (p n : Nat) (L : List Nat) (h : Rd w p (some L)) (hn : n ≤ L.length) : Calls Try.prog 60 #[ptr p, i64 n] w (TakS w p n L) := by
  have H := hid h
  obtain ⟨po, L', h1, h2, h3, h4, h5, h6, h7⟩ := h
  have e : L' = L := by rcases h5 with h | h <;> cases h; rfl
  subst e
  have c0 := h1.cell 0
  have c1 := h1.cell 1
  have z0 := h1.free 0
  simp at c0 c1
  obtain ⟨p2, hfrom, hp2, hp3, hp4⟩ := run_from8 po L'.length L'.length n hn (Nat.le_refl _)
  have hhead := run_head8 po L'.length L'.length n hn
  have HX : Hid (Rd (w.setCell ⟨p, 0, none⟩ (.slice p2 (L'.length - n) (L'.length - n))) p (some (L'.drop n))) := by
    refine ⟨p2, L'.drop n, ?_, ?_, fun hne a ha => ?_, fun hn2 => ?_, Or.inr rfl, by rw [List.length_drop]; omega, fun x hx => h7 x (List.mem_of_mem_drop hx)⟩
    · have := h1.set 0 (.slice p2 (L'.length - n) (L'.length - n))
      rw [List.length_drop]; simpa using this
    · rcases Nat.lt_or_ge n L'.length with hlt | hge
      · have h2' := h2.onlyAt (Only.set (S := fun b => b = p) w ⟨p, 0, none⟩ (.slice p2 (L'.length - n) (L'.length - n)) rfl) (fun hne a ha e => by have := h3 hne a ha; omega)
        rcases h2' with h | ⟨b, o, hpo, hc⟩
        · subst h; simp at hlt
        · have hq := hp2 b o hpo hlt
          have hd := BL.drop (Or.inr ⟨b, o, rfl, hc⟩) n
          rw [← hq] at hd
          exact hd
      · exact Or.inl (List.drop_eq_nil_of_le hge)
    · obtain ⟨a', ha', he⟩ := hp4 a ha
      rw [he]; exact h3 (fun e => hne (by rw [e]; simp)) a' ha'
    · rw [h4 (hp3 hn2)]; simp
  have HT := hid ((h2.onlyAt (Only.set (S := fun b => b = p) w ⟨p, 0, none⟩ (.slice p2 (L'.length - n) (L'.length - n)) rfl) (fun hne a ha e => by have := h3 hne a ha; omega)).take n)
  have HPN : Hid (po = none → n = 0) := fun e => by have := h4 e; subst this; simpa using hn
  clear h1 h2 h3 h4 h5 h6 h7 hp2 hp3 hp4
  have hle : (n : Int) ≤ (L'.length : Int) := by omega
  go_enter Try.func60, Try.ntmps60
  go_wp2_with (go_at_call 59; refine (need_true w p).mono ?_; rintro e w' ⟨rfl, hw'⟩; have hw2 := hw'.symm; subst hw2)
  go_ret
  exact ⟨po, rfl, HT.out, HX.out, Only.set _ _ _ rfl, HPN.out⟩
set_option maxRecDepth 100000 in
theorem take_bad (w : World) (p : Nat) (n : Int) (s : Option (List Nat)) (h : Rd w p s) (hn : ∀ L, s = some L → (L.length : Int) < n) : Calls Try.prog 60 #[ptr p, i64 n] w (ReS w p none (.slice none 0 0)) := by
  have H := hid h
  obtain ⟨po, L, h1, h2, h3, h4, h5, h6, h7⟩ := h
  have c0 := h1.cell 0
  simp at c0
  clear h1 h2 h3 h4 h6 h7
  cases s with
  | none =>
    clear h5
    by_cases hle : n ≤ (L.length : Int)
    · go_enter Try.func60, Try.ntmps60
      go_wp2_with (go_at_call 59; refine (need_gone w p _ H.out).mono ?_; rintro e w' ⟨rfl, hw'⟩; have hw2 := hw'.symm; subst hw2; obtain ⟨po2, L2, k1, _⟩ := H.out; have c1 := k1.cell 1; simp at c1; clear k1)
      go_ret
      exact ⟨rfl, H.out, Only.refl _ _⟩
    · go_enter Try.func60, Try.ntmps60
      go_wp2_with (go_at_call 59; refine (need_gone w p _ H.out).mono ?_; rintro e w' ⟨rfl, hw'⟩; have hw2 := hw'.symm; subst hw2; obtain ⟨po2, L2, k1, _⟩ := H.out; have c1 := k1.cell 1; simp at c1; clear k1)
      go_ret
      exact ⟨rfl, H.out, Only.refl _ _⟩
  | some K =>
    have e : K = L := by rcases h5 with h | h <;> cases h; rfl
    subst e
    have hgt := hn K rfl
    clear hn h5
    have hle : ¬ n ≤ (K.length : Int) := by omega
    go_enter Try.func60, Try.ntmps60
    go_wp2_with (go_at_call 59; refine (need_any w p (some K) false H.out).mono ?_; rintro e w' ⟨rfl, hr, ho⟩; have HR := hid hr; have HO := hid ho; obtain ⟨po2, L2, k1, _⟩ := hr; have c1 := k1.cell 1; simp at c1; clear k1 ho)
    go_ret
    exact ⟨rfl, by simpa using HR.out, HO.out⟩
def oneV : Option (List Nat) → Nat | some (c :: _) => c | _ => 0
def oneR : Option (List Nat) → Option (List Nat) | some (_ :: r) => some r | _ => none
theorem one_any (w : World) (p : Nat) (s : Option (List Nat)) (h : Rd w p s) : Calls Try.prog 58 #[ptr p] w (ReS w p (oneR s) (u8 (oneV s))) := by
  by_cases hs : ∃ c r, s = some (c :: r)
  · obtain ⟨c, r, rfl⟩ := hs
    have ht := take_ok w p 1 (c :: r) h (by simp)
    clear h
    go_enter Try.func58, Try.ntmps58
    go_wp2_with (go_at_call 60; refine ht.mono ?_; rintro e w1 ⟨po, rfl, hb, hr, ho, hn⟩; have HR := hid hr; have HO := hid ho; obtain ⟨po2, L2, k1, _⟩ := hr; have c1 := k1.cell 1; simp at c1; clear k1 ho; have hb' : ∃ b o, po = some ⟨b, o, none⟩ ∧ w1.cell? ⟨b, o, none⟩ = some (u8 c) := (by
      rcases hb with h | ⟨b, o, h1, h2⟩
      · simp at h
      · exact ⟨b, o, h1, by have := h2 0 (by simp); simpa using this⟩); obtain ⟨b, o, rfl, hcell⟩ := hb'; clear hb hn)
    go_ret
    exact ⟨rfl, by simpa [oneR] using HR.out, HO.out⟩
  · have e1 : oneV s = 0 := by match s, hs with | none, _ => rfl | some [], _ => rfl | some (c :: r), hs => exact absurd ⟨c, r, rfl⟩ hs
    have e2 : oneR s = none := by match s, hs with | none, _ => rfl | some [], _ => rfl | some (c :: r), hs => exact absurd ⟨c, r, rfl⟩ hs
    have ht := take_bad w p 1 s h (fun L hL => by
      match L, hL with
      | [], _ => simp
      | c :: r, hL => exact absurd ⟨c, r, hL⟩ hs)
    rw [e1, e2]
    clear h
    go_enter Try.func58, Try.ntmps58
    go_wp2_with (go_at_call 60; refine ht.mono ?_; rintro e w1 ⟨rfl, hr, ho⟩; have HR := hid hr; have HO := hid ho; obtain ⟨po2, L2, k1, _⟩ := hr; have c1 := k1.cell 1; simp at c1; clear k1 ho)
    go_ret
    exact ⟨rfl, HR.out, HO.out⟩
#print axioms one_any
end Go.Proofs.Ytepkpkbgmchioaa
