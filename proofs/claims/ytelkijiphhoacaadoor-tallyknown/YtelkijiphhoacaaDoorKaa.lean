/- Texts laid into one, cut to what is needed: the remark ahead of each part says what is proved there. -/
import Derived.WalkKit
/- Numbers and texts as bytes: mathematics alone. -/
namespace Go.Proofs.YtelkijiphhoacaaDoor

/-- A number's bytes. -/
def nb (n : Nat) : List Nat := if n < 128 then [n] else (n % 128 + 128) :: nb (n / 128)
  termination_by n
  decreasing_by omega
theorem nb_lt {n : Nat} (h : n < 128) : nb n = [n] := by rw [nb, if_pos h]
theorem nb_ge {n : Nat} (h : ¬ n < 128) : nb n = (n % 128 + 128) :: nb (n / 128) := by rw [nb, if_neg h]
/-- A number of at most k bytes from the front. -/
def rdG : Nat → List Nat → Option (Nat × List Nat)
  | 0, _ => none
  | _ + 1, [] => none
  | k + 1, c :: r => if c < 128 then some (c, r) else match rdG k r with
    | some (n, r') => if n = 0 then none else some (c % 128 + 128 * n, r')
    | none => none
def rdU (b : List Nat) : Option (Nat × List Nat) := match rdG 6 b with
  | some (n, r) => if n ≤ 1099511627776 then some (n, r) else none
  | none => none
theorem nb_len : ∀ (k n : Nat), n < 128 ^ (k + 1) → (nb n).length ≤ k + 1
  | 0, n, h => by rw [nb_lt (by simpa using h)]; simp
  | k + 1, n, h => by
    by_cases hn : n < 128
    · rw [nb_lt hn]; simp
    · rw [nb_ge hn, List.length_cons]
      have := nb_len k (n / 128) (by rw [Nat.pow_succ] at h; exact Nat.div_lt_of_lt_mul (by rw [Nat.mul_comm]; exact h))
      omega
theorem nb_pos (n : Nat) : 1 ≤ (nb n).length := by
  by_cases hn : n < 128
  · rw [nb_lt hn]; simp
  · rw [nb_ge hn]; simp
theorem nb_ne (n : Nat) : nb n ≠ [] := fun e => by have := nb_pos n; rw [e] at this; simp at this
theorem nb_byte : ∀ (n : Nat), ∀ x ∈ nb n, x < 256 := fun n => by
  induction n using Nat.strongRecOn with
  | ind n ih =>
    intro x hx
    by_cases hn : n < 128
    · rw [nb_lt hn] at hx; simp at hx; omega
    · rw [nb_ge hn] at hx
      rcases List.mem_cons.1 hx with rfl | hx
      · omega
      · exact ih (n / 128) (by omega) x hx
theorem rdG_nb : ∀ (k n : Nat) (r : List Nat), n < 128 ^ (k + 1) → rdG (k + 1) (nb n ++ r) = some (n, r)
  | 0, n, r, h => by
    have h' : n < 128 := by simpa using h
    rw [nb_lt h']; simp [rdG, h']
  | k + 1, n, r, h => by
    by_cases hn : n < 128
    · rw [nb_lt hn]; simp [rdG, hn]
    · rw [nb_ge hn, List.cons_append]
      have := rdG_nb k (n / 128) r (by rw [Nat.pow_succ] at h; exact Nat.div_lt_of_lt_mul (by rw [Nat.mul_comm]; exact h))
      unfold rdG
      rw [if_neg (by omega), this]
      have h0 : ¬ n / 128 = 0 := by omega
      simp only [h0, if_false]
      congr 2
      omega
theorem rdG_some : ∀ {k : Nat} {b : List Nat} {n : Nat} {r : List Nat}, (∀ x ∈ b, x < 256) → rdG k b = some (n, r) → b = nb n ++ r ∧ n < 128 ^ k
  | 0, _, _, _, _, h => by simp [rdG] at h
  | _ + 1, [], _, _, _, h => by simp [rdG] at h
  | k + 1, c :: t, n, r, hb, h => by
    unfold rdG at h
    by_cases hc : c < 128
    · rw [if_pos hc] at h
      cases h
      exact ⟨by rw [nb_lt hc]; rfl, Nat.lt_of_lt_of_le hc (by rw [Nat.pow_succ]; have := Nat.pow_pos (n := k) (show 0 < 128 by omega); omega)⟩
    · rw [if_neg hc] at h
      cases hr : rdG k t with
      | none => rw [hr] at h; cases h
      | some p =>
        obtain ⟨m, t'⟩ := p
        rw [hr] at h
        by_cases hm : m = 0
        · simp [hm] at h
        · simp only [hm, if_false] at h
          cases h
          obtain ⟨h1, h2⟩ := rdG_some (fun x hx => hb x (List.mem_cons_of_mem _ hx)) hr
          have hc2 := hb c (List.mem_cons_self)
          refine ⟨?_, ?_⟩
          · rw [nb_ge (by omega), List.cons_append]
            have e1 : (c % 128 + 128 * m) % 128 + 128 = c := by omega
            have e2 : (c % 128 + 128 * m) / 128 = m := by omega
            rw [e1, e2, ← h1]
          · rw [Nat.pow_succ]; omega
theorem rdU_nb {n : Nat} (r : List Nat) (h : n ≤ 1099511627776) : rdU (nb n ++ r) = some (n, r) := by
  unfold rdU
  rw [rdG_nb 5 n r (by omega)]
  simp [h]
theorem rdU_some {b : List Nat} {n : Nat} {r : List Nat} (hb : ∀ x ∈ b, x < 256) (h : rdU b = some (n, r)) : b = nb n ++ r ∧ n ≤ 1099511627776 := by
  unfold rdU at h
  cases hr : rdG 6 b with
  | none => rw [hr] at h; cases h
  | some p =>
    obtain ⟨m, t⟩ := p
    rw [hr] at h
    by_cases hm : m ≤ 1099511627776
    · simp only [hm, if_true] at h
      cases h
      exact ⟨(rdG_some hb hr).1, hm⟩
    · simp [hm] at h
/-- A text's bytes. -/
def tb (s : List Nat) : List Nat := nb s.length ++ s
def rdT (b : List Nat) : Option (List Nat × List Nat) := match rdU b with
  | some (n, r) => if n ≤ 65536 ∧ n ≤ r.length then some (r.take n, r.drop n) else none
  | none => none
theorem rdT_tb {s : List Nat} (r : List Nat) (h : s.length ≤ 65536) : rdT (tb s ++ r) = some (s, r) := by
  unfold rdT tb
  rw [List.append_assoc, rdU_nb (s ++ r) (by omega)]
  simp [h]
theorem rdT_some {b s r : List Nat} (hb : ∀ x ∈ b, x < 256) (h : rdT b = some (s, r)) : b = tb s ++ r ∧ s.length ≤ 65536 := by
  unfold rdT at h
  cases hr : rdU b with
  | none => rw [hr] at h; cases h
  | some p =>
    obtain ⟨n, t⟩ := p
    rw [hr] at h
    by_cases hn : n ≤ 65536 ∧ n ≤ t.length
    · simp only [hn, and_self, if_true] at h
      cases h
      obtain ⟨h1, h2⟩ := rdU_some hb hr
      unfold tb
      rw [List.length_take, Nat.min_eq_left hn.2, List.append_assoc, List.take_append_drop]
      exact ⟨h1, hn.1⟩
    · simp [hn] at h
end Go.Proofs.YtelkijiphhoacaaDoor

/- Records as bytes: mathematics alone. -/
namespace Go.Proofs.YtelkijiphhoacaaDoor

/-- A record. Texts are lists of bytes. -/
structure Rc where
  id : List Nat
  time : Int
  mark : Bool
  size : Int
  etag : List Nat
  k : Int
  m : Int
  data : List Nat
  sum : List Nat
  parts : List (Int × Int)
  up : List Nat
  deriving DecidableEq
def dgt (c : Nat) : Bool := decide (48 ≤ c) && decide (c ≤ 57)
def isOf (last : Nat) (dash : Bool) (c : Nat) : Bool := dgt c || (decide (97 ≤ c) && decide (c ≤ last)) || (dash && decide (c = 45))
def okOf (s : List Nat) (least most last : Nat) (dash : Bool) : Bool := s.all (isOf last dash) && decide (least ≤ s.length) && decide (s.length ≤ most)
def okId (s : List Nat) : Bool := okOf s 1 32 122 false
def okData (s : List Nat) : Bool := okOf s 32 32 102 false
def okTag (s : List Nat) : Bool := okOf s 1 40 102 true
def inR (n least most : Int) : Bool := decide (least ≤ n) && decide (n ≤ most)
def okPs : Int → List (Int × Int) → Bool
  | _, [] => true
  | last, p :: r => decide (last < p.1) && decide (p.1 ≤ 10000) && inR p.2 0 65536 && okPs p.1 r
def sumPs (l : List (Int × Int)) : Int := (l.map (·.2)).sum
def okParts (l : List (Int × Int)) (size : Int) : Bool := decide (l.length ≤ 32) && okPs 0 l && (l.isEmpty || decide (sumPs l = size))
def zeroD : List Nat := List.replicate 32 0
def okRc (r : Rc) : Bool := okId r.id && inR r.time 0 1048576 && (if r.mark then decide (r.size = 0) && r.etag.isEmpty && decide (r.k = 0) && decide (r.m = 0) && r.data.isEmpty && decide (r.sum = zeroD) && r.parts.isEmpty && r.up.isEmpty
  else inR r.size 0 65536 && okTag r.etag && inR r.k 1 15 && inR r.m 1 15 && decide (r.k + r.m ≤ 16) && okData r.data && okParts r.parts r.size && (r.up.isEmpty || okId r.up) && decide (r.sum.length = 32))
def ib (n : Int) : List Nat := nb n.toNat
def psB (l : List (Int × Int)) : List Nat := (l.map fun p => ib p.1 ++ ib p.2).flatten
def rcB (r : Rc) : List Nat := tb r.id ++ ib r.time ++ (if r.mark then [1] else [0] ++ ib r.size ++ tb r.etag ++ ib r.k ++ ib r.m ++ tb r.data ++ r.sum ++ nb r.parts.length ++ psB r.parts ++ tb r.up)
/-- So many pairs of numbers from the front. -/
def rdPs : Nat → List Nat → Option (List (Int × Int) × List Nat)
  | 0, b => some ([], b)
  | n + 1, b => do
    let (x, b) ← rdU b
    let (y, b) ← rdU b
    let (l, b) ← rdPs n b
    return (((x : Int), (y : Int)) :: l, b)
def rdD (id : List Nat) (t : Nat) (b : List Nat) : Option (Rc × List Nat) := do
  let (size, b) ← rdU b
  let (etag, b) ← rdT b
  let (k, b) ← rdU b
  let (m, b) ← rdU b
  let (data, b) ← rdT b
  if b.length < 32 then none else
  let (n, c) ← rdU (b.drop 32)
  if 32 < n then none else
  let (ps, c) ← rdPs n c
  let (up, c) ← rdT c
  return (⟨id, t, false, size, etag, k, m, data, b.take 32, ps, up⟩, c)
def rdAny (b : List Nat) : Option (Rc × List Nat) := do
  let (id, b) ← rdT b
  let (t, b) ← rdU b
  match b with
  | [] => none
  | c :: b => if 1 < c then none else if c = 1 then some (⟨id, t, true, 0, [], 0, 0, [], zeroD, [], []⟩, b) else rdD id t b
def rdR (b : List Nat) : Option (Rc × List Nat) := match rdAny b with
  | some (r, t) => if okRc r then some (r, t) else none
  | none => none
section
variable {b : List Nat}
theorem inR_iff {n least most : Int} : inR n least most = true ↔ least ≤ n ∧ n ≤ most := by simp [inR]
theorem ib_toNat {n : Int} (h : 0 ≤ n) : ((n.toNat : Nat) : Int) = n := Int.toNat_of_nonneg h
theorem okOf_len {s : List Nat} {a m l : Nat} {d : Bool} (h : okOf s a m l d = true) : a ≤ s.length ∧ s.length ≤ m := by simp [okOf] at h; omega
theorem rdPs_psB : ∀ {last : Int} {l : List (Int × Int)} (r : List Nat), 0 ≤ last → okPs last l = true → rdPs l.length (psB l ++ r) = some (l, r)
  | _, [], r, _, _ => by simp [rdPs, psB]
  | last, p :: t, r, h0, h => by
    simp [okPs, inR] at h
    obtain ⟨⟨⟨h1, h2⟩, h3, h4⟩, h5⟩ := h
    have e : psB (p :: t) ++ r = ib p.1 ++ (ib p.2 ++ (psB t ++ r)) := by simp [psB]
    rw [e]
    unfold ib
    show rdPs (t.length + 1) _ = _
    unfold rdPs
    rw [rdU_nb _ (by omega)]
    simp only [Option.bind_eq_bind, Option.bind_some]
    rw [rdU_nb _ (by omega)]
    simp only [Option.bind_some]
    rw [rdPs_psB r (by omega) h5]
    simp only [Option.bind_some, Option.pure_def, Option.some.injEq, Prod.mk.injEq, List.cons.injEq, and_true]
    obtain ⟨x, y⟩ := p
    simp only at *
    rw [ib_toNat (by omega), ib_toNat (by omega)]
theorem rdAny_rcB {r : Rc} (t : List Nat) (h : okRc r = true) : rdAny (rcB r ++ t) = some (r, t) := by
  obtain ⟨id, time, mark, size, etag, k, m, data, sum, parts, up⟩ := r
  cases mark with
  | true =>
    simp [okRc] at h
    obtain ⟨⟨h1, h2⟩, ⟨⟨⟨⟨⟨⟨⟨rfl, rfl⟩, rfl⟩, rfl⟩, rfl⟩, rfl⟩, rfl⟩, rfl⟩⟩ := h
    rw [inR_iff] at h2
    have hl := okOf_len h1
    have e : rcB ⟨id, time, true, 0, [], 0, 0, [], zeroD, [], []⟩ ++ t = tb id ++ (ib time ++ (1 :: t)) := by simp [rcB]
    rw [e]
    unfold rdAny ib
    rw [rdT_tb _ (by omega)]
    simp only [Option.bind_eq_bind, Option.bind_some]
    rw [rdU_nb _ (by omega)]
    simp only [Option.bind_some, ib_toNat h2.1]
    simp
  | false =>
    simp [okRc, okParts, inR_iff] at h
    obtain ⟨⟨h1, h2⟩, ⟨⟨⟨⟨⟨⟨⟨⟨h3, h4⟩, h5⟩, h6⟩, h7⟩, h8⟩, ⟨h9, h10⟩, h11⟩, h12⟩, h13⟩⟩ := h
    have hl := okOf_len h1
    have hl4 := okOf_len h4
    have hl8 := okOf_len h8
    have hl12 : up.length ≤ 65536 := by
      rcases h12 with h | h
      · subst h; simp
      · have := okOf_len h; omega
    have e : rcB ⟨id, time, false, size, etag, k, m, data, sum, parts, up⟩ ++ t = tb id ++ (ib time ++ (0 :: (ib size ++ (tb etag ++ (ib k ++ (ib m ++ (tb data ++ (sum ++ (nb parts.length ++ (psB parts ++ (tb up ++ t))))))))))) := by simp [rcB]
    rw [e]
    unfold rdAny ib
    rw [rdT_tb _ (by omega)]
    simp only [Option.bind_eq_bind, Option.bind_some]
    rw [rdU_nb _ (by omega)]
    simp only [Option.bind_some]
    rw [if_neg (by omega), if_neg (by omega)]
    unfold rdD
    rw [rdU_nb _ (by omega)]
    simp only [Option.bind_eq_bind, Option.bind_some]
    rw [rdT_tb _ (by omega)]
    simp only [Option.bind_some]
    rw [rdU_nb _ (by omega)]
    simp only [Option.bind_some]
    rw [rdU_nb _ (by omega)]
    simp only [Option.bind_some]
    rw [rdT_tb _ (by omega)]
    simp only [Option.bind_some]
    rw [if_neg (by rw [List.length_append]; omega), show 32 = sum.length from h13.symm, List.drop_left, List.take_left, rdU_nb _ (by omega)]
    simp only [Option.bind_some]
    rw [if_neg (by omega), rdPs_psB _ (Int.le_refl 0) h10]
    simp only [Option.bind_some]
    rw [rdT_tb _ hl12]
    simp only [Option.bind_some, Option.pure_def]
    rw [ib_toNat h2.1, ib_toNat h3.1, ib_toNat (by omega), ib_toNat (by omega)]
theorem rdR_rcB {r : Rc} (t : List Nat) (h : okRc r = true) : rdR (rcB r ++ t) = some (r, t) := by
  unfold rdR; rw [rdAny_rcB t h]; simp [h]
theorem sub256 {x y : List Nat} (h : ∀ z ∈ x ++ y, z < 256) : (∀ z ∈ x, z < 256) ∧ ∀ z ∈ y, z < 256 := ⟨fun z hz => h z (List.mem_append_left _ hz), fun z hz => h z (List.mem_append_right _ hz)⟩
theorem rdPs_some : ∀ {n : Nat} {b c : List Nat} {l : List (Int × Int)}, (∀ z ∈ b, z < 256) → rdPs n b = some (l, c) → b = psB l ++ c ∧ l.length = n ∧ ∀ p ∈ l, 0 ≤ p.1 ∧ 0 ≤ p.2
  | 0, b, c, l, _, h => by simp [rdPs] at h; obtain ⟨rfl, rfl⟩ := h; simp [psB]
  | n + 1, b, c, l, hb, h => by
    unfold rdPs at h
    cases h1 : rdU b with
    | none => rw [h1] at h; cases h
    | some p =>
      obtain ⟨x, b1⟩ := p
      rw [h1] at h
      simp only [Option.bind_eq_bind, Option.bind_some] at h
      obtain ⟨e1, k1⟩ := rdU_some hb h1
      subst e1
      have hb1 := (sub256 hb).2
      cases h2 : rdU b1 with
      | none => rw [h2] at h; cases h
      | some p =>
        obtain ⟨y, b2⟩ := p
        rw [h2] at h
        simp only [Option.bind_some] at h
        obtain ⟨e2, k2⟩ := rdU_some hb1 h2
        subst e2
        have hb2 := (sub256 hb1).2
        cases h3 : rdPs n b2 with
        | none => rw [h3] at h; cases h
        | some p =>
          obtain ⟨l', b3⟩ := p
          rw [h3] at h
          simp only [Option.bind_some, Option.pure_def, Option.some.injEq, Prod.mk.injEq] at h
          obtain ⟨rfl, rfl⟩ := h
          obtain ⟨e3, k3, k4⟩ := rdPs_some hb2 h3
          refine ⟨?_, by simp [k3], fun p hp => ?_⟩
          · rw [e3]; simp [psB, ib]
          · rcases List.mem_cons.1 hp with rfl | hp
            · exact ⟨by simp, by simp⟩
            · exact k4 p hp
theorem rdD_some {id : List Nat} {t : Nat} {b c : List Nat} {r : Rc} (hb : ∀ z ∈ b, z < 256) (h : rdD id t b = some (r, c)) : r.id = id ∧ r.time = (t : Int) ∧ r.mark = false ∧ b = ib r.size ++ tb r.etag ++ ib r.k ++ ib r.m ++ tb r.data ++ r.sum ++ nb r.parts.length ++ psB r.parts ++ tb r.up ++ c := by
  unfold rdD at h
  cases h1 : rdU b with
  | none => rw [h1] at h; cases h
  | some p =>
  obtain ⟨size, b1⟩ := p
  rw [h1] at h; simp only [Option.bind_eq_bind, Option.bind_some] at h
  obtain ⟨e1, _⟩ := rdU_some hb h1; subst e1; have hb := (sub256 hb).2
  cases h2 : rdT b1 with
  | none => rw [h2] at h; cases h
  | some p =>
  obtain ⟨etag, b2⟩ := p
  rw [h2] at h; simp only [Option.bind_some] at h
  obtain ⟨e2, _⟩ := rdT_some hb h2; subst e2; have hb := (sub256 hb).2
  cases h3 : rdU b2 with
  | none => rw [h3] at h; cases h
  | some p =>
  obtain ⟨k, b3⟩ := p
  rw [h3] at h; simp only [Option.bind_some] at h
  obtain ⟨e3, _⟩ := rdU_some hb h3; subst e3; have hb := (sub256 hb).2
  cases h4 : rdU b3 with
  | none => rw [h4] at h; cases h
  | some p =>
  obtain ⟨m, b4⟩ := p
  rw [h4] at h; simp only [Option.bind_some] at h
  obtain ⟨e4, _⟩ := rdU_some hb h4; subst e4; have hb := (sub256 hb).2
  cases h5 : rdT b4 with
  | none => rw [h5] at h; cases h
  | some p =>
  obtain ⟨data, b5⟩ := p
  rw [h5] at h; simp only [Option.bind_some] at h
  obtain ⟨e5, _⟩ := rdT_some hb h5; subst e5; have hb := (sub256 hb).2
  by_cases hl : b5.length < 32
  · rw [if_pos hl] at h; cases h
  rw [if_neg hl] at h
  have hb6 : ∀ z ∈ b5.drop 32, z < 256 := fun z hz => hb z (List.mem_of_mem_drop hz)
  cases h6 : rdU (b5.drop 32) with
  | none => rw [h6] at h; cases h
  | some p =>
  obtain ⟨n, b6⟩ := p
  rw [h6] at h; simp only [Option.bind_some] at h
  obtain ⟨e6, _⟩ := rdU_some hb6 h6
  rw [e6] at hb6; have hb6 := (sub256 hb6).2
  by_cases hn : 32 < n
  · rw [if_pos hn] at h; cases h
  rw [if_neg hn] at h
  cases h7 : rdPs n b6 with
  | none => rw [h7] at h; cases h
  | some p =>
  obtain ⟨ps, b7⟩ := p
  rw [h7] at h; simp only [Option.bind_some] at h
  obtain ⟨e7, k7, _⟩ := rdPs_some hb6 h7; subst e7; have hb7 := (sub256 hb6).2
  cases h8 : rdT b7 with
  | none => rw [h8] at h; cases h
  | some p =>
  obtain ⟨up, b8⟩ := p
  rw [h8] at h; simp only [Option.bind_some, Option.pure_def, Option.some.injEq, Prod.mk.injEq] at h
  obtain ⟨e8, _⟩ := rdT_some hb7 h8; subst e8
  obtain ⟨rfl, rfl⟩ := h
  refine ⟨rfl, rfl, rfl, ?_⟩
  have e9 : b5 = b5.take 32 ++ (nb n ++ (psB ps ++ (tb up ++ b8))) := by rw [← e6, List.take_append_drop]
  subst k7
  simp only [ib, Int.toNat_natCast, List.append_assoc]
  rw [← e9]
theorem rdR_some {b c : List Nat} {r : Rc} (hb : ∀ z ∈ b, z < 256) (h : rdR b = some (r, c)) : okRc r = true ∧ b = rcB r ++ c := by
  unfold rdR at h
  cases ha : rdAny b with
  | none => rw [ha] at h; cases h
  | some p =>
  obtain ⟨r', c'⟩ := p
  rw [ha] at h
  by_cases hok : okRc r' = true
  · simp only [hok, if_true, Option.some.injEq, Prod.mk.injEq] at h
    obtain ⟨rfl, rfl⟩ := h
    refine ⟨hok, ?_⟩
    unfold rdAny at ha
    cases h1 : rdT b with
    | none => rw [h1] at ha; cases ha
    | some p =>
    obtain ⟨id, b1⟩ := p
    rw [h1] at ha; simp only [Option.bind_eq_bind, Option.bind_some] at ha
    obtain ⟨e1, _⟩ := rdT_some hb h1; subst e1; have hb := (sub256 hb).2
    cases h2 : rdU b1 with
    | none => rw [h2] at ha; cases ha
    | some p =>
    obtain ⟨t, b2⟩ := p
    rw [h2] at ha; simp only [Option.bind_some] at ha
    obtain ⟨e2, _⟩ := rdU_some hb h2; subst e2; have hb := (sub256 hb).2
    match b2, ha, hb with
    | [], ha, _ => cases ha
    | c0 :: b3, ha, hb =>
      simp only at ha
      by_cases hc : 1 < c0
      · rw [if_pos hc] at ha; cases ha
      rw [if_neg hc] at ha
      by_cases hc1 : c0 = 1
      · rw [if_pos hc1] at ha
        simp only [Option.some.injEq, Prod.mk.injEq] at ha
        obtain ⟨rfl, rfl⟩ := ha
        simp [rcB, ib, hc1]
      · rw [if_neg hc1] at ha
        obtain ⟨k1, k2, k3, k4⟩ := rdD_some (fun z hz => hb z (List.mem_cons_of_mem _ hz)) ha
        have e0 : c0 = 0 := by omega
        subst e0
        unfold rcB
        rw [k1, k2, k3, k4]
        simp [ib]
  · simp [hok] at h
end
end Go.Proofs.YtelkijiphhoacaaDoor

/- Journals as bytes: mathematics alone. D: the digest, of which nothing is asked but its length. -/
namespace Go.Proofs.YtelkijiphhoacaaDoor

structure Jr where
  seq : Int
  recs : List Rc
  deriving DecidableEq
def okJ (j : Jr) : Bool := inR j.seq 1 1099511627776 && decide (j.recs.length ≤ 64) && j.recs.all okRc && decide ((j.recs.map Rc.id).Nodup)
def rsB (l : List Rc) : List Nat := (l.map rcB).flatten
def jBody (j : Jr) : List Nat := [83, 74, 49] ++ ib j.seq ++ nb j.recs.length ++ rsB j.recs
def jB (D : List Nat → List Nat) (j : Jr) : List Nat := jBody j ++ D (jBody j)
def rdRs : Nat → List Nat → Option (List Rc × List Nat)
  | 0, b => some ([], b)
  | n + 1, b => do
    let (r, b) ← rdR b
    let (l, b) ← rdRs n b
    return (r :: l, b)
def rdMid (b : List Nat) : Option Jr := do
  let (s, b) ← rdU b
  let (n, b) ← rdU b
  if 64 < n then none else
  let (l, b) ← rdRs n b
  if b = [] then some ⟨s, l⟩ else none
/-- The error's number, and the journal. -/
def rdJ (D : List Nat → List Nat) (b : List Nat) : Nat × Option Jr :=
  if b.length < 35 ∨ b.take 3 ≠ [83, 74, 49] then (4, none) else
  if D (b.take (b.length - 32)) ≠ b.drop (b.length - 32) then (14, none) else
  match rdMid ((b.take (b.length - 32)).drop 3) with
  | some j => if okJ j then (0, some j) else (4, none)
  | none => (4, none)
theorem rdRs_rsB : ∀ (l : List Rc) (t : List Nat), l.all okRc = true → rdRs l.length (rsB l ++ t) = some (l, t)
  | [], t, _ => by simp [rdRs, rsB]
  | r :: l, t, h => by
    simp only [List.all_cons, Bool.and_eq_true] at h
    have e : rsB (r :: l) ++ t = rcB r ++ (rsB l ++ t) := by simp [rsB]
    rw [e]
    show rdRs (l.length + 1) _ = _
    unfold rdRs
    rw [rdR_rcB _ h.1]
    simp only [Option.bind_eq_bind, Option.bind_some]
    rw [rdRs_rsB l t h.2]
    rfl
theorem rdRs_some : ∀ {n : Nat} {b c : List Nat} {l : List Rc}, (∀ z ∈ b, z < 256) → rdRs n b = some (l, c) → b = rsB l ++ c ∧ l.length = n ∧ l.all okRc = true
  | 0, b, c, l, _, h => by simp [rdRs] at h; obtain ⟨rfl, rfl⟩ := h; simp [rsB]
  | n + 1, b, c, l, hb, h => by
    unfold rdRs at h
    cases h1 : rdR b with
    | none => rw [h1] at h; cases h
    | some p =>
      obtain ⟨r, b1⟩ := p
      rw [h1] at h
      simp only [Option.bind_eq_bind, Option.bind_some] at h
      obtain ⟨k1, e1⟩ := rdR_some hb h1
      subst e1
      cases h2 : rdRs n b1 with
      | none => rw [h2] at h; cases h
      | some p =>
        obtain ⟨l', b2⟩ := p
        rw [h2] at h
        simp only [Option.bind_some, Option.pure_def, Option.some.injEq, Prod.mk.injEq] at h
        obtain ⟨rfl, rfl⟩ := h
        obtain ⟨e2, k2, k3⟩ := rdRs_some (sub256 hb).2 h2
        exact ⟨by rw [e2]; simp [rsB], by simp [k2], by simp [k1, k3]⟩
theorem okJ_parts {j : Jr} (h : okJ j = true) : 1 ≤ j.seq ∧ j.seq ≤ 1099511627776 ∧ j.recs.length ≤ 64 ∧ j.recs.all okRc = true ∧ (j.recs.map Rc.id).Nodup := by
  simp only [okJ, Bool.and_eq_true, decide_eq_true_eq, inR_iff] at h
  exact ⟨h.1.1.1.1, h.1.1.1.2, h.1.1.2, h.1.2, h.2⟩
theorem rdMid_body {j : Jr} (h : okJ j = true) : rdMid ((jBody j).drop 3) = some j := by
  obtain ⟨h1, h2, h3, h4, _⟩ := okJ_parts h
  have e : (jBody j).drop 3 = ib j.seq ++ (nb j.recs.length ++ (rsB j.recs ++ [])) := by simp [jBody]
  rw [e]
  unfold rdMid ib
  rw [rdU_nb _ (by omega)]
  simp only [Option.bind_eq_bind, Option.bind_some]
  rw [rdU_nb _ (by omega)]
  simp only [Option.bind_some]
  rw [if_neg (by omega), rdRs_rsB _ _ h4]
  simp only [Option.bind_some, if_true]
  rw [ib_toNat (by omega)]
theorem rdMid_some {b : List Nat} {j : Jr} (hb : ∀ z ∈ b, z < 256) (h : rdMid b = some j) : [83, 74, 49] ++ b = jBody j := by
  unfold rdMid at h
  cases h1 : rdU b with
  | none => rw [h1] at h; cases h
  | some p =>
  obtain ⟨s, b1⟩ := p
  rw [h1] at h; simp only [Option.bind_eq_bind, Option.bind_some] at h
  obtain ⟨e1, _⟩ := rdU_some hb h1; subst e1; have hb := (sub256 hb).2
  cases h2 : rdU b1 with
  | none => rw [h2] at h; cases h
  | some p =>
  obtain ⟨n, b2⟩ := p
  rw [h2] at h; simp only [Option.bind_some] at h
  obtain ⟨e2, _⟩ := rdU_some hb h2; subst e2; have hb := (sub256 hb).2
  by_cases hn : 64 < n
  · rw [if_pos hn] at h; cases h
  rw [if_neg hn] at h
  cases h3 : rdRs n b2 with
  | none => rw [h3] at h; cases h
  | some p =>
  obtain ⟨l, b3⟩ := p
  rw [h3] at h; simp only [Option.bind_some] at h
  obtain ⟨e3, k3, _⟩ := rdRs_some hb h3; subst e3
  by_cases h0 : b3 = []
  · rw [if_pos h0] at h
    simp only [Option.some.injEq] at h
    subst h
    subst h0
    subst k3
    simp [jBody, ib]
  · rw [if_neg h0] at h; cases h
theorem body_len (j : Jr) : 5 ≤ (jBody j).length := by
  have h1 := nb_pos j.seq.toNat
  have h2 := nb_pos j.recs.length
  simp only [jBody, ib, List.length_append, List.length_cons, List.length_nil]
  omega
section
variable {D : List Nat → List Nat}
theorem rdJ_jB (hD : ∀ b, (D b).length = 32) {j : Jr} (h : okJ j = true) : rdJ D (jB D j) = (0, some j) := by
  have hl := body_len j
  have hlen : (jB D j).length = (jBody j).length + 32 := by simp [jB, hD]
  have ht : (jB D j).take ((jB D j).length - 32) = jBody j := by rw [hlen, Nat.add_sub_cancel]; exact List.take_left
  have hd : (jB D j).drop ((jB D j).length - 32) = D (jBody j) := by rw [hlen, Nat.add_sub_cancel]; exact List.drop_left
  unfold rdJ
  rw [if_neg (by
    rintro (k | k)
    · omega
    · exact k (by simp [jB, jBody])), ht, hd, if_neg (fun k => k rfl), rdMid_body h]
  simp [h]
theorem rdJ_some {b : List Nat} {j : Jr} (hb : ∀ z ∈ b, z < 256) {e : Nat} (h : rdJ D b = (e, some j)) : e = 0 ∧ okJ j = true ∧ b = jB D j := by
  unfold rdJ at h
  by_cases h1 : b.length < 35 ∨ b.take 3 ≠ [83, 74, 49]
  · rw [if_pos h1] at h; cases h
  rw [if_neg h1] at h
  by_cases h2 : D (b.take (b.length - 32)) ≠ b.drop (b.length - 32)
  · rw [if_pos h2] at h; cases h
  rw [if_neg h2] at h
  have h1a : ¬ b.length < 35 := fun k => h1 (Or.inl k)
  have h1b : b.take 3 = [83, 74, 49] := Classical.byContradiction fun k => h1 (Or.inr k)
  have h2' : D (b.take (b.length - 32)) = b.drop (b.length - 32) := Classical.byContradiction h2
  cases h3 : rdMid ((b.take (b.length - 32)).drop 3) with
  | none => rw [h3] at h; cases h
  | some j' =>
    rw [h3] at h
    by_cases hok : okJ j' = true
    · simp only [hok, if_true, Prod.mk.injEq, Option.some.injEq] at h
      obtain ⟨rfl, rfl⟩ := h
      have hb2 : ∀ z ∈ (b.take (b.length - 32)).drop 3, z < 256 := fun z hz => hb z (List.mem_of_mem_take (List.mem_of_mem_drop hz))
      have e := rdMid_some hb2 h3
      have e2 : jBody j' = b.take (b.length - 32) := by
        rw [← e, ← h1b]
        have : b.take 3 = (b.take (b.length - 32)).take 3 := by rw [List.take_take, Nat.min_eq_left (by omega)]
        rw [this, List.take_append_drop]
      refine ⟨rfl, hok, ?_⟩
      unfold jB
      rw [e2, h2', List.take_append_drop]
    · simp [hok] at h
theorem jB_inj (hD : ∀ b, (D b).length = 32) {a c : Jr} (ha : okJ a = true) (hc : okJ c = true) (h : jB D a = jB D c) : a = c := by
  have h1 := rdJ_jB hD ha
  rw [h, rdJ_jB hD hc] at h1
  simp only [Prod.mk.injEq, Option.some.injEq, true_and] at h1
  exact h1.symm
end
end Go.Proofs.YtelkijiphhoacaaDoor

/- Journals: what is added, removed, found. Mathematics alone. -/
namespace Go.Proofs.YtelkijiphhoacaaDoor

/-- The place of a record. -/
def atI : List Rc → List Nat → Option Nat
  | [], _ => none
  | r :: l, id => if r.id = id then some 0 else (atI l id).map (· + 1)
theorem okJ_mk {s : Int} {l : List Rc} (h1 : 1 ≤ s) (h2 : s ≤ 1099511627776) (h3 : l.length ≤ 64) (h4 : l.all okRc = true) (h5 : (l.map Rc.id).Nodup) : okJ ⟨s, l⟩ = true := by
  simp only [okJ, Bool.and_eq_true, decide_eq_true_eq, inR_iff]
  exact ⟨⟨⟨⟨h1, h2⟩, h3⟩, h4⟩, h5⟩
theorem atI_none : ∀ {l : List Rc} {id : List Nat}, atI l id = none ↔ id ∉ l.map Rc.id
  | [], id => by simp [atI]
  | r :: l, id => by
    by_cases h : r.id = id
    · simp [atI, h]
    · rw [atI, if_neg h, Option.map_eq_none_iff, atI_none, List.map_cons, List.mem_cons]
      exact ⟨fun h1 h2 => h2.elim (fun e => h e.symm) h1, fun h1 h2 => h1 (Or.inr h2)⟩
/-- Where no two have one ID, each is found at its place. -/
theorem atI_at : ∀ {l : List Rc}, (l.map Rc.id).Nodup → ∀ i (h : i < l.length), atI l l[i].id = some i
  | r :: l, hn, 0, _ => by simp [atI]
  | r :: l, hn, i + 1, h => by
    rw [List.map_cons, List.nodup_cons] at hn
    have hi : i < l.length := by simpa using h
    have e : (r :: l)[i + 1].id = l[i].id := rfl
    rw [e, atI, if_neg (fun e2 => hn.1 (by rw [e2]; exact List.mem_map.2 ⟨_, List.getElem_mem hi, rfl⟩)), atI_at hn.2 i hi]
    rfl
/-- .. and only there. -/
theorem nodup_of_at {l : List Rc} (h : ∀ i (hi : i < l.length), atI l l[i].id = some i) : (l.map Rc.id).Nodup := by
  rw [List.nodup_iff_pairwise_ne, List.pairwise_iff_getElem]
  intro i j hi hj hij e
  have hi' : i < l.length := by simpa using hi
  have hj' : j < l.length := by simpa using hj
  have h1 := h i hi'
  have h2 := h j hj'
  have e2 : l[i].id = l[j].id := by simpa using e
  rw [e2, h2] at h1
  cases h1
  omega
end Go.Proofs.YtelkijiphhoacaaDoor

/- Which of the drives' journals counts. Mathematics alone. -/
namespace Go.Proofs.YtelkijiphhoacaaDoor

/-- What a drive answers. -/
structure Cp where
  err : Int
  b : List Nat
section
variable (D : List Nat → List Nat)
/-- The journal that a drive has. -/
def hasJ (c : Cp) : Option Jr := if c.err = 0 then (rdJ D c.b).2 else none
def ansC (c : Cp) : Bool := decide (c.err = 0) || decide (c.err = 6)
/-- How many drives have just these bytes. -/
def votC (l : List Cp) (b : List Nat) : Nat := (l.filter fun c => decide (c.err = 0) && decide (c.b = b)).length
/-- The one that counts among those seen so far. -/
def betC (l : List Cp) (best : Option (Jr × List Nat × Nat)) (c : Cp) : Option (Jr × List Nat × Nat) := match hasJ D c with
  | none => best
  | some j => match best with
    | none => some (j, c.b, votC l c.b)
    | some (j0, b0, n0) => if j0.seq < j.seq ∨ j.seq = j0.seq ∧ n0 < votC l c.b then some (j, c.b, votC l c.b) else some (j0, b0, n0)
def elC (l : List Cp) : Option (Jr × List Nat × Nat) := l.foldl (betC D l) none
variable {D}
theorem has_err {c : Cp} {j : Jr} (h : hasJ D c = some j) : c.err = 0 ∧ (rdJ D c.b).2 = some j := by
  unfold hasJ at h
  by_cases e : c.err = 0
  · rw [if_pos e] at h; exact ⟨e, h⟩
  · rw [if_neg e] at h; cases h
end
end Go.Proofs.YtelkijiphhoacaaDoor

/- Which of the drives' journals counts, by the list of those that drives have, as the program goes; and what Elect and Behind tell. Mathematics alone. -/
namespace Go.Proofs.YtelkijiphhoacaaDoor

section
variable (D : List Nat → List Nat)
/-- The journals that drives have, with their bytes. -/
def allC (l : List Cp) : List (Jr × List Nat) := l.filterMap fun c => (hasJ D c).map fun j => (j, c.b)
def mxC (V : List Nat → Nat) (m x : Jr × List Nat) : Jr × List Nat := if m.1.seq < x.1.seq ∨ x.1.seq = m.1.seq ∧ V m.2 < V x.2 then x else m
def cntC (a : List (Jr × List Nat)) (b : List Nat) : Nat := (a.filter fun x => decide (x.2 = b)).length
variable {D}
theorem all_cons_none {c : Cp} {l : List Cp} (h : hasJ D c = none) : allC D (c :: l) = allC D l := by simp [allC, h]
theorem all_cons_some {c : Cp} {l : List Cp} {j : Jr} (h : hasJ D c = some j) : allC D (c :: l) = (j, c.b) :: allC D l := by simp [allC, h]
theorem all_snoc (l : List Cp) (c : Cp) : allC D (l ++ [c]) = allC D l ++ ((hasJ D c).map fun j => (j, c.b)).toList := by
  unfold allC
  rw [List.filterMap_append]
  cases h : hasJ D c <;> simp [h]
theorem all_mem {l : List Cp} {j : Jr} {b : List Nat} (h : (j, b) ∈ allC D l) : ∃ c ∈ l, hasJ D c = some j ∧ c.b = b := by
  obtain ⟨c, hc, e⟩ := List.mem_filterMap.1 h
  cases hj : hasJ D c with
  | none => rw [hj] at e; cases e
  | some j' => rw [hj] at e; cases e; exact ⟨c, hc, hj, rfl⟩
theorem fold_some (l : List Cp) : ∀ (m : List Cp) (a : Jr × List Nat), m.foldl (betC D l) (some (a.1, a.2, votC l a.2)) = some (((allC D m).foldl (mxC (votC l)) a).1, ((allC D m).foldl (mxC (votC l)) a).2, votC l ((allC D m).foldl (mxC (votC l)) a).2)
  | [], a => rfl
  | c :: m, a => by
    rw [List.foldl_cons]
    cases hj : hasJ D c with
    | none =>
      rw [all_cons_none hj, show betC D l (some (a.1, a.2, votC l a.2)) c = some (a.1, a.2, votC l a.2) by unfold betC; rw [hj]]
      exact fold_some l m a
    | some j =>
      rw [all_cons_some hj, List.foldl_cons]
      have e : betC D l (some (a.1, a.2, votC l a.2)) c = some ((mxC (votC l) a (j, c.b)).1, (mxC (votC l) a (j, c.b)).2, votC l (mxC (votC l) a (j, c.b)).2) := by
        unfold betC mxC
        rw [hj]
        simp only
        by_cases hb : a.1.seq < j.seq ∨ j.seq = a.1.seq ∧ votC l a.2 < votC l c.b
        · rw [if_pos hb, if_pos hb]
        · rw [if_neg hb, if_neg hb]
      rw [e]
      exact fold_some l m _
theorem fold_none (l : List Cp) : ∀ m : List Cp, m.foldl (betC D l) none = match allC D m with
    | [] => none
    | x :: r => some ((r.foldl (mxC (votC l)) x).1, (r.foldl (mxC (votC l)) x).2, votC l (r.foldl (mxC (votC l)) x).2)
  | [] => rfl
  | c :: m => by
    rw [List.foldl_cons]
    cases hj : hasJ D c with
    | none =>
      rw [all_cons_none hj, show betC D l none c = none by unfold betC; rw [hj]]
      exact fold_none l m
    | some j =>
      rw [all_cons_some hj, show betC D l none c = some (j, c.b, votC l c.b) by unfold betC; rw [hj]]
      exact fold_some l m (j, c.b)
/-- The one that counts is the first of the greatest among those that drives have. -/
theorem el_all (l : List Cp) : elC D l = match allC D l with
    | [] => none
    | x :: r => some ((r.foldl (mxC (votC l)) x).1, (r.foldl (mxC (votC l)) x).2, votC l (r.foldl (mxC (votC l)) x).2) := fold_none l l
theorem cnt_vot {b : List Nat} {j : Jr} (hb : (rdJ D b).2 = some j) : ∀ l : List Cp, cntC (allC D l) b = votC l b
  | [] => rfl
  | c :: l => by
    have ih := cnt_vot hb l
    unfold cntC votC at *
    cases hj : hasJ D c with
    | none =>
      rw [all_cons_none hj, ih, List.filter_cons]
      have : ¬ (decide (c.err = 0) && decide (c.b = b)) = true := by
        intro h
        simp only [Bool.and_eq_true, decide_eq_true_eq] at h
        unfold hasJ at hj
        rw [if_pos h.1, h.2, hb] at hj
        cases hj
      rw [if_neg this]
    | some j' =>
      have he := (has_err hj).1
      rw [all_cons_some hj, List.filter_cons, List.filter_cons]
      by_cases h : c.b = b
      · rw [if_pos (by simp [h]), if_pos (by simp [he, h]), List.length_cons, List.length_cons, ih]
      · rw [if_neg (by simp [h]), if_neg (by simp [h]), ih]
theorem fold_mem (V : List Nat → Nat) : ∀ (r : List (Jr × List Nat)) (x : Jr × List Nat), r.foldl (mxC V) x ∈ x :: r
  | [], x => by simp
  | y :: r, x => by
    rw [List.foldl_cons]
    have := fold_mem V r (mxC V x y)
    have h2 : mxC V x y = x ∨ mxC V x y = y := by unfold mxC; split <;> simp
    rcases List.mem_cons.1 this with h | h
    · rw [h]; rcases h2 with h2 | h2 <;> rw [h2] <;> simp
    · simp [h]
theorem mx_congr {V U : List Nat → Nat} {a : List (Jr × List Nat)} (h : ∀ y ∈ a, V y.2 = U y.2) : ∀ (r : List (Jr × List Nat)) (x : Jr × List Nat), x ∈ a → (∀ y ∈ r, y ∈ a) → r.foldl (mxC V) x = r.foldl (mxC U) x
  | [], _, _, _ => rfl
  | y :: r, x, hx, hr => by
    have e : mxC V x y = mxC U x y := by unfold mxC; rw [h x hx, h y (hr y (by simp))]
    rw [List.foldl_cons, List.foldl_cons, e]
    refine mx_congr h r _ ?_ (fun z hz => hr z (by simp [hz]))
    have h2 : mxC U x y = x ∨ mxC U x y = y := by unfold mxC; split <;> simp
    rcases h2 with h2 | h2 <;> rw [h2]
    · exact hx
    · exact hr y (by simp)
/-- .. by the counts that the program made. -/
theorem el_cnt {l : List Cp} {x : Jr × List Nat} {r : List (Jr × List Nat)} (h : allC D l = x :: r) : elC D l = some ((r.foldl (mxC (cntC (x :: r))) x).1, (r.foldl (mxC (cntC (x :: r))) x).2, cntC (x :: r) (r.foldl (mxC (cntC (x :: r))) x).2) := by
  have hv : ∀ y ∈ x :: r, cntC (x :: r) y.2 = votC l y.2 := fun y hy => by
    rw [← h] at hy ⊢
    obtain ⟨c, _, hj, hb⟩ := all_mem (j := y.1) (b := y.2) hy
    have := (has_err hj).2
    rw [hb] at this
    exact cnt_vot this l
  rw [el_all, h]
  simp only
  rw [mx_congr (a := x :: r) hv r x (by simp) (fun z hz => by simp [hz]), hv _ (fold_mem _ r x)]
theorem el_nil {l : List Cp} (h : allC D l = []) : elC D l = none := by rw [el_all, h]
end

/-- What Elect tells. -/
structure Ch where
  found : Bool
  j : Jr
  b : List Nat
  has : List Bool
  ans : Nat
  vot : Nat
def chZ : Ch := ⟨false, ⟨0, []⟩, [], [], 0, 0⟩
def ansN (l : List Cp) : Nat := (l.filter ansC).length
def hasC (b : List Nat) (c : Cp) : Bool := decide (c.err = 0) && decide (c.b = b)
def chC (D : List Nat → List Nat) (l : List Cp) : Ch := match elC D l with
  | none => ⟨false, ⟨0, []⟩, [], l.map (fun _ => false), ansN l, 0⟩
  | some (j, b, n) => ⟨true, j, b, l.map (hasC b), ansN l, n⟩
def elE (D : List Nat → List Nat) (l : List Cp) (k : Int) : Nat × Ch :=
  if 16 < l.length ∨ k < 1 ∨ (l.length : Int) < k then (2, chZ) else
  if (ansN l : Int) < k then (10, chZ) else (0, chC D l)
/-- What Behind tells: the error, and of each drive whether it is. -/
def behE (l : List Cp) (f : Bool) (h : List Bool) : Nat × List Bool :=
  if 16 < l.length ∨ h.length ≠ l.length then (2, []) else
  (0, (List.range l.length).map fun i => f && (match l[i]? with | some c => ansC c | none => false) && !(h.getD i false))
theorem ans_snoc (l : List Cp) (c : Cp) : ansN (l ++ [c]) = ansN l + (if ansC c then 1 else 0) := by
  unfold ansN
  rw [List.filter_append, List.length_append]
  cases h : ansC c <;> simp [h]
end Go.Proofs.YtelkijiphhoacaaDoor
