/- Texts laid into one, cut to what is needed: the remark ahead of each part says what is proved there. -/
import Derived.WalkKit
import Derived.Test.YtelkijiphhoacaaDoorRows
import Derived.WalkSpells
import Derived.WalkLawsBesides
import Derived.OwnWalk
import Derived.Laws.Rows
import Derived.Laws.CopyOwn
import Derived.Laws.NewBlocks
import Derived.Laws.ResultCell
import Derived.Laws.BytesArg
import Derived.Laws.BytesString
import Derived.Laws.OwnMore
import Derived.Laws.AppendOwnNone
import Derived.Maps.AppendAt
import Derived.Lib.AppendStr
import Derived.Lib.SliceRun
import Derived.Laws.BitsAllLaws
import Derived.Deep.RegionHeld3
import Derived.Deep.QuietTactic
import Derived.Maps.OwnSet
import Derived.LaidEql
import Derived.Stop.Asserts
import Derived.RowKitTokens
import Derived.Laws.Externs
import Derived.Stop.LaidTwo
import Derived.MakeChecks
/- Numbers and texts as bytes: mathematics alone. -/
namespace Go.Proofs.YtelkijiphhoacaaDoor

/-- A number's bytes. -/
def nb (n : Nat) : List Nat := if n < 128 then [n] else (n % 128 + 128) :: nb (n / 128)
  termination_by n
  decreasing_by omega
theorem nb_lt {n : Nat} (h : n < 128) : nb n = [n] := by rw [nb, if_pos h]
theorem nb_ge {n : Nat} (h : ¬ n < 128) : nb n = (n % 128 + 128) :: nb (n / 128) := by rw [nb, if_neg h]
/-- A number of at most k bytes from the front. -/
def rdG : Nat → List Nat → Option (Nat × List Nat)
  | 0, _ => none
  | _ + 1, [] => none
  | k + 1, c :: r => if c < 128 then some (c, r) else match rdG k r with
    | some (n, r') => if n = 0 then none else some (c % 128 + 128 * n, r')
    | none => none
def rdU (b : List Nat) : Option (Nat × List Nat) := match rdG 6 b with
  | some (n, r) => if n ≤ 1099511627776 then some (n, r) else none
  | none => none
theorem nb_len : ∀ (k n : Nat), n < 128 ^ (k + 1) → (nb n).length ≤ k + 1
  | 0, n, h => by rw [nb_lt (by simpa using h)]; simp
  | k + 1, n, h => by
    by_cases hn : n < 128
    · rw [nb_lt hn]; simp
    · rw [nb_ge hn, List.length_cons]
      have := nb_len k (n / 128) (by rw [Nat.pow_succ] at h; exact Nat.div_lt_of_lt_mul (by rw [Nat.mul_comm]; exact h))
      omega
theorem nb_pos (n : Nat) : 1 ≤ (nb n).length := by
  by_cases hn : n < 128
  · rw [nb_lt hn]; simp
  · rw [nb_ge hn]; simp
theorem nb_ne (n : Nat) : nb n ≠ [] := fun e => by have := nb_pos n; rw [e] at this; simp at this
theorem nb_byte : ∀ (n : Nat), ∀ x ∈ nb n, x < 256 := fun n => by
  induction n using Nat.strongRecOn with
  | ind n ih =>
    intro x hx
    by_cases hn : n < 128
    · rw [nb_lt hn] at hx; simp at hx; omega
    · rw [nb_ge hn] at hx
      rcases List.mem_cons.1 hx with rfl | hx
      · omega
      · exact ih (n / 128) (by omega) x hx
theorem rdG_nb : ∀ (k n : Nat) (r : List Nat), n < 128 ^ (k + 1) → rdG (k + 1) (nb n ++ r) = some (n, r)
  | 0, n, r, h => by
    have h' : n < 128 := by simpa using h
    rw [nb_lt h']; simp [rdG, h']
  | k + 1, n, r, h => by
    by_cases hn : n < 128
    · rw [nb_lt hn]; simp [rdG, hn]
    · rw [nb_ge hn, List.cons_append]
      have := rdG_nb k (n / 128) r (by rw [Nat.pow_succ] at h; exact Nat.div_lt_of_lt_mul (by rw [Nat.mul_comm]; exact h))
      unfold rdG
      rw [if_neg (by omega), this]
      have h0 : ¬ n / 128 = 0 := by omega
      simp only [h0, if_false]
      congr 2
      omega
theorem rdG_some : ∀ {k : Nat} {b : List Nat} {n : Nat} {r : List Nat}, (∀ x ∈ b, x < 256) → rdG k b = some (n, r) → b = nb n ++ r ∧ n < 128 ^ k
  | 0, _, _, _, _, h => by simp [rdG] at h
  | _ + 1, [], _, _, _, h => by simp [rdG] at h
  | k + 1, c :: t, n, r, hb, h => by
    unfold rdG at h
    by_cases hc : c < 128
    · rw [if_pos hc] at h
      cases h
      exact ⟨by rw [nb_lt hc]; rfl, Nat.lt_of_lt_of_le hc (by rw [Nat.pow_succ]; have := Nat.pow_pos (n := k) (show 0 < 128 by omega); omega)⟩
    · rw [if_neg hc] at h
      cases hr : rdG k t with
      | none => rw [hr] at h; cases h
      | some p =>
        obtain ⟨m, t'⟩ := p
        rw [hr] at h
        by_cases hm : m = 0
        · simp [hm] at h
        · simp only [hm, if_false] at h
          cases h
          obtain ⟨h1, h2⟩ := rdG_some (fun x hx => hb x (List.mem_cons_of_mem _ hx)) hr
          have hc2 := hb c (List.mem_cons_self)
          refine ⟨?_, ?_⟩
          · rw [nb_ge (by omega), List.cons_append]
            have e1 : (c % 128 + 128 * m) % 128 + 128 = c := by omega
            have e2 : (c % 128 + 128 * m) / 128 = m := by omega
            rw [e1, e2, ← h1]
          · rw [Nat.pow_succ]; omega
theorem rdU_nb {n : Nat} (r : List Nat) (h : n ≤ 1099511627776) : rdU (nb n ++ r) = some (n, r) := by
  unfold rdU
  rw [rdG_nb 5 n r (by omega)]
  simp [h]
theorem rdU_some {b : List Nat} {n : Nat} {r : List Nat} (hb : ∀ x ∈ b, x < 256) (h : rdU b = some (n, r)) : b = nb n ++ r ∧ n ≤ 1099511627776 := by
  unfold rdU at h
  cases hr : rdG 6 b with
  | none => rw [hr] at h; cases h
  | some p =>
    obtain ⟨m, t⟩ := p
    rw [hr] at h
    by_cases hm : m ≤ 1099511627776
    · simp only [hm, if_true] at h
      cases h
      exact ⟨(rdG_some hb hr).1, hm⟩
    · simp [hm] at h
/-- A text's bytes. -/
def tb (s : List Nat) : List Nat := nb s.length ++ s
def rdT (b : List Nat) : Option (List Nat × List Nat) := match rdU b with
  | some (n, r) => if n ≤ 65536 ∧ n ≤ r.length then some (r.take n, r.drop n) else none
  | none => none
theorem rdT_tb {s : List Nat} (r : List Nat) (h : s.length ≤ 65536) : rdT (tb s ++ r) = some (s, r) := by
  unfold rdT tb
  rw [List.append_assoc, rdU_nb (s ++ r) (by omega)]
  simp [h]
theorem rdT_some {b s r : List Nat} (hb : ∀ x ∈ b, x < 256) (h : rdT b = some (s, r)) : b = tb s ++ r ∧ s.length ≤ 65536 := by
  unfold rdT at h
  cases hr : rdU b with
  | none => rw [hr] at h; cases h
  | some p =>
    obtain ⟨n, t⟩ := p
    rw [hr] at h
    by_cases hn : n ≤ 65536 ∧ n ≤ t.length
    · simp only [hn, and_self, if_true] at h
      cases h
      obtain ⟨h1, h2⟩ := rdU_some hb hr
      unfold tb
      rw [List.length_take, Nat.min_eq_left hn.2, List.append_assoc, List.take_append_drop]
      exact ⟨h1, hn.1⟩
    · simp [hn] at h
end Go.Proofs.YtelkijiphhoacaaDoor

/- Records as bytes: mathematics alone. -/
namespace Go.Proofs.YtelkijiphhoacaaDoor

/-- A record. Texts are lists of bytes. -/
structure Rc where
  id : List Nat
  time : Int
  mark : Bool
  size : Int
  etag : List Nat
  k : Int
  m : Int
  data : List Nat
  sum : List Nat
  parts : List (Int × Int)
  up : List Nat
  deriving DecidableEq
def dgt (c : Nat) : Bool := decide (48 ≤ c) && decide (c ≤ 57)
def isOf (last : Nat) (dash : Bool) (c : Nat) : Bool := dgt c || (decide (97 ≤ c) && decide (c ≤ last)) || (dash && decide (c = 45))
def okOf (s : List Nat) (least most last : Nat) (dash : Bool) : Bool := s.all (isOf last dash) && decide (least ≤ s.length) && decide (s.length ≤ most)
def okId (s : List Nat) : Bool := okOf s 1 32 122 false
def okData (s : List Nat) : Bool := okOf s 32 32 102 false
def okTag (s : List Nat) : Bool := okOf s 1 40 102 true
def inR (n least most : Int) : Bool := decide (least ≤ n) && decide (n ≤ most)
def okPs : Int → List (Int × Int) → Bool
  | _, [] => true
  | last, p :: r => decide (last < p.1) && decide (p.1 ≤ 10000) && inR p.2 0 65536 && okPs p.1 r
def sumPs (l : List (Int × Int)) : Int := (l.map (·.2)).sum
def okParts (l : List (Int × Int)) (size : Int) : Bool := decide (l.length ≤ 32) && okPs 0 l && (l.isEmpty || decide (sumPs l = size))
def zeroD : List Nat := List.replicate 32 0
def okRc (r : Rc) : Bool := okId r.id && inR r.time 0 1048576 && (if r.mark then decide (r.size = 0) && r.etag.isEmpty && decide (r.k = 0) && decide (r.m = 0) && r.data.isEmpty && decide (r.sum = zeroD) && r.parts.isEmpty && r.up.isEmpty
  else inR r.size 0 65536 && okTag r.etag && inR r.k 1 15 && inR r.m 1 15 && decide (r.k + r.m ≤ 16) && okData r.data && okParts r.parts r.size && (r.up.isEmpty || okId r.up) && decide (r.sum.length = 32))
def ib (n : Int) : List Nat := nb n.toNat
def psB (l : List (Int × Int)) : List Nat := (l.map fun p => ib p.1 ++ ib p.2).flatten
def rcB (r : Rc) : List Nat := tb r.id ++ ib r.time ++ (if r.mark then [1] else [0] ++ ib r.size ++ tb r.etag ++ ib r.k ++ ib r.m ++ tb r.data ++ r.sum ++ nb r.parts.length ++ psB r.parts ++ tb r.up)
/-- So many pairs of numbers from the front. -/
def rdPs : Nat → List Nat → Option (List (Int × Int) × List Nat)
  | 0, b => some ([], b)
  | n + 1, b => do
    let (x, b) ← rdU b
    let (y, b) ← rdU b
    let (l, b) ← rdPs n b
    return (((x : Int), (y : Int)) :: l, b)
def rdD (id : List Nat) (t : Nat) (b : List Nat) : Option (Rc × List Nat) := do
  let (size, b) ← rdU b
  let (etag, b) ← rdT b
  let (k, b) ← rdU b
  let (m, b) ← rdU b
  let (data, b) ← rdT b
  if b.length < 32 then none else
  let (n, c) ← rdU (b.drop 32)
  if 32 < n then none else
  let (ps, c) ← rdPs n c
  let (up, c) ← rdT c
  return (⟨id, t, false, size, etag, k, m, data, b.take 32, ps, up⟩, c)
def rdAny (b : List Nat) : Option (Rc × List Nat) := do
  let (id, b) ← rdT b
  let (t, b) ← rdU b
  match b with
  | [] => none
  | c :: b => if 1 < c then none else if c = 1 then some (⟨id, t, true, 0, [], 0, 0, [], zeroD, [], []⟩, b) else rdD id t b
def rdR (b : List Nat) : Option (Rc × List Nat) := match rdAny b with
  | some (r, t) => if okRc r then some (r, t) else none
  | none => none
section
variable {b : List Nat}
theorem inR_iff {n least most : Int} : inR n least most = true ↔ least ≤ n ∧ n ≤ most := by simp [inR]
theorem ib_toNat {n : Int} (h : 0 ≤ n) : ((n.toNat : Nat) : Int) = n := Int.toNat_of_nonneg h
theorem okOf_len {s : List Nat} {a m l : Nat} {d : Bool} (h : okOf s a m l d = true) : a ≤ s.length ∧ s.length ≤ m := by simp [okOf] at h; omega
theorem rdPs_psB : ∀ {last : Int} {l : List (Int × Int)} (r : List Nat), 0 ≤ last → okPs last l = true → rdPs l.length (psB l ++ r) = some (l, r)
  | _, [], r, _, _ => by simp [rdPs, psB]
  | last, p :: t, r, h0, h => by
    simp [okPs, inR] at h
    obtain ⟨⟨⟨h1, h2⟩, h3, h4⟩, h5⟩ := h
    have e : psB (p :: t) ++ r = ib p.1 ++ (ib p.2 ++ (psB t ++ r)) := by simp [psB]
    rw [e]
    unfold ib
    show rdPs (t.length + 1) _ = _
    unfold rdPs
    rw [rdU_nb _ (by omega)]
    simp only [Option.bind_eq_bind, Option.bind_some]
    rw [rdU_nb _ (by omega)]
    simp only [Option.bind_some]
    rw [rdPs_psB r (by omega) h5]
    simp only [Option.bind_some, Option.pure_def, Option.some.injEq, Prod.mk.injEq, List.cons.injEq, and_true]
    obtain ⟨x, y⟩ := p
    simp only at *
    rw [ib_toNat (by omega), ib_toNat (by omega)]
theorem rdAny_rcB {r : Rc} (t : List Nat) (h : okRc r = true) : rdAny (rcB r ++ t) = some (r, t) := by
  obtain ⟨id, time, mark, size, etag, k, m, data, sum, parts, up⟩ := r
  cases mark with
  | true =>
    simp [okRc] at h
    obtain ⟨⟨h1, h2⟩, ⟨⟨⟨⟨⟨⟨⟨rfl, rfl⟩, rfl⟩, rfl⟩, rfl⟩, rfl⟩, rfl⟩, rfl⟩⟩ := h
    rw [inR_iff] at h2
    have hl := okOf_len h1
    have e : rcB ⟨id, time, true, 0, [], 0, 0, [], zeroD, [], []⟩ ++ t = tb id ++ (ib time ++ (1 :: t)) := by simp [rcB]
    rw [e]
    unfold rdAny ib
    rw [rdT_tb _ (by omega)]
    simp only [Option.bind_eq_bind, Option.bind_some]
    rw [rdU_nb _ (by omega)]
    simp only [Option.bind_some, ib_toNat h2.1]
    simp
  | false =>
    simp [okRc, okParts, inR_iff] at h
    obtain ⟨⟨h1, h2⟩, ⟨⟨⟨⟨⟨⟨⟨⟨h3, h4⟩, h5⟩, h6⟩, h7⟩, h8⟩, ⟨h9, h10⟩, h11⟩, h12⟩, h13⟩⟩ := h
    have hl := okOf_len h1
    have hl4 := okOf_len h4
    have hl8 := okOf_len h8
    have hl12 : up.length ≤ 65536 := by
      rcases h12 with h | h
      · subst h; simp
      · have := okOf_len h; omega
    have e : rcB ⟨id, time, false, size, etag, k, m, data, sum, parts, up⟩ ++ t = tb id ++ (ib time ++ (0 :: (ib size ++ (tb etag ++ (ib k ++ (ib m ++ (tb data ++ (sum ++ (nb parts.length ++ (psB parts ++ (tb up ++ t))))))))))) := by simp [rcB]
    rw [e]
    unfold rdAny ib
    rw [rdT_tb _ (by omega)]
    simp only [Option.bind_eq_bind, Option.bind_some]
    rw [rdU_nb _ (by omega)]
    simp only [Option.bind_some]
    rw [if_neg (by omega), if_neg (by omega)]
    unfold rdD
    rw [rdU_nb _ (by omega)]
    simp only [Option.bind_eq_bind, Option.bind_some]
    rw [rdT_tb _ (by omega)]
    simp only [Option.bind_some]
    rw [rdU_nb _ (by omega)]
    simp only [Option.bind_some]
    rw [rdU_nb _ (by omega)]
    simp only [Option.bind_some]
    rw [rdT_tb _ (by omega)]
    simp only [Option.bind_some]
    rw [if_neg (by rw [List.length_append]; omega), show 32 = sum.length from h13.symm, List.drop_left, List.take_left, rdU_nb _ (by omega)]
    simp only [Option.bind_some]
    rw [if_neg (by omega), rdPs_psB _ (Int.le_refl 0) h10]
    simp only [Option.bind_some]
    rw [rdT_tb _ hl12]
    simp only [Option.bind_some, Option.pure_def]
    rw [ib_toNat h2.1, ib_toNat h3.1, ib_toNat (by omega), ib_toNat (by omega)]
theorem rdR_rcB {r : Rc} (t : List Nat) (h : okRc r = true) : rdR (rcB r ++ t) = some (r, t) := by
  unfold rdR; rw [rdAny_rcB t h]; simp [h]
theorem sub256 {x y : List Nat} (h : ∀ z ∈ x ++ y, z < 256) : (∀ z ∈ x, z < 256) ∧ ∀ z ∈ y, z < 256 := ⟨fun z hz => h z (List.mem_append_left _ hz), fun z hz => h z (List.mem_append_right _ hz)⟩
theorem rdPs_some : ∀ {n : Nat} {b c : List Nat} {l : List (Int × Int)}, (∀ z ∈ b, z < 256) → rdPs n b = some (l, c) → b = psB l ++ c ∧ l.length = n ∧ ∀ p ∈ l, 0 ≤ p.1 ∧ 0 ≤ p.2
  | 0, b, c, l, _, h => by simp [rdPs] at h; obtain ⟨rfl, rfl⟩ := h; simp [psB]
  | n + 1, b, c, l, hb, h => by
    unfold rdPs at h
    cases h1 : rdU b with
    | none => rw [h1] at h; cases h
    | some p =>
      obtain ⟨x, b1⟩ := p
      rw [h1] at h
      simp only [Option.bind_eq_bind, Option.bind_some] at h
      obtain ⟨e1, k1⟩ := rdU_some hb h1
      subst e1
      have hb1 := (sub256 hb).2
      cases h2 : rdU b1 with
      | none => rw [h2] at h; cases h
      | some p =>
        obtain ⟨y, b2⟩ := p
        rw [h2] at h
        simp only [Option.bind_some] at h
        obtain ⟨e2, k2⟩ := rdU_some hb1 h2
        subst e2
        have hb2 := (sub256 hb1).2
        cases h3 : rdPs n b2 with
        | none => rw [h3] at h; cases h
        | some p =>
          obtain ⟨l', b3⟩ := p
          rw [h3] at h
          simp only [Option.bind_some, Option.pure_def, Option.some.injEq, Prod.mk.injEq] at h
          obtain ⟨rfl, rfl⟩ := h
          obtain ⟨e3, k3, k4⟩ := rdPs_some hb2 h3
          refine ⟨?_, by simp [k3], fun p hp => ?_⟩
          · rw [e3]; simp [psB, ib]
          · rcases List.mem_cons.1 hp with rfl | hp
            · exact ⟨by simp, by simp⟩
            · exact k4 p hp
theorem rdD_some {id : List Nat} {t : Nat} {b c : List Nat} {r : Rc} (hb : ∀ z ∈ b, z < 256) (h : rdD id t b = some (r, c)) : r.id = id ∧ r.time = (t : Int) ∧ r.mark = false ∧ b = ib r.size ++ tb r.etag ++ ib r.k ++ ib r.m ++ tb r.data ++ r.sum ++ nb r.parts.length ++ psB r.parts ++ tb r.up ++ c := by
  unfold rdD at h
  cases h1 : rdU b with
  | none => rw [h1] at h; cases h
  | some p =>
  obtain ⟨size, b1⟩ := p
  rw [h1] at h; simp only [Option.bind_eq_bind, Option.bind_some] at h
  obtain ⟨e1, _⟩ := rdU_some hb h1; subst e1; have hb := (sub256 hb).2
  cases h2 : rdT b1 with
  | none => rw [h2] at h; cases h
  | some p =>
  obtain ⟨etag, b2⟩ := p
  rw [h2] at h; simp only [Option.bind_some] at h
  obtain ⟨e2, _⟩ := rdT_some hb h2; subst e2; have hb := (sub256 hb).2
  cases h3 : rdU b2 with
  | none => rw [h3] at h; cases h
  | some p =>
  obtain ⟨k, b3⟩ := p
  rw [h3] at h; simp only [Option.bind_some] at h
  obtain ⟨e3, _⟩ := rdU_some hb h3; subst e3; have hb := (sub256 hb).2
  cases h4 : rdU b3 with
  | none => rw [h4] at h; cases h
  | some p =>
  obtain ⟨m, b4⟩ := p
  rw [h4] at h; simp only [Option.bind_some] at h
  obtain ⟨e4, _⟩ := rdU_some hb h4; subst e4; have hb := (sub256 hb).2
  cases h5 : rdT b4 with
  | none => rw [h5] at h; cases h
  | some p =>
  obtain ⟨data, b5⟩ := p
  rw [h5] at h; simp only [Option.bind_some] at h
  obtain ⟨e5, _⟩ := rdT_some hb h5; subst e5; have hb := (sub256 hb).2
  by_cases hl : b5.length < 32
  · rw [if_pos hl] at h; cases h
  rw [if_neg hl] at h
  have hb6 : ∀ z ∈ b5.drop 32, z < 256 := fun z hz => hb z (List.mem_of_mem_drop hz)
  cases h6 : rdU (b5.drop 32) with
  | none => rw [h6] at h; cases h
  | some p =>
  obtain ⟨n, b6⟩ := p
  rw [h6] at h; simp only [Option.bind_some] at h
  obtain ⟨e6, _⟩ := rdU_some hb6 h6
  rw [e6] at hb6; have hb6 := (sub256 hb6).2
  by_cases hn : 32 < n
  · rw [if_pos hn] at h; cases h
  rw [if_neg hn] at h
  cases h7 : rdPs n b6 with
  | none => rw [h7] at h; cases h
  | some p =>
  obtain ⟨ps, b7⟩ := p
  rw [h7] at h; simp only [Option.bind_some] at h
  obtain ⟨e7, k7, _⟩ := rdPs_some hb6 h7; subst e7; have hb7 := (sub256 hb6).2
  cases h8 : rdT b7 with
  | none => rw [h8] at h; cases h
  | some p =>
  obtain ⟨up, b8⟩ := p
  rw [h8] at h; simp only [Option.bind_some, Option.pure_def, Option.some.injEq, Prod.mk.injEq] at h
  obtain ⟨e8, _⟩ := rdT_some hb7 h8; subst e8
  obtain ⟨rfl, rfl⟩ := h
  refine ⟨rfl, rfl, rfl, ?_⟩
  have e9 : b5 = b5.take 32 ++ (nb n ++ (psB ps ++ (tb up ++ b8))) := by rw [← e6, List.take_append_drop]
  subst k7
  simp only [ib, Int.toNat_natCast, List.append_assoc]
  rw [← e9]
theorem rdR_some {b c : List Nat} {r : Rc} (hb : ∀ z ∈ b, z < 256) (h : rdR b = some (r, c)) : okRc r = true ∧ b = rcB r ++ c := by
  unfold rdR at h
  cases ha : rdAny b with
  | none => rw [ha] at h; cases h
  | some p =>
  obtain ⟨r', c'⟩ := p
  rw [ha] at h
  by_cases hok : okRc r' = true
  · simp only [hok, if_true, Option.some.injEq, Prod.mk.injEq] at h
    obtain ⟨rfl, rfl⟩ := h
    refine ⟨hok, ?_⟩
    unfold rdAny at ha
    cases h1 : rdT b with
    | none => rw [h1] at ha; cases ha
    | some p =>
    obtain ⟨id, b1⟩ := p
    rw [h1] at ha; simp only [Option.bind_eq_bind, Option.bind_some] at ha
    obtain ⟨e1, _⟩ := rdT_some hb h1; subst e1; have hb := (sub256 hb).2
    cases h2 : rdU b1 with
    | none => rw [h2] at ha; cases ha
    | some p =>
    obtain ⟨t, b2⟩ := p
    rw [h2] at ha; simp only [Option.bind_some] at ha
    obtain ⟨e2, _⟩ := rdU_some hb h2; subst e2; have hb := (sub256 hb).2
    match b2, ha, hb with
    | [], ha, _ => cases ha
    | c0 :: b3, ha, hb =>
      simp only at ha
      by_cases hc : 1 < c0
      · rw [if_pos hc] at ha; cases ha
      rw [if_neg hc] at ha
      by_cases hc1 : c0 = 1
      · rw [if_pos hc1] at ha
        simp only [Option.some.injEq, Prod.mk.injEq] at ha
        obtain ⟨rfl, rfl⟩ := ha
        simp [rcB, ib, hc1]
      · rw [if_neg hc1] at ha
        obtain ⟨k1, k2, k3, k4⟩ := rdD_some (fun z hz => hb z (List.mem_cons_of_mem _ hz)) ha
        have e0 : c0 = 0 := by omega
        subst e0
        unfold rcB
        rw [k1, k2, k3, k4]
        simp [ib]
  · simp [hok] at h
end
end Go.Proofs.YtelkijiphhoacaaDoor

/- What memory holds: blocks, what stays, bytes in slices, texts; rows of bytes of one's own and what is appended to them. -/
namespace Go.Proofs.YtelkijiphhoacaaDoor
open Go Go.RowKit

theorem hid {p : Prop} (h : p) : Hid p := h
def u8 (k : Nat) : Value := .int .u8 (k : Int)
abbrev ptr (p : Nat) : Value := .pointer (some ⟨p, 0, none⟩)
abbrev i64 (k : Int) : Value := .int .i64 k
theorem under9 : Tryd.prog.underlying 9 = some .string := by kernel_rfl
theorem Tryd.info5 : (Tryd.prog.info? 5).map (fun i => (i.zero, i.size, i.bytes)) = some (some (.int .u8 0), 1, 1) := by kernel_rfl
theorem add_zero' (a : Addr) : a.add 0 = a := by simp [Addr.add]
theorem add_none (b o n : Nat) : (⟨b, o, none⟩ : Addr).add n = ⟨b, o + n, none⟩ := by unfold Addr.add; split <;> simp_all

/-- Block b has these cells, none of them frozen. -/
def CAt (w : World) (b : Nat) (cs : Array Value) (t : TypeId) : Prop := w.heap[b]? = some (.cells cs t (0, 0))
theorem CAt.lt {w : World} {b : Nat} {cs : Array Value} {t : TypeId} (h : CAt w b cs t) : b < w.heap.size := (Array.getElem?_eq_some_iff.1 h).1
theorem CAt.cell {w : World} {b : Nat} {cs : Array Value} {t : TypeId} (h : CAt w b cs t) (i : Nat) : w.cell? ⟨b, i, none⟩ = cs[i]? := by
  simp [World.cell?, show w.heap[b]? = _ from h]
theorem CAt.free {w : World} {b : Nat} {cs : Array Value} {t : TypeId} (h : CAt w b cs t) (i : Nat) : w.frozen? ⟨b, i, none⟩ = false := by
  simp [World.frozen?, show w.heap[b]? = _ from h]
theorem CAt.set {w : World} {b : Nat} {cs : Array Value} {t : TypeId} (h : CAt w b cs t) (i : Nat) (v : Value) : CAt (w.setCell ⟨b, i, none⟩ v) b (cs.setIfInBounds i v) t := by
  unfold CAt at *
  simp [World.setCell, Array.getElem?_modify, h]
theorem CAt.keep {w w' : World} {b : Nat} {cs : Array Value} {t : TypeId} (h : CAt w b cs t) (e : w'.heap[b]? = w.heap[b]?) : CAt w' b cs t := e.trans h
theorem CAt.made (w : World) (cs : Array Value) (t : TypeId) : CAt (w.alloc (.cells cs t)) w.heap.size cs t := (MapKept.heap_alloc w _).1
theorem CAt.below {w w' : World} {b : Nat} {cs : Array Value} {t : TypeId} (h : CAt w b cs t) (hb : Below w.heap.size w w') : CAt w' b cs t := h.keep (hb.block b h.lt)
theorem heap_setCell_ne (w : World) (a : Addr) (v : Value) (b : Nat) (h : b ≠ a.block) : (w.setCell a v).heap[b]? = w.heap[b]? := RowKit.Below.heap_setCell _ _ _ _ h
theorem setCell_size (w : World) (a : Addr) (v : Value) : (w.setCell a v).heap.size = w.heap.size := by
  unfold World.setCell; split <;> simp
theorem size_al (w : World) (o : Obj) : (w.alloc o).heap.size = w.heap.size + 1 := by simp
theorem heap_alloc_old (w : World) (o : Obj) {b : Nat} (h : b < w.heap.size) : (w.alloc o).heap[b]? = w.heap[b]? := (MapKept.heap_alloc w o).2 b h
theorem below_al (w : World) (o : Obj) : Below w.heap.size w (w.alloc o) := (Below.refl _ _).alloc (Nat.le_refl _) _
theorem below_on {w0 : World} {w w' : World} (h : Below w0.heap.size w0 w) (hb : Below w.heap.size w w') : Below w0.heap.size w0 w' :=
  ⟨hb.os.trans h.os, hb.tape.trans h.tape, hb.output.trans h.output, Nat.le_trans h.size hb.size, fun k hk => (hb.block k (Nat.lt_of_lt_of_le hk h.size)).trans (h.block k hk)⟩
theorem cell_lt' {w : World} {a : Addr} (h : w.cell? a ≠ none) : a.block < w.heap.size := by
  rcases Nat.lt_or_ge a.block w.heap.size with h1 | h1
  · exact h1
  · exact absurd (by simp [World.cell?, Array.getElem?_eq_none h1]) h

/-- Of what was there nothing has turned but blocks of S. -/
structure Only (S : Nat → Prop) (w w' : World) : Prop where
  os : w'.os = w.os
  tape : w'.tape = w.tape
  output : w'.output = w.output
  size : w.heap.size ≤ w'.heap.size
  block : ∀ k, k < w.heap.size → ¬ S k → w'.heap[k]? = w.heap[k]?
theorem Only.refl (S : Nat → Prop) (w : World) : Only S w w := ⟨rfl, rfl, rfl, Nat.le_refl _, fun _ _ _ => rfl⟩
theorem Only.trans {S : Nat → Prop} {a b c : World} (h : Only S a b) (k : Only S b c) : Only S a c :=
  ⟨k.os.trans h.os, k.tape.trans h.tape, k.output.trans h.output, Nat.le_trans h.size k.size, fun i hi hs => (k.block i (Nat.lt_of_lt_of_le hi h.size) hs).trans (h.block i hi hs)⟩
theorem Only.then {S T : Nat → Prop} {a b c : World} (h : Only S a b) (k : Only T b c) (hT : ∀ i, i < a.heap.size → T i → S i) : Only S a c :=
  ⟨k.os.trans h.os, k.tape.trans h.tape, k.output.trans h.output, Nat.le_trans h.size k.size, fun i hi hs => (k.block i (Nat.lt_of_lt_of_le hi h.size) (fun ht => hs (hT i hi ht))).trans (h.block i hi hs)⟩
theorem Only.mono {S T : Nat → Prop} {a b : World} (h : Only S a b) (hS : ∀ i, S i → T i) : Only T a b := ⟨h.os, h.tape, h.output, h.size, fun i hi hs => h.block i hi fun k => hs (hS i k)⟩
theorem Only.of_below {S : Nat → Prop} {a b : World} (h : Below a.heap.size a b) : Only S a b := ⟨h.os, h.tape, h.output, h.size, fun i hi _ => h.block i hi⟩
theorem Only.below {S : Nat → Prop} {a b : World} {B : Nat} (h : Only S a b) (hB : B ≤ a.heap.size) (hS : ∀ i, S i → B ≤ i) : Below B a b :=
  ⟨h.os, h.tape, h.output, h.size, fun i hi => h.block i (by omega) fun k => by have := hS i k; omega⟩
theorem Only.of_grown {S : Nat → Prop} {a b : World} {r : Option Nat} (h : a.grownBy b r) (hr : ∀ k, r = some k → k < a.heap.size → S k) : Only S a b :=
  ⟨h.os, h.tape, h.output, h.size, fun i hi hs => h.block i hi fun e => hs (hr i e.symm hi)⟩
theorem Only.set {S : Nat → Prop} (w : World) (a : Addr) (v : Value) (h : S a.block) : Only S w (w.setCell a v) := by
  exact ⟨rfl, rfl, rfl, Nat.le_of_eq (setCell_size w a v).symm, fun k _ hk => heap_setCell_ne _ _ _ _ fun e => hk (e ▸ h)⟩
theorem Only.alloc {S : Nat → Prop} (w : World) (o : Obj) : Only S w (w.alloc o) := Only.of_grown (World.grownBy_alloc w o none) (by simp)
theorem below_grown {B : Nat} {w w1 w2 : World} {r : Option Nat} (h : Below B w w1) (hg : w1.grownBy w2 r) (hB : B ≤ w.heap.size) (hr : ∀ b, r = some b → B ≤ b) : Below B w w2 :=
  ⟨hg.os.trans h.os, hg.tape.trans h.tape, hg.output.trans h.output, Nat.le_trans h.size hg.size, fun k hk => (hg.block k (by have := h.size; omega) fun e => by have := hr k e.symm; omega).trans (h.block k hk)⟩
theorem below_tr {B : Nat} {w w1 w2 : World} (h : Below B w w1) (k : Below B w1 w2) : Below B w w2 :=
  ⟨k.os.trans h.os, k.tape.trans h.tape, k.output.trans h.output, Nat.le_trans h.size k.size, fun i hi => (k.block i hi).trans (h.block i hi)⟩
theorem below_less {B C : Nat} {w w1 : World} (h : Below B w w1) (hC : C ≤ B) : Below C w w1 := ⟨h.os, h.tape, h.output, h.size, fun i hi => h.block i (by omega)⟩
theorem ownsRow_keep {w w' : World} {B e n s : Nat} {v : Value} {xs : List Value} (h : w.ownsRow B e s v n xs) (hk : ∀ b, v.ownBlock = some b → w'.heap[b]? = w.heap[b]?) : w'.ownsRow B e s v n xs := by
  obtain ⟨h1, h2⟩ := h
  refine ⟨h1, ?_⟩
  rcases h2 with h2 | ⟨g, cap, cur, rfl, hB, hb, r⟩
  · exact Or.inl h2
  · exact Or.inr ⟨g, cap, cur, rfl, hB, (hk g rfl).trans hb, r⟩
theorem own_form {w : World} {B e sz n : Nat} {v : Value} {xs : List Value} (h : w.ownsRow B e sz v n xs) : ∃ po cc, v = .slice po n cc := by
  rcases h.2 with ⟨rfl, rfl⟩ | ⟨g, cap, cur, rfl, _⟩
  · exact ⟨_, _, rfl⟩
  · exact ⟨_, _, rfl⟩
theorem own_ge {w : World} {B e sz n : Nat} {v : Value} {xs : List Value} (h : w.ownsRow B e sz v n xs) : ∀ b, v.ownBlock = some b → B ≤ b ∧ b < w.heap.size := fun b hb => World.ownsRow.lt h b hb
theorem own_base {w : World} {B B2 e sz n : Nat} {v : Value} {xs : List Value} (h : w.ownsRow B e sz v n xs) (hB : B2 ≤ B) : w.ownsRow B2 e sz v n xs := by
  refine ⟨h.1, ?_⟩
  rcases h.2 with h2 | ⟨g, cap, cur, rfl, hb, r⟩
  · exact Or.inl h2
  · exact Or.inr ⟨g, cap, cur, rfl, Nat.le_trans hB hb, r⟩

/-- A text's bytes. -/
def lst (s : ByteArray) : List Nat := s.data.toList.map UInt8.toNat
theorem lst_len (s : ByteArray) : (lst s).length = s.size := by unfold lst; rw [List.length_map, Array.length_toList]; rfl
theorem lst_lt (s : ByteArray) : ∀ x ∈ lst s, x < 256 := fun x hx => by
  obtain ⟨c, _, rfl⟩ := List.mem_map.1 hx; exact c.toNat_lt
theorem lst_inj {s t : ByteArray} (h : lst s = lst t) : s = t := by
  have : s.data.toList = t.data.toList := by
    unfold lst at h
    exact (List.map_inj_right (f := UInt8.toNat) (fun x y e => UInt8.toNat_inj.1 e)).1 h
  cases s; cases t; simp at this; rw [this]
def ba (l : List Nat) : ByteArray := strOfNums (l.map fun (k : Nat) => (k : Int))
theorem lst_ba {l : List Nat} (h : ∀ x ∈ l, x < 256) : lst (ba l) = l := by
  unfold lst ba
  rw [strOfNums_data, List.map_map, List.map_map]
  refine (List.map_congr_left fun x hx => ?_).trans (List.map_id l)
  have := h x hx
  simp only [Function.comp_apply, Int.toNat_natCast, id_eq]
  rw [UInt8.toNat_ofNat']; omega
theorem strCells_lst (s : ByteArray) : Lib.strCells s = (lst s).map u8 := by simp [Lib.strCells, lst, u8, Function.comp_def]
theorem lst_nil : lst ⟨#[]⟩ = [] := rfl
theorem lst_beq (s t : ByteArray) : (s.toList == t.toList) = decide (lst s = lst t) := by
  rw [ByteArray.toList_eq, ByteArray.toList_eq]
  by_cases h : lst s = lst t
  · have := lst_inj h; subst this; simp
  · have : s.data.toList ≠ t.data.toList := fun e => h (by unfold lst; rw [e])
    rw [decide_eq_false h]
    exact Bool.eq_false_iff.2 fun e => this (eq_of_beq e)

/-- The slice leads to the bytes bs. -/
def BL (w : World) (po : Option Addr) (bs : List Nat) : Prop := bs = [] ∨ ∃ b o, po = some ⟨b, o, none⟩ ∧ ∀ i, i < bs.length → w.cell? ⟨b, o + i, none⟩ = some (u8 (bs.getD i 0))
theorem BL.keep {w w' : World} {po : Option Addr} {bs : List Nat} (h : BL w po bs) (hk : ∀ a, w.cell? a ≠ none → w'.cell? a = w.cell? a) : BL w' po bs := by
  rcases h with h | ⟨b, o, rfl, h⟩
  · exact Or.inl h
  · exact Or.inr ⟨b, o, rfl, fun i hi => (hk _ (by rw [h i hi]; simp)).trans (h i hi)⟩
theorem BL.below {w w' : World} {po : Option Addr} {bs : List Nat} (h : BL w po bs) (hb : Below w.heap.size w w') : BL w' po bs :=
  h.keep fun a ha => World.cell?_of_block (hb.block a.block (cell_lt' ha))
theorem BL.onlyAt {w w' : World} {po : Option Addr} {bs : List Nat} {S : Nat → Prop} (h : BL w po bs) (ho : Only S w w') (hS : bs ≠ [] → ∀ a, po = some a → ¬ S a.block) : BL w' po bs := by
  rcases h with h | ⟨b, o, rfl, h⟩
  · exact Or.inl h
  · refine Or.inr ⟨b, o, rfl, fun i hi => ?_⟩
    have hne : bs ≠ [] := fun e => by subst e; simp at hi
    have hc := h i hi
    exact (World.cell?_of_block (ho.block b (cell_lt' (a := ⟨b, o + i, none⟩) (by rw [hc]; simp)) (hS hne _ rfl))).trans hc
theorem BL.nil (w : World) (po : Option Addr) : BL w po [] := Or.inl rfl
theorem BL.conv {w : World} {po : Option Addr} {bs : List Nat} (h : BL w po bs) (c : Nat) : (convert 29 9 (.slice po bs.length c)).run Tryd.prog w = .ok (.string (ba bs)) w := by
  rcases h with rfl | ⟨b, o, rfl, h⟩
  · rw [run_convert_bytes_string w 29 9 5 _ _ c Tryd.underlying29 Tryd.underlying5 Tryd.underlying9]
    cases po <;> simp [Conv.bytesToString, loadCells, ba]
    all_goals rfl
  · exact run_convert_bytes_arg w 29 5 Tryd.underlying29 Tryd.underlying5 b o bs.length c _ (by simp) (fun i hi => by rw [h i hi]; simp [List.getD, hi, u8]) 9 Tryd.underlying9
theorem getD_drop (bs : List Nat) (n i : Nat) : (bs.drop n).getD i 0 = bs.getD (n + i) 0 := by simp [List.getD]
theorem getD_take {bs : List Nat} {n i : Nat} (h : i < n) : (bs.take n).getD i 0 = bs.getD i 0 := by simp [List.getD, h]
theorem BL.drop {w : World} {b o : Nat} {bs : List Nat} (h : BL w (some ⟨b, o, none⟩) bs) (n : Nat) : BL w (some ⟨b, o + n, none⟩) (bs.drop n) := by
  rcases h with rfl | ⟨b', o', e, h⟩
  · exact Or.inl (by simp)
  · cases e
    refine Or.inr ⟨b, o + n, rfl, fun i hi => ?_⟩
    rw [List.length_drop] at hi
    rw [getD_drop, show o + n + i = o + (n + i) by omega]
    exact h (n + i) (by omega)
theorem BL.take {w : World} {po : Option Addr} {bs : List Nat} (h : BL w po bs) (n : Nat) : BL w po (bs.take n) := by
  rcases h with rfl | ⟨b, o, rfl, h⟩
  · exact Or.inl (by simp)
  · refine Or.inr ⟨b, o, rfl, fun i hi => ?_⟩
    rw [List.length_take] at hi
    rw [getD_take (by omega)]
    exact h i (by omega)
/-- Bytes in a row of their own. -/
def Buf (B : Nat) (w : World) (v : Value) (L : List Nat) : Prop := w.ownsRow B 5 1 v L.length (L.map u8)
theorem Buf.nil (B : Nat) (w : World) : Buf B w (.slice none 0 0) [] := World.ownsRow_nil w B 5 1
theorem Buf.form {B : Nat} {w : World} {v : Value} {L : List Nat} (h : Buf B w v L) : ∃ po cc, v = .slice po L.length cc := own_form h
theorem Buf.below {B : Nat} {w w' : World} {v : Value} {L : List Nat} (h : Buf B w v L) (hb : Below w.heap.size w w') : Buf B w' v L :=
  ownsRow_keep h fun b hv => hb.block b (own_ge h b hv).2
theorem Buf.bl {B : Nat} {w : World} {po : Option Addr} {n c : Nat} {L : List Nat} (h : Buf B w (.slice po n c) L) : BL w po L := by
  rcases h.2 with ⟨e, h0⟩ | ⟨g, cap, cur, e, _, hg, h1, _, h3, h4⟩
  · exact Or.inl (List.eq_nil_of_length_eq_zero h0)
  · cases e
    refine Or.inr ⟨g, 0, rfl, fun i hi => ?_⟩
    have hc : CAt w g cur 5 := hg
    rw [Nat.zero_add, hc.cell]
    have := congrArg (fun l => l[i]?) h4
    simp [hi] at this
    rw [this]
    simp [u8, List.getD, List.getElem?_eq_getElem hi]
/-- append(v, b...), the bytes anywhere. -/
theorem Buf.app {B : Nat} {w : World} {v : Value} {L : List Nat} (hv : Buf B w v L) (po : Option Addr) (c : Nat) (bs : List Nat) (hb : BL w po bs) (hc : po = none → c = 0) (hn : L.length + bs.length ≤ 2000000) (hB : B ≤ w.heap.size) :
    ∃ v' w', (Builtin.append_ #[29, 29] 29 #[v, .slice po bs.length c]).run Tryd.prog w = .ok v' w' ∧ Buf B w' v' (L ++ bs) ∧ w.grownBy w' v.ownBlock := by
  obtain ⟨i0, hi0, hz0, hz1, hz2⟩ := info_parts Tryd.info5
  cases po with
  | none =>
    have : bs = [] := by rcases hb with h | ⟨b, o, h, _⟩
                         · exact h
                         · cases h
    subst this
    obtain rfl := hc rfl
    refine ⟨v, w, run_append_owned_none (P := Tryd.prog) (w := w) B 29 29 5 i0 1 Tryd.underlying29 hi0 v _ _ hv, by simpa using hv, ⟨rfl, rfl, rfl, Nat.le_refl _, fun _ _ _ => rfl⟩⟩
  | some a =>
    obtain ⟨v', w', hr, h2, h3, _, _⟩ := run_append_own_at (P := Tryd.prog) w B 29 29 5 i0 (.int .u8 0) 1 1 Tryd.underlying29 hi0 hz0 hz1 hz2 rfl (by decide) v L.length (L.map u8) hv a bs.length c (bs.map u8) (by simp) (fun j u hj => by
        have hjl : j < bs.length := by
          rcases Nat.lt_or_ge j bs.length with q | q
          · exact q
          · rw [List.getElem?_eq_none (by simpa using q)] at hj; cases hj
        have e : u = u8 (bs.getD j 0) := by simp [hjl] at hj; rw [← hj]; simp [List.getD, hjl]
        rcases hb with h | ⟨b, o, e2, h⟩
        · subst h; simp at hjl
        · cases e2
          rw [add_none, e]; exact h j hjl) (by intro u hu; simp at hu; obtain ⟨k, _, rfl⟩ := hu; rfl) (by unfold maxLen; omega) (by omega) hB
    refine ⟨v', w', hr, ?_, h3⟩
    unfold Buf; rw [List.length_append, List.map_append]; exact h2
/-- append(v, x), the value laid in a new block first. -/
theorem Buf.push {B : Nat} {w : World} {v : Value} {L : List Nat} (hv : Buf B w v L) (k : Nat) (hn : L.length + 1 ≤ 2000000) (hB : B ≤ w.heap.size) :
    ∃ v' w', (Builtin.append_ #[29, 29] 29 #[v, .slice (some ⟨w.heap.size, 0, none⟩) 1 1]).run Tryd.prog (w.alloc (.cells #[u8 k] 5)) = .ok v' w' ∧ Buf B w' v' (L ++ [k]) ∧ Below B w w' := by
  have h2 := hv.below (below_al w (.cells #[u8 k] 5))
  have hc : CAt (w.alloc (.cells #[u8 k] 5)) w.heap.size #[u8 k] 5 := CAt.made w _ _
  obtain ⟨v', w', h3, h4, h5⟩ := h2.app (some ⟨w.heap.size, 0, none⟩) 1 [k] (Or.inr ⟨w.heap.size, 0, rfl, fun i hi => by
    have : i = 0 := by simpa using hi
    subst this; rw [Nat.zero_add, hc.cell]; rfl⟩) (by simp) (by simpa using hn) (by rw [size_al]; omega)
  exact ⟨v', w', h3, h4, below_grown (below_less (below_al w _) hB) h5 hB fun b hb => (own_ge h2 b hb).1⟩
end Go.Proofs.YtelkijiphhoacaaDoor

/- errors.Is of two errors of errors.New; told. -/
namespace Go.Proofs.YtelkijiphhoacaaDoor
open Go Go.RowKit Go.Extern.Stop Go.Stop Go.Extern

abbrev eV (a : Addr) : Value := .iface 156 (.pointer (some a))
theorem callTypeOf (v : Value) (w : World) : (callFunc 69 #[.iface 156 v]).run Tryd.prog w = .ok (.value (.iface 134 (.agg #[.pointer (some ⟨2, 156, none⟩)]))) w := by
  rw [run_callFunc_extern (e := Extern.ReflectliteType.typeOf) Tryd.func69 (by kernel_rfl) (by kernel_rfl) (by kernel_rfl) (by kernel_rfl)]
  have h : (Extern.ReflectliteType.typeOf #[.iface 156 v]).run Tryd.prog w = .ok (.iface 134 (.agg #[.pointer (some ⟨2, 156, none⟩)])) w := by kernel_rfl
  rw [h]; rfl
theorem callComparable (w : World) : (callFunc 110 #[.agg #[.pointer (some ⟨2, 156, none⟩)]]).run Tryd.prog w = .ok (.value (.bool true)) w := by
  rw [run_callFunc_extern (e := Extern.ReflectliteType.method fun t => do Rtype.noPackHeld "Comparable" t; pure (.bool (← typeInfo t).comparable)) Tryd.func110 (by kernel_rfl) (by kernel_rfl) (by kernel_rfl) (by kernel_rfl)]
  have h : ((Extern.ReflectliteType.method fun t => do Rtype.noPackHeld "Comparable" t; pure (.bool (← typeInfo t).comparable)) #[.agg #[.pointer (some ⟨2, 156, none⟩)]]).run Tryd.prog w = .ok (.bool true) w := by kernel_rfl
  rw [h]; rfl
theorem isComp : (Tryd.prog.info? 156).map (·.comparable) = some true := by kernel_rfl
theorem isSize : (Tryd.prog.info? 179).map (·.size) = some 1 := by kernel_rfl
theorem noIs (v : Value) (xT : TypeId) (w : World) : (Instr.typeAssert (.iface 156 v) xT 136 true).run Tryd.prog w = .ok (.tuple #[.nilIface, .bool false]) w := run_typeAssert_lacksB Tryd.underlying136 (by kernel_rfl) (by kernel_rfl) v xT w
theorem noUnwrap (v : Value) (xT : TypeId) (w : World) : (Instr.typeAssert (.iface 156 v) xT 139 true).run Tryd.prog w = .ok (.tuple #[.nilIface, .bool false]) w := run_typeAssert_lacksB Tryd.underlying139 (by kernel_rfl) (by kernel_rfl) v xT w
theorem noUnwraps (v : Value) (xT : TypeId) (w : World) : (Instr.typeAssert (.iface 156 v) xT 141 true).run Tryd.prog w = .ok (.tuple #[.nilIface, .bool false]) w := run_typeAssert_lacksB Tryd.underlying141 (by kernel_rfl) (by kernel_rfl) v xT w
theorem isMethod (v : Value) (w : World) : (Go.method 291 134 v "Comparable").run Tryd.prog w = .ok (110, v) w := by kernel_rfl
set_option maxRecDepth 100000 in
set_option maxHeartbeats 1000000 in
theorem is_same (a : Addr) (w : World) : Calls Tryd.prog 56 #[eV a, eV a] w fun e w' => e = .returned (.bool true) ∧ w' = w := by
  obtain ⟨i, hi, hcmp⟩ := Option.map_eq_some_iff.1 isComp
  obtain ⟨j, hj, hjs⟩ := Option.map_eq_some_iff.1 isSize
  have tT := callTypeOf
  have cT := callComparable
  have mR := isMethod
  have heq := run_eql_iface_ptr_same (P := Tryd.prog) w a Tryd.underlying81 Tryd.underlying156 hi hcmp hj
  go_enter Tryd.func56, Tryd.ntmps56
  go_wp2
  refine wp_loop_rounds 1 ?_
  rw [rounds_succ]
  go_wp2
  go_ret
  exact ⟨rfl, rfl⟩
set_option maxRecDepth 100000 in
set_option maxHeartbeats 1000000 in
theorem is_other (a b : Addr) (ca cb : Array Value) (ta tb : TypeId) (w : World) (hne : a ≠ b) (ha : w.heap[a.block]? = some (.cells ca ta (0, 0))) (hb : w.heap[b.block]? = some (.cells cb tb (0, 0))) : Calls Tryd.prog 56 #[eV a, eV b] w fun e w' => e = .returned (.bool false) ∧ w' = w := by
  obtain ⟨i, hi, hcmp⟩ := Option.map_eq_some_iff.1 isComp
  obtain ⟨j, hj, hjs⟩ := Option.map_eq_some_iff.1 isSize
  have tT := callTypeOf
  have cT := callComparable
  have mR := isMethod
  have nE := noIs
  have uE := noUnwrap
  have vE := noUnwraps
  have heq := run_eql_iface_ptr_other (P := Tryd.prog) w Tryd.underlying81 Tryd.underlying156 hi hcmp hj (by rw [hjs]; decide) hne ha hb
  go_enter Tryd.func56, Tryd.ntmps56
  go_wp2
  refine wp_loop_rounds 1 ?_
  rw [rounds_succ]
  go_wp2
  go_ret
  exact ⟨rfl, rfl⟩
/-- The two errors of package journal, as start-up code lays them. -/
structure Ers (w : World) (a0 a1 : Addr) : Prop where
  c0 : w.cell? ⟨0, 0, none⟩ = some (eV a0)
  c1 : w.cell? ⟨1, 0, none⟩ = some (eV a1)
  ne : a1 ≠ a0
  r0 : ∃ ca ta, w.heap[a0.block]? = some (.cells ca ta (0, 0))
  r1 : ∃ ca ta, w.heap[a1.block]? = some (.cells ca ta (0, 0))
theorem Ers.below {w W : World} {a0 a1 : Addr} (h : Ers w a0 a1) (hb : Below w.heap.size w W) : Ers W a0 a1 where
  c0 := (World.cell?_of_block (hb.block _ (cell_lt' (by rw [h.c0]; simp)))).trans h.c0
  c1 := (World.cell?_of_block (hb.block _ (cell_lt' (by rw [h.c1]; simp)))).trans h.c1
  ne := h.ne
  r0 := by obtain ⟨ca, ta, e⟩ := h.r0; exact ⟨ca, ta, (hb.block _ (Array.getElem?_eq_some_iff.1 e).1).trans e⟩
  r1 := by obtain ⟨ca, ta, e⟩ := h.r1; exact ⟨ca, ta, (hb.block _ (Array.getElem?_eq_some_iff.1 e).1).trans e⟩
set_option maxRecDepth 100000 in
theorem told_turned (a0 a1 : Addr) (w : World) (h : Ers w a0 a1) : Calls Tryd.prog 33 #[eV a0] w fun e w' => e = .returned (i64 14) ∧ w' = w := by
  have c0 := h.c0
  clear h
  go_enter Tryd.func33, Tryd.ntmps33
  go_wp2_with (go_at_call 56; refine (is_same a0 _).mono ?_; rintro e w1 ⟨rfl, hw1⟩; have hw2 := hw1.symm; subst hw2)
  go_ret
  exact ⟨rfl, rfl⟩
set_option maxRecDepth 100000 in
theorem told_form (a0 a1 : Addr) (w : World) (h : Ers w a0 a1) : Calls Tryd.prog 33 #[eV a1] w fun e w' => e = .returned (i64 4) ∧ w' = w := by
  have c0 := h.c0
  have HE := hid h
  clear h
  go_enter Tryd.func33, Tryd.ntmps33
  go_wp2_with (go_at_call 56; obtain ⟨ca, ta, e0⟩ := HE.out.r0; obtain ⟨cb, tb, e1⟩ := HE.out.r1; refine (is_other a1 a0 cb ca tb ta _ HE.out.ne e1 e0).mono ?_; rintro e w1 ⟨rfl, hw1⟩; have hw2 := hw1.symm; subst hw2)
  go_ret
  exact ⟨rfl, rfl⟩
end Go.Proofs.YtelkijiphhoacaaDoor

/- What the row's two listed errors give: Ers. -/
namespace Go.Proofs.YtelkijiphhoacaaDoor
open Go Go.RowKit

theorem gForm : Tryd.prog.globalNamed "stowage/journal.errForm" = some 1 := by kernel_rfl
theorem gTurned : Tryd.prog.globalNamed "stowage/journal.errTurned" = some 0 := by kernel_rfl
theorem gFormT : (Tryd.prog.globals[1]?).map (·.type) = some 81 := by kernel_rfl
theorem gTurnedT : (Tryd.prog.globals[0]?).map (·.type) = some 81 := by kernel_rfl
theorem cellsEs : Tryd.prog.cellsOf 179 = 1 := by kernel_rfl
theorem cellsStr : Tryd.prog.cellsOf 9 = 1 := by kernel_rfl
theorem starEs : "*" ++ "errors.errorString" = "*errors.errorString" := by decide
theorem rowEs (u : TypeId) (h : Tryd.prog.typeName? 3 u = some "*errors.errorString") : u = 156 :=
  typeName_ptr_named (nm := "errors.errorString") (by rw [starEs]; kernel_rfl) (by kernel_rfl) (by decide) u (by rw [starEs]; exact h)
theorem ers_laid {W : World} (h : laidMetH Tryd.prog [("stowage/journal.errForm", Rows.laid_stowage_journal_errForm), ("stowage/journal.errTurned", Rows.laid_stowage_journal_errTurned)] W) : ∃ a0 a1, Ers W a0 a1 := by
  rw [Go.MakeChecks.laidMetH_plain _ _ _ (by kernel_rfl)] at h
  obtain ⟨a1, a0, s1, s0, c1, c0, t1, t0, hv1, hv0, hc1, hs1, hz1, hc0, hs0, hz0, hne, hb1, hb0⟩ := laid_sentinels2 h gForm gFormT gTurned gTurnedT Tryd.underlying81 rowEs Tryd.underlying156 Tryd.underlying179 rfl rfl Tryd.underlying9 cellsEs cellsStr
  exact ⟨a0, a1, ⟨by simpa using World.var?_cell gTurned hv0 0, by simpa using World.var?_cell gForm hv1 0, hne, ⟨_, _, hb0⟩, ⟨_, _, hb1⟩⟩⟩
end Go.Proofs.YtelkijiphhoacaaDoor
