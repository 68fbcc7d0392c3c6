/- Texts laid into one: the remark ahead of each part says what is proved there. -/
import Derived.WalkKit
import Derived.Test.YtepkpkbgmchioaaRows
import Derived.WalkSpells
import Derived.WalkLawsBesides
import Derived.OwnWalk
import Derived.Laws.Rows
import Derived.Laws.CopyOwn
import Derived.Laws.NewBlocks
import Derived.Laws.ResultCell
import Derived.Laws.BytesArg
import Derived.Laws.BytesString
import Derived.Laws.OwnMore
import Derived.Laws.AppendOwnNone
import Derived.Maps.AppendAt
import Derived.Lib.AppendStr
import Derived.Lib.SliceRun
import Derived.Laws.BitsAllLaws
import Derived.Deep.RegionHeld3
import Derived.Deep.QuietTactic
import Derived.Maps.OwnSet
/- Numbers and texts as bytes: mathematics alone. -/
namespace Go.Proofs.Ytepkpkbgmchioaa

/-- A number's bytes. -/
def nb (n : Nat) : List Nat := if n < 128 then [n] else (n % 128 + 128) :: nb (n / 128)
  termination_by n
  decreasing_by omega
theorem nb_lt {n : Nat} (h : n < 128) : nb n = [n] := by rw [nb, if_pos h]
theorem nb_ge {n : Nat} (h : ¬ n < 128) : nb n = (n % 128 + 128) :: nb (n / 128) := by rw [nb, if_neg h]
/-- A number of at most k bytes from the front. -/
def rdG : Nat → List Nat → Option (Nat × List Nat)
  | 0, _ => none
  | _ + 1, [] => none
  | k + 1, c :: r => if c < 128 then some (c, r) else match rdG k r with
    | some (n, r') => if n = 0 then none else some (c % 128 + 128 * n, r')
    | none => none
def rdU (b : List Nat) : Option (Nat × List Nat) := match rdG 6 b with
  | some (n, r) => if n ≤ 1099511627776 then some (n, r) else none
  | none => none
theorem nb_len : ∀ (k n : Nat), n < 128 ^ (k + 1) → (nb n).length ≤ k + 1
  | 0, n, h => by rw [nb_lt (by simpa using h)]; simp
  | k + 1, n, h => by
    by_cases hn : n < 128
    · rw [nb_lt hn]; simp
    · rw [nb_ge hn, List.length_cons]
      have := nb_len k (n / 128) (by rw [Nat.pow_succ] at h; exact Nat.div_lt_of_lt_mul (by rw [Nat.mul_comm]; exact h))
      omega
theorem nb_pos (n : Nat) : 1 ≤ (nb n).length := by
  by_cases hn : n < 128
  · rw [nb_lt hn]; simp
  · rw [nb_ge hn]; simp
theorem nb_ne (n : Nat) : nb n ≠ [] := fun e => by have := nb_pos n; rw [e] at this; simp at this
theorem nb_byte : ∀ (n : Nat), ∀ x ∈ nb n, x < 256 := fun n => by
  induction n using Nat.strongRecOn with
  | ind n ih =>
    intro x hx
    by_cases hn : n < 128
    · rw [nb_lt hn] at hx; simp at hx; omega
    · rw [nb_ge hn] at hx
      rcases List.mem_cons.1 hx with rfl | hx
      · omega
      · exact ih (n / 128) (by omega) x hx
theorem rdG_nb : ∀ (k n : Nat) (r : List Nat), n < 128 ^ (k + 1) → rdG (k + 1) (nb n ++ r) = some (n, r)
  | 0, n, r, h => by
    have h' : n < 128 := by simpa using h
    rw [nb_lt h']; simp [rdG, h']
  | k + 1, n, r, h => by
    by_cases hn : n < 128
    · rw [nb_lt hn]; simp [rdG, hn]
    · rw [nb_ge hn, List.cons_append]
      have := rdG_nb k (n / 128) r (by rw [Nat.pow_succ] at h; exact Nat.div_lt_of_lt_mul (by rw [Nat.mul_comm]; exact h))
      unfold rdG
      rw [if_neg (by omega), this]
      have h0 : ¬ n / 128 = 0 := by omega
      simp only [h0, if_false]
      congr 2
      omega
theorem rdG_some : ∀ {k : Nat} {b : List Nat} {n : Nat} {r : List Nat}, (∀ x ∈ b, x < 256) → rdG k b = some (n, r) → b = nb n ++ r ∧ n < 128 ^ k
  | 0, _, _, _, _, h => by simp [rdG] at h
  | _ + 1, [], _, _, _, h => by simp [rdG] at h
  | k + 1, c :: t, n, r, hb, h => by
    unfold rdG at h
    by_cases hc : c < 128
    · rw [if_pos hc] at h
      cases h
      exact ⟨by rw [nb_lt hc]; rfl, Nat.lt_of_lt_of_le hc (by rw [Nat.pow_succ]; have := Nat.pow_pos (n := k) (show 0 < 128 by omega); omega)⟩
    · rw [if_neg hc] at h
      cases hr : rdG k t with
      | none => rw [hr] at h; cases h
      | some p =>
        obtain ⟨m, t'⟩ := p
        rw [hr] at h
        by_cases hm : m = 0
        · simp [hm] at h
        · simp only [hm, if_false] at h
          cases h
          obtain ⟨h1, h2⟩ := rdG_some (fun x hx => hb x (List.mem_cons_of_mem _ hx)) hr
          have hc2 := hb c (List.mem_cons_self)
          refine ⟨?_, ?_⟩
          · rw [nb_ge (by omega), List.cons_append]
            have e1 : (c % 128 + 128 * m) % 128 + 128 = c := by omega
            have e2 : (c % 128 + 128 * m) / 128 = m := by omega
            rw [e1, e2, ← h1]
          · rw [Nat.pow_succ]; omega
theorem rdU_nb {n : Nat} (r : List Nat) (h : n ≤ 1099511627776) : rdU (nb n ++ r) = some (n, r) := by
  unfold rdU
  rw [rdG_nb 5 n r (by omega)]
  simp [h]
theorem rdU_some {b : List Nat} {n : Nat} {r : List Nat} (hb : ∀ x ∈ b, x < 256) (h : rdU b = some (n, r)) : b = nb n ++ r ∧ n ≤ 1099511627776 := by
  unfold rdU at h
  cases hr : rdG 6 b with
  | none => rw [hr] at h; cases h
  | some p =>
    obtain ⟨m, t⟩ := p
    rw [hr] at h
    by_cases hm : m ≤ 1099511627776
    · simp only [hm, if_true] at h
      cases h
      exact ⟨(rdG_some hb hr).1, hm⟩
    · simp [hm] at h
/-- A text's bytes. -/
def tb (s : List Nat) : List Nat := nb s.length ++ s
def rdT (b : List Nat) : Option (List Nat × List Nat) := match rdU b with
  | some (n, r) => if n ≤ 65536 ∧ n ≤ r.length then some (r.take n, r.drop n) else none
  | none => none
theorem rdT_tb {s : List Nat} (r : List Nat) (h : s.length ≤ 65536) : rdT (tb s ++ r) = some (s, r) := by
  unfold rdT tb
  rw [List.append_assoc, rdU_nb (s ++ r) (by omega)]
  simp [h]
theorem rdT_some {b s r : List Nat} (hb : ∀ x ∈ b, x < 256) (h : rdT b = some (s, r)) : b = tb s ++ r ∧ s.length ≤ 65536 := by
  unfold rdT at h
  cases hr : rdU b with
  | none => rw [hr] at h; cases h
  | some p =>
    obtain ⟨n, t⟩ := p
    rw [hr] at h
    by_cases hn : n ≤ 65536 ∧ n ≤ t.length
    · simp only [hn, and_self, if_true] at h
      cases h
      obtain ⟨h1, h2⟩ := rdU_some hb hr
      unfold tb
      rw [List.length_take, Nat.min_eq_left hn.2, List.append_assoc, List.take_append_drop]
      exact ⟨h1, hn.1⟩
    · simp [hn] at h
#print axioms rdT_some
end Go.Proofs.Ytepkpkbgmchioaa

/- Records as bytes: mathematics alone. -/
namespace Go.Proofs.Ytepkpkbgmchioaa

/-- A record. Texts are lists of bytes. -/
structure Rc where
  id : List Nat
  time : Int
  mark : Bool
  size : Int
  etag : List Nat
  k : Int
  m : Int
  data : List Nat
  sum : List Nat
  parts : List (Int × Int)
  up : List Nat
  deriving DecidableEq
def dgt (c : Nat) : Bool := decide (48 ≤ c) && decide (c ≤ 57)
def isOf (last : Nat) (dash : Bool) (c : Nat) : Bool := dgt c || (decide (97 ≤ c) && decide (c ≤ last)) || (dash && decide (c = 45))
def okOf (s : List Nat) (least most last : Nat) (dash : Bool) : Bool := s.all (isOf last dash) && decide (least ≤ s.length) && decide (s.length ≤ most)
def okId (s : List Nat) : Bool := okOf s 1 32 122 false
def okData (s : List Nat) : Bool := okOf s 32 32 102 false
def okTag (s : List Nat) : Bool := okOf s 1 40 102 true
def inR (n least most : Int) : Bool := decide (least ≤ n) && decide (n ≤ most)
def okPs : Int → List (Int × Int) → Bool
  | _, [] => true
  | last, p :: r => decide (last < p.1) && decide (p.1 ≤ 10000) && inR p.2 0 65536 && okPs p.1 r
def sumPs (l : List (Int × Int)) : Int := (l.map (·.2)).sum
def okParts (l : List (Int × Int)) (size : Int) : Bool := decide (l.length ≤ 32) && okPs 0 l && (l.isEmpty || decide (sumPs l = size))
def zeroD : List Nat := List.replicate 32 0
def okRc (r : Rc) : Bool := okId r.id && inR r.time 0 1048576 && (if r.mark then decide (r.size = 0) && r.etag.isEmpty && decide (r.k = 0) && decide (r.m = 0) && r.data.isEmpty && decide (r.sum = zeroD) && r.parts.isEmpty && r.up.isEmpty
  else inR r.size 0 65536 && okTag r.etag && inR r.k 1 15 && inR r.m 1 15 && decide (r.k + r.m ≤ 16) && okData r.data && okParts r.parts r.size && (r.up.isEmpty || okId r.up) && decide (r.sum.length = 32))
def ib (n : Int) : List Nat := nb n.toNat
def psB (l : List (Int × Int)) : List Nat := (l.map fun p => ib p.1 ++ ib p.2).flatten
def rcB (r : Rc) : List Nat := tb r.id ++ ib r.time ++ (if r.mark then [1] else [0] ++ ib r.size ++ tb r.etag ++ ib r.k ++ ib r.m ++ tb r.data ++ r.sum ++ nb r.parts.length ++ psB r.parts ++ tb r.up)
/-- So many pairs of numbers from the front. -/
def rdPs : Nat → List Nat → Option (List (Int × Int) × List Nat)
  | 0, b => some ([], b)
  | n + 1, b => do
    let (x, b) ← rdU b
    let (y, b) ← rdU b
    let (l, b) ← rdPs n b
    return (((x : Int), (y : Int)) :: l, b)
def rdD (id : List Nat) (t : Nat) (b : List Nat) : Option (Rc × List Nat) := do
  let (size, b) ← rdU b
  let (etag, b) ← rdT b
  let (k, b) ← rdU b
  let (m, b) ← rdU b
  let (data, b) ← rdT b
  if b.length < 32 then none else
  let (n, c) ← rdU (b.drop 32)
  if 32 < n then none else
  let (ps, c) ← rdPs n c
  let (up, c) ← rdT c
  return (⟨id, t, false, size, etag, k, m, data, b.take 32, ps, up⟩, c)
def rdAny (b : List Nat) : Option (Rc × List Nat) := do
  let (id, b) ← rdT b
  let (t, b) ← rdU b
  match b with
  | [] => none
  | c :: b => if 1 < c then none else if c = 1 then some (⟨id, t, true, 0, [], 0, 0, [], zeroD, [], []⟩, b) else rdD id t b
def rdR (b : List Nat) : Option (Rc × List Nat) := match rdAny b with
  | some (r, t) => if okRc r then some (r, t) else none
  | none => none
section
variable {b : List Nat}
theorem inR_iff {n least most : Int} : inR n least most = true ↔ least ≤ n ∧ n ≤ most := by simp [inR]
theorem ib_toNat {n : Int} (h : 0 ≤ n) : ((n.toNat : Nat) : Int) = n := Int.toNat_of_nonneg h
theorem okOf_len {s : List Nat} {a m l : Nat} {d : Bool} (h : okOf s a m l d = true) : a ≤ s.length ∧ s.length ≤ m := by simp [okOf] at h; omega
theorem rdPs_psB : ∀ {last : Int} {l : List (Int × Int)} (r : List Nat), 0 ≤ last → okPs last l = true → rdPs l.length (psB l ++ r) = some (l, r)
  | _, [], r, _, _ => by simp [rdPs, psB]
  | last, p :: t, r, h0, h => by
    simp [okPs, inR] at h
    obtain ⟨⟨⟨h1, h2⟩, h3, h4⟩, h5⟩ := h
    have e : psB (p :: t) ++ r = ib p.1 ++ (ib p.2 ++ (psB t ++ r)) := by simp [psB]
    rw [e]
    unfold ib
    show rdPs (t.length + 1) _ = _
    unfold rdPs
    rw [rdU_nb _ (by omega)]
    simp only [Option.bind_eq_bind, Option.bind_some]
    rw [rdU_nb _ (by omega)]
    simp only [Option.bind_some]
    rw [rdPs_psB r (by omega) h5]
    simp only [Option.bind_some, Option.pure_def, Option.some.injEq, Prod.mk.injEq, List.cons.injEq, and_true]
    obtain ⟨x, y⟩ := p
    simp only at *
    rw [ib_toNat (by omega), ib_toNat (by omega)]
theorem rdAny_rcB {r : Rc} (t : List Nat) (h : okRc r = true) : rdAny (rcB r ++ t) = some (r, t) := by
  obtain ⟨id, time, mark, size, etag, k, m, data, sum, parts, up⟩ := r
  cases mark with
  | true =>
    simp [okRc] at h
    obtain ⟨⟨h1, h2⟩, ⟨⟨⟨⟨⟨⟨⟨rfl, rfl⟩, rfl⟩, rfl⟩, rfl⟩, rfl⟩, rfl⟩, rfl⟩⟩ := h
    rw [inR_iff] at h2
    have hl := okOf_len h1
    have e : rcB ⟨id, time, true, 0, [], 0, 0, [], zeroD, [], []⟩ ++ t = tb id ++ (ib time ++ (1 :: t)) := by simp [rcB]
    rw [e]
    unfold rdAny ib
    rw [rdT_tb _ (by omega)]
    simp only [Option.bind_eq_bind, Option.bind_some]
    rw [rdU_nb _ (by omega)]
    simp only [Option.bind_some, ib_toNat h2.1]
    simp
  | false =>
    simp [okRc, okParts, inR_iff] at h
    obtain ⟨⟨h1, h2⟩, ⟨⟨⟨⟨⟨⟨⟨⟨h3, h4⟩, h5⟩, h6⟩, h7⟩, h8⟩, ⟨h9, h10⟩, h11⟩, h12⟩, h13⟩⟩ := h
    have hl := okOf_len h1
    have hl4 := okOf_len h4
    have hl8 := okOf_len h8
    have hl12 : up.length ≤ 65536 := by
      rcases h12 with h | h
      · subst h; simp
      · have := okOf_len h; omega
    have e : rcB ⟨id, time, false, size, etag, k, m, data, sum, parts, up⟩ ++ t = tb id ++ (ib time ++ (0 :: (ib size ++ (tb etag ++ (ib k ++ (ib m ++ (tb data ++ (sum ++ (nb parts.length ++ (psB parts ++ (tb up ++ t))))))))))) := by simp [rcB]
    rw [e]
    unfold rdAny ib
    rw [rdT_tb _ (by omega)]
    simp only [Option.bind_eq_bind, Option.bind_some]
    rw [rdU_nb _ (by omega)]
    simp only [Option.bind_some]
    rw [if_neg (by omega), if_neg (by omega)]
    unfold rdD
    rw [rdU_nb _ (by omega)]
    simp only [Option.bind_eq_bind, Option.bind_some]
    rw [rdT_tb _ (by omega)]
    simp only [Option.bind_some]
    rw [rdU_nb _ (by omega)]
    simp only [Option.bind_some]
    rw [rdU_nb _ (by omega)]
    simp only [Option.bind_some]
    rw [rdT_tb _ (by omega)]
    simp only [Option.bind_some]
    rw [if_neg (by rw [List.length_append]; omega), show 32 = sum.length from h13.symm, List.drop_left, List.take_left, rdU_nb _ (by omega)]
    simp only [Option.bind_some]
    rw [if_neg (by omega), rdPs_psB _ (Int.le_refl 0) h10]
    simp only [Option.bind_some]
    rw [rdT_tb _ hl12]
    simp only [Option.bind_some, Option.pure_def]
    rw [ib_toNat h2.1, ib_toNat h3.1, ib_toNat (by omega), ib_toNat (by omega)]
theorem rdR_rcB {r : Rc} (t : List Nat) (h : okRc r = true) : rdR (rcB r ++ t) = some (r, t) := by
  unfold rdR; rw [rdAny_rcB t h]; simp [h]
theorem sub256 {x y : List Nat} (h : ∀ z ∈ x ++ y, z < 256) : (∀ z ∈ x, z < 256) ∧ ∀ z ∈ y, z < 256 := ⟨fun z hz => h z (List.mem_append_left _ hz), fun z hz => h z (List.mem_append_right _ hz)⟩
theorem rdPs_some : ∀ {n : Nat} {b c : List Nat} {l : List (Int × Int)}, (∀ z ∈ b, z < 256) → rdPs n b = some (l, c) → b = psB l ++ c ∧ l.length = n ∧ ∀ p ∈ l, 0 ≤ p.1 ∧ 0 ≤ p.2
  | 0, b, c, l, _, h => by simp [rdPs] at h; obtain ⟨rfl, rfl⟩ := h; simp [psB]
  | n + 1, b, c, l, hb, h => by
    unfold rdPs at h
    cases h1 : rdU b with
    | none => rw [h1] at h; cases h
    | some p =>
      obtain ⟨x, b1⟩ := p
      rw [h1] at h
      simp only [Option.bind_eq_bind, Option.bind_some] at h
      obtain ⟨e1, k1⟩ := rdU_some hb h1
      subst e1
      have hb1 := (sub256 hb).2
      cases h2 : rdU b1 with
      | none => rw [h2] at h; cases h
      | some p =>
        obtain ⟨y, b2⟩ := p
        rw [h2] at h
        simp only [Option.bind_some] at h
        obtain ⟨e2, k2⟩ := rdU_some hb1 h2
        subst e2
        have hb2 := (sub256 hb1).2
        cases h3 : rdPs n b2 with
        | none => rw [h3] at h; cases h
        | some p =>
          obtain ⟨l', b3⟩ := p
          rw [h3] at h
          simp only [Option.bind_some, Option.pure_def, Option.some.injEq, Prod.mk.injEq] at h
          obtain ⟨rfl, rfl⟩ := h
          obtain ⟨e3, k3, k4⟩ := rdPs_some hb2 h3
          refine ⟨?_, by simp [k3], fun p hp => ?_⟩
          · rw [e3]; simp [psB, ib]
          · rcases List.mem_cons.1 hp with rfl | hp
            · exact ⟨by simp, by simp⟩
            · exact k4 p hp
theorem rdD_some {id : List Nat} {t : Nat} {b c : List Nat} {r : Rc} (hb : ∀ z ∈ b, z < 256) (h : rdD id t b = some (r, c)) : r.id = id ∧ r.time = (t : Int) ∧ r.mark = false ∧ b = ib r.size ++ tb r.etag ++ ib r.k ++ ib r.m ++ tb r.data ++ r.sum ++ nb r.parts.length ++ psB r.parts ++ tb r.up ++ c := by
  unfold rdD at h
  cases h1 : rdU b with
  | none => rw [h1] at h; cases h
  | some p =>
  obtain ⟨size, b1⟩ := p
  rw [h1] at h; simp only [Option.bind_eq_bind, Option.bind_some] at h
  obtain ⟨e1, _⟩ := rdU_some hb h1; subst e1; have hb := (sub256 hb).2
  cases h2 : rdT b1 with
  | none => rw [h2] at h; cases h
  | some p =>
  obtain ⟨etag, b2⟩ := p
  rw [h2] at h; simp only [Option.bind_some] at h
  obtain ⟨e2, _⟩ := rdT_some hb h2; subst e2; have hb := (sub256 hb).2
  cases h3 : rdU b2 with
  | none => rw [h3] at h; cases h
  | some p =>
  obtain ⟨k, b3⟩ := p
  rw [h3] at h; simp only [Option.bind_some] at h
  obtain ⟨e3, _⟩ := rdU_some hb h3; subst e3; have hb := (sub256 hb).2
  cases h4 : rdU b3 with
  | none => rw [h4] at h; cases h
  | some p =>
  obtain ⟨m, b4⟩ := p
  rw [h4] at h; simp only [Option.bind_some] at h
  obtain ⟨e4, _⟩ := rdU_some hb h4; subst e4; have hb := (sub256 hb).2
  cases h5 : rdT b4 with
  | none => rw [h5] at h; cases h
  | some p =>
  obtain ⟨data, b5⟩ := p
  rw [h5] at h; simp only [Option.bind_some] at h
  obtain ⟨e5, _⟩ := rdT_some hb h5; subst e5; have hb := (sub256 hb).2
  by_cases hl : b5.length < 32
  · rw [if_pos hl] at h; cases h
  rw [if_neg hl] at h
  have hb6 : ∀ z ∈ b5.drop 32, z < 256 := fun z hz => hb z (List.mem_of_mem_drop hz)
  cases h6 : rdU (b5.drop 32) with
  | none => rw [h6] at h; cases h
  | some p =>
  obtain ⟨n, b6⟩ := p
  rw [h6] at h; simp only [Option.bind_some] at h
  obtain ⟨e6, _⟩ := rdU_some hb6 h6
  rw [e6] at hb6; have hb6 := (sub256 hb6).2
  by_cases hn : 32 < n
  · rw [if_pos hn] at h; cases h
  rw [if_neg hn] at h
  cases h7 : rdPs n b6 with
  | none => rw [h7] at h; cases h
  | some p =>
  obtain ⟨ps, b7⟩ := p
  rw [h7] at h; simp only [Option.bind_some] at h
  obtain ⟨e7, k7, _⟩ := rdPs_some hb6 h7; subst e7; have hb7 := (sub256 hb6).2
  cases h8 : rdT b7 with
  | none => rw [h8] at h; cases h
  | some p =>
  obtain ⟨up, b8⟩ := p
  rw [h8] at h; simp only [Option.bind_some, Option.pure_def, Option.some.injEq, Prod.mk.injEq] at h
  obtain ⟨e8, _⟩ := rdT_some hb7 h8; subst e8
  obtain ⟨rfl, rfl⟩ := h
  refine ⟨rfl, rfl, rfl, ?_⟩
  have e9 : b5 = b5.take 32 ++ (nb n ++ (psB ps ++ (tb up ++ b8))) := by rw [← e6, List.take_append_drop]
  subst k7
  simp only [ib, Int.toNat_natCast, List.append_assoc]
  rw [← e9]
theorem rdR_some {b c : List Nat} {r : Rc} (hb : ∀ z ∈ b, z < 256) (h : rdR b = some (r, c)) : okRc r = true ∧ b = rcB r ++ c := by
  unfold rdR at h
  cases ha : rdAny b with
  | none => rw [ha] at h; cases h
  | some p =>
  obtain ⟨r', c'⟩ := p
  rw [ha] at h
  by_cases hok : okRc r' = true
  · simp only [hok, if_true, Option.some.injEq, Prod.mk.injEq] at h
    obtain ⟨rfl, rfl⟩ := h
    refine ⟨hok, ?_⟩
    unfold rdAny at ha
    cases h1 : rdT b with
    | none => rw [h1] at ha; cases ha
    | some p =>
    obtain ⟨id, b1⟩ := p
    rw [h1] at ha; simp only [Option.bind_eq_bind, Option.bind_some] at ha
    obtain ⟨e1, _⟩ := rdT_some hb h1; subst e1; have hb := (sub256 hb).2
    cases h2 : rdU b1 with
    | none => rw [h2] at ha; cases ha
    | some p =>
    obtain ⟨t, b2⟩ := p
    rw [h2] at ha; simp only [Option.bind_some] at ha
    obtain ⟨e2, _⟩ := rdU_some hb h2; subst e2; have hb := (sub256 hb).2
    match b2, ha, hb with
    | [], ha, _ => cases ha
    | c0 :: b3, ha, hb =>
      simp only at ha
      by_cases hc : 1 < c0
      · rw [if_pos hc] at ha; cases ha
      rw [if_neg hc] at ha
      by_cases hc1 : c0 = 1
      · rw [if_pos hc1] at ha
        simp only [Option.some.injEq, Prod.mk.injEq] at ha
        obtain ⟨rfl, rfl⟩ := ha
        simp [rcB, ib, hc1]
      · rw [if_neg hc1] at ha
        obtain ⟨k1, k2, k3, k4⟩ := rdD_some (fun z hz => hb z (List.mem_cons_of_mem _ hz)) ha
        have e0 : c0 = 0 := by omega
        subst e0
        unfold rcB
        rw [k1, k2, k3, k4]
        simp [ib]
  · simp [hok] at h
/-- No record's bytes are the beginning of another one's. -/
theorem rcB_pre {a c : Rc} {t : List Nat} (ha : okRc a = true) (hc : okRc c = true) (h : rcB c = rcB a ++ t) : a = c ∧ t = [] := by
  have h1 := rdR_rcB t ha
  have h2 := rdR_rcB [] hc
  rw [List.append_nil, h, h1] at h2
  simp only [Option.some.injEq, Prod.mk.injEq] at h2
  exact h2
theorem rdR_less {a : Rc} (ha : okRc a = true) (hb : ∀ z ∈ rcB a, z < 256) {i : Nat} (hi : i < (rcB a).length) : rdR ((rcB a).take i) = none := by
  cases h : rdR ((rcB a).take i) with
  | none => rfl
  | some p =>
    exfalso
    obtain ⟨r, c⟩ := p
    obtain ⟨hok, e⟩ := rdR_some (fun z hz => hb z (List.mem_of_mem_take hz)) h
    have e2 : rcB a = rcB r ++ (c ++ (rcB a).drop i) := by rw [← List.append_assoc, ← e, List.take_append_drop]
    obtain ⟨_, e3⟩ := rcB_pre hok ha e2
    have e4 := (List.append_eq_nil_iff.1 e3).2
    have : ((rcB a).drop i).length = 0 := by rw [e4]; rfl
    rw [List.length_drop] at this; omega
end
#print axioms rdR_some
#print axioms rdR_less
end Go.Proofs.Ytepkpkbgmchioaa

/- What memory holds: blocks, what stays, bytes in slices, texts; rows of bytes of one's own and what is appended to them. -/
namespace Go.Proofs.Ytepkpkbgmchioaa
open Go Go.RowKit

theorem hid {p : Prop} (h : p) : Hid p := h
def u8 (k : Nat) : Value := .int .u8 (k : Int)
abbrev ptr (p : Nat) : Value := .pointer (some ⟨p, 0, none⟩)
abbrev i64 (k : Int) : Value := .int .i64 k
theorem under9 : Try.prog.underlying 9 = some .string := by kernel_rfl
theorem Try.info5 : (Try.prog.info? 5).map (fun i => (i.zero, i.size, i.bytes)) = some (some (.int .u8 0), 1, 1) := by kernel_rfl
theorem add_zero' (a : Addr) : a.add 0 = a := by simp [Addr.add]
theorem add_none (b o n : Nat) : (⟨b, o, none⟩ : Addr).add n = ⟨b, o + n, none⟩ := by unfold Addr.add; split <;> simp_all

/-- Block b has these cells, none of them frozen. -/
def CAt (w : World) (b : Nat) (cs : Array Value) (t : TypeId) : Prop := w.heap[b]? = some (.cells cs t (0, 0))
theorem CAt.lt {w : World} {b : Nat} {cs : Array Value} {t : TypeId} (h : CAt w b cs t) : b < w.heap.size := (Array.getElem?_eq_some_iff.1 h).1
theorem CAt.cell {w : World} {b : Nat} {cs : Array Value} {t : TypeId} (h : CAt w b cs t) (i : Nat) : w.cell? ⟨b, i, none⟩ = cs[i]? := by
  simp [World.cell?, show w.heap[b]? = _ from h]
theorem CAt.free {w : World} {b : Nat} {cs : Array Value} {t : TypeId} (h : CAt w b cs t) (i : Nat) : w.frozen? ⟨b, i, none⟩ = false := by
  simp [World.frozen?, show w.heap[b]? = _ from h]
theorem CAt.set {w : World} {b : Nat} {cs : Array Value} {t : TypeId} (h : CAt w b cs t) (i : Nat) (v : Value) : CAt (w.setCell ⟨b, i, none⟩ v) b (cs.setIfInBounds i v) t := by
  unfold CAt at *
  simp [World.setCell, Array.getElem?_modify, h]
theorem CAt.keep {w w' : World} {b : Nat} {cs : Array Value} {t : TypeId} (h : CAt w b cs t) (e : w'.heap[b]? = w.heap[b]?) : CAt w' b cs t := e.trans h
theorem CAt.made (w : World) (cs : Array Value) (t : TypeId) : CAt (w.alloc (.cells cs t)) w.heap.size cs t := (MapKept.heap_alloc w _).1
theorem CAt.below {w w' : World} {b : Nat} {cs : Array Value} {t : TypeId} (h : CAt w b cs t) (hb : Below w.heap.size w w') : CAt w' b cs t := h.keep (hb.block b h.lt)
theorem heap_setCell_ne (w : World) (a : Addr) (v : Value) (b : Nat) (h : b ≠ a.block) : (w.setCell a v).heap[b]? = w.heap[b]? := RowKit.Below.heap_setCell _ _ _ _ h
theorem setCell_size (w : World) (a : Addr) (v : Value) : (w.setCell a v).heap.size = w.heap.size := by
  unfold World.setCell; split <;> simp
theorem size_al (w : World) (o : Obj) : (w.alloc o).heap.size = w.heap.size + 1 := by simp
theorem at_new (w : World) (o : Obj) : (w.alloc o).heap[w.heap.size]? = some o := (MapKept.heap_alloc w o).1
theorem heap_alloc_old (w : World) (o : Obj) {b : Nat} (h : b < w.heap.size) : (w.alloc o).heap[b]? = w.heap[b]? := (MapKept.heap_alloc w o).2 b h
theorem below_al (w : World) (o : Obj) : Below w.heap.size w (w.alloc o) := (Below.refl _ _).alloc (Nat.le_refl _) _
theorem below_on {w0 : World} {w w' : World} (h : Below w0.heap.size w0 w) (hb : Below w.heap.size w w') : Below w0.heap.size w0 w' :=
  ⟨hb.os.trans h.os, hb.tape.trans h.tape, hb.output.trans h.output, Nat.le_trans h.size hb.size, fun k hk => (hb.block k (Nat.lt_of_lt_of_le hk h.size)).trans (h.block k hk)⟩
theorem cell_lt' {w : World} {a : Addr} (h : w.cell? a ≠ none) : a.block < w.heap.size := by
  rcases Nat.lt_or_ge a.block w.heap.size with h1 | h1
  · exact h1
  · exact absurd (by simp [World.cell?, Array.getElem?_eq_none h1]) h

/-- Of what was there nothing has turned but blocks of S. -/
structure Only (S : Nat → Prop) (w w' : World) : Prop where
  os : w'.os = w.os
  tape : w'.tape = w.tape
  output : w'.output = w.output
  size : w.heap.size ≤ w'.heap.size
  block : ∀ k, k < w.heap.size → ¬ S k → w'.heap[k]? = w.heap[k]?
theorem Only.refl (S : Nat → Prop) (w : World) : Only S w w := ⟨rfl, rfl, rfl, Nat.le_refl _, fun _ _ _ => rfl⟩
theorem Only.trans {S : Nat → Prop} {a b c : World} (h : Only S a b) (k : Only S b c) : Only S a c :=
  ⟨k.os.trans h.os, k.tape.trans h.tape, k.output.trans h.output, Nat.le_trans h.size k.size, fun i hi hs => (k.block i (Nat.lt_of_lt_of_le hi h.size) hs).trans (h.block i hi hs)⟩
theorem Only.then {S T : Nat → Prop} {a b c : World} (h : Only S a b) (k : Only T b c) (hT : ∀ i, i < a.heap.size → T i → S i) : Only S a c :=
  ⟨k.os.trans h.os, k.tape.trans h.tape, k.output.trans h.output, Nat.le_trans h.size k.size, fun i hi hs => (k.block i (Nat.lt_of_lt_of_le hi h.size) (fun ht => hs (hT i hi ht))).trans (h.block i hi hs)⟩
theorem Only.mono {S T : Nat → Prop} {a b : World} (h : Only S a b) (hS : ∀ i, S i → T i) : Only T a b := ⟨h.os, h.tape, h.output, h.size, fun i hi hs => h.block i hi fun k => hs (hS i k)⟩
theorem Only.of_below {S : Nat → Prop} {a b : World} (h : Below a.heap.size a b) : Only S a b := ⟨h.os, h.tape, h.output, h.size, fun i hi _ => h.block i hi⟩
theorem Only.below {S : Nat → Prop} {a b : World} {B : Nat} (h : Only S a b) (hB : B ≤ a.heap.size) (hS : ∀ i, S i → B ≤ i) : Below B a b :=
  ⟨h.os, h.tape, h.output, h.size, fun i hi => h.block i (by omega) fun k => by have := hS i k; omega⟩
theorem Only.of_grown {S : Nat → Prop} {a b : World} {r : Option Nat} (h : a.grownBy b r) (hr : ∀ k, r = some k → k < a.heap.size → S k) : Only S a b :=
  ⟨h.os, h.tape, h.output, h.size, fun i hi hs => h.block i hi fun e => hs (hr i e.symm hi)⟩
theorem Only.set {S : Nat → Prop} (w : World) (a : Addr) (v : Value) (h : S a.block) : Only S w (w.setCell a v) := by
  exact ⟨rfl, rfl, rfl, Nat.le_of_eq (setCell_size w a v).symm, fun k _ hk => heap_setCell_ne _ _ _ _ fun e => hk (e ▸ h)⟩
theorem Only.alloc {S : Nat → Prop} (w : World) (o : Obj) : Only S w (w.alloc o) := Only.of_grown (World.grownBy_alloc w o none) (by simp)
theorem below_grown {B : Nat} {w w1 w2 : World} {r : Option Nat} (h : Below B w w1) (hg : w1.grownBy w2 r) (hB : B ≤ w.heap.size) (hr : ∀ b, r = some b → B ≤ b) : Below B w w2 :=
  ⟨hg.os.trans h.os, hg.tape.trans h.tape, hg.output.trans h.output, Nat.le_trans h.size hg.size, fun k hk => (hg.block k (by have := h.size; omega) fun e => by have := hr k e.symm; omega).trans (h.block k hk)⟩
theorem below_tr {B : Nat} {w w1 w2 : World} (h : Below B w w1) (k : Below B w1 w2) : Below B w w2 :=
  ⟨k.os.trans h.os, k.tape.trans h.tape, k.output.trans h.output, Nat.le_trans h.size k.size, fun i hi => (k.block i hi).trans (h.block i hi)⟩
theorem below_less {B C : Nat} {w w1 : World} (h : Below B w w1) (hC : C ≤ B) : Below C w w1 := ⟨h.os, h.tape, h.output, h.size, fun i hi => h.block i (by omega)⟩
theorem ownsRow_keep {w w' : World} {B e n s : Nat} {v : Value} {xs : List Value} (h : w.ownsRow B e s v n xs) (hk : ∀ b, v.ownBlock = some b → w'.heap[b]? = w.heap[b]?) : w'.ownsRow B e s v n xs := by
  obtain ⟨h1, h2⟩ := h
  refine ⟨h1, ?_⟩
  rcases h2 with h2 | ⟨g, cap, cur, rfl, hB, hb, r⟩
  · exact Or.inl h2
  · exact Or.inr ⟨g, cap, cur, rfl, hB, (hk g rfl).trans hb, r⟩
theorem own_form {w : World} {B e sz n : Nat} {v : Value} {xs : List Value} (h : w.ownsRow B e sz v n xs) : ∃ po cc, v = .slice po n cc := by
  rcases h.2 with ⟨rfl, rfl⟩ | ⟨g, cap, cur, rfl, _⟩
  · exact ⟨_, _, rfl⟩
  · exact ⟨_, _, rfl⟩
theorem own_ge {w : World} {B e sz n : Nat} {v : Value} {xs : List Value} (h : w.ownsRow B e sz v n xs) : ∀ b, v.ownBlock = some b → B ≤ b ∧ b < w.heap.size := fun b hb => World.ownsRow.lt h b hb
theorem own_base {w : World} {B B2 e sz n : Nat} {v : Value} {xs : List Value} (h : w.ownsRow B e sz v n xs) (hB : B2 ≤ B) : w.ownsRow B2 e sz v n xs := by
  refine ⟨h.1, ?_⟩
  rcases h.2 with h2 | ⟨g, cap, cur, rfl, hb, r⟩
  · exact Or.inl h2
  · exact Or.inr ⟨g, cap, cur, rfl, Nat.le_trans hB hb, r⟩

/-- A text's bytes. -/
def lst (s : ByteArray) : List Nat := s.data.toList.map UInt8.toNat
theorem lst_len (s : ByteArray) : (lst s).length = s.size := by unfold lst; rw [List.length_map, Array.length_toList]; rfl
theorem lst_lt (s : ByteArray) : ∀ x ∈ lst s, x < 256 := fun x hx => by
  obtain ⟨c, _, rfl⟩ := List.mem_map.1 hx; exact c.toNat_lt
theorem lst_inj {s t : ByteArray} (h : lst s = lst t) : s = t := by
  have : s.data.toList = t.data.toList := by
    unfold lst at h
    exact (List.map_inj_right (f := UInt8.toNat) (fun x y e => UInt8.toNat_inj.1 e)).1 h
  cases s; cases t; simp at this; rw [this]
def ba (l : List Nat) : ByteArray := strOfNums (l.map fun (k : Nat) => (k : Int))
theorem lst_ba {l : List Nat} (h : ∀ x ∈ l, x < 256) : lst (ba l) = l := by
  unfold lst ba
  rw [strOfNums_data, List.map_map, List.map_map]
  refine (List.map_congr_left fun x hx => ?_).trans (List.map_id l)
  have := h x hx
  simp only [Function.comp_apply, Int.toNat_natCast, id_eq]
  rw [UInt8.toNat_ofNat']; omega
theorem ba_lst (s : ByteArray) : ba (lst s) = s := lst_inj (lst_ba (lst_lt s))
theorem strCells_lst (s : ByteArray) : Lib.strCells s = (lst s).map u8 := by simp [Lib.strCells, lst, u8, Function.comp_def]
theorem lst_nil : lst ⟨#[]⟩ = [] := rfl
theorem lst_beq (s t : ByteArray) : (s.toList == t.toList) = decide (lst s = lst t) := by
  rw [ByteArray.toList_eq, ByteArray.toList_eq]
  by_cases h : lst s = lst t
  · have := lst_inj h; subst this; simp
  · have : s.data.toList ≠ t.data.toList := fun e => h (by unfold lst; rw [e])
    rw [decide_eq_false h]
    exact Bool.eq_false_iff.2 fun e => this (eq_of_beq e)

/-- The slice leads to the bytes bs. -/
def BL (w : World) (po : Option Addr) (bs : List Nat) : Prop := bs = [] ∨ ∃ b o, po = some ⟨b, o, none⟩ ∧ ∀ i, i < bs.length → w.cell? ⟨b, o + i, none⟩ = some (u8 (bs.getD i 0))
theorem BL.keep {w w' : World} {po : Option Addr} {bs : List Nat} (h : BL w po bs) (hk : ∀ a, w.cell? a ≠ none → w'.cell? a = w.cell? a) : BL w' po bs := by
  rcases h with h | ⟨b, o, rfl, h⟩
  · exact Or.inl h
  · exact Or.inr ⟨b, o, rfl, fun i hi => (hk _ (by rw [h i hi]; simp)).trans (h i hi)⟩
theorem BL.below {w w' : World} {po : Option Addr} {bs : List Nat} (h : BL w po bs) (hb : Below w.heap.size w w') : BL w' po bs :=
  h.keep fun a ha => World.cell?_of_block (hb.block a.block (cell_lt' ha))
theorem BL.onlyAt {w w' : World} {po : Option Addr} {bs : List Nat} {S : Nat → Prop} (h : BL w po bs) (ho : Only S w w') (hS : bs ≠ [] → ∀ a, po = some a → ¬ S a.block) : BL w' po bs := by
  rcases h with h | ⟨b, o, rfl, h⟩
  · exact Or.inl h
  · refine Or.inr ⟨b, o, rfl, fun i hi => ?_⟩
    have hne : bs ≠ [] := fun e => by subst e; simp at hi
    have hc := h i hi
    exact (World.cell?_of_block (ho.block b (cell_lt' (a := ⟨b, o + i, none⟩) (by rw [hc]; simp)) (hS hne _ rfl))).trans hc
theorem BL.nil (w : World) (po : Option Addr) : BL w po [] := Or.inl rfl
theorem BL.conv {w : World} {po : Option Addr} {bs : List Nat} (h : BL w po bs) (c : Nat) : (convert 22 9 (.slice po bs.length c)).run Try.prog w = .ok (.string (ba bs)) w := by
  rcases h with rfl | ⟨b, o, rfl, h⟩
  · rw [run_convert_bytes_string w 22 9 5 _ _ c Try.underlying22 Try.underlying5 Try.underlying9]
    cases po <;> simp [Conv.bytesToString, loadCells, ba]
    all_goals rfl
  · exact run_convert_bytes_arg w 22 5 Try.underlying22 Try.underlying5 b o bs.length c _ (by simp) (fun i hi => by rw [h i hi]; simp [List.getD, hi, u8]) 9 Try.underlying9
theorem getD_drop (bs : List Nat) (n i : Nat) : (bs.drop n).getD i 0 = bs.getD (n + i) 0 := by simp [List.getD]
theorem getD_take {bs : List Nat} {n i : Nat} (h : i < n) : (bs.take n).getD i 0 = bs.getD i 0 := by simp [List.getD, h]
theorem BL.drop {w : World} {b o : Nat} {bs : List Nat} (h : BL w (some ⟨b, o, none⟩) bs) (n : Nat) : BL w (some ⟨b, o + n, none⟩) (bs.drop n) := by
  rcases h with rfl | ⟨b', o', e, h⟩
  · exact Or.inl (by simp)
  · cases e
    refine Or.inr ⟨b, o + n, rfl, fun i hi => ?_⟩
    rw [List.length_drop] at hi
    rw [getD_drop, show o + n + i = o + (n + i) by omega]
    exact h (n + i) (by omega)
theorem BL.take {w : World} {po : Option Addr} {bs : List Nat} (h : BL w po bs) (n : Nat) : BL w po (bs.take n) := by
  rcases h with rfl | ⟨b, o, rfl, h⟩
  · exact Or.inl (by simp)
  · refine Or.inr ⟨b, o, rfl, fun i hi => ?_⟩
    rw [List.length_take] at hi
    rw [getD_take (by omega)]
    exact h i (by omega)
/-- Bytes in a row of their own. -/
def Buf (B : Nat) (w : World) (v : Value) (L : List Nat) : Prop := w.ownsRow B 5 1 v L.length (L.map u8)
theorem Buf.nil (B : Nat) (w : World) : Buf B w (.slice none 0 0) [] := World.ownsRow_nil w B 5 1
theorem Buf.form {B : Nat} {w : World} {v : Value} {L : List Nat} (h : Buf B w v L) : ∃ po cc, v = .slice po L.length cc := own_form h
theorem Buf.below {B : Nat} {w w' : World} {v : Value} {L : List Nat} (h : Buf B w v L) (hb : Below w.heap.size w w') : Buf B w' v L :=
  ownsRow_keep h fun b hv => hb.block b (own_ge h b hv).2
theorem Buf.bl {B : Nat} {w : World} {po : Option Addr} {n c : Nat} {L : List Nat} (h : Buf B w (.slice po n c) L) : BL w po L := by
  rcases h.2 with ⟨e, h0⟩ | ⟨g, cap, cur, e, _, hg, h1, _, h3, h4⟩
  · exact Or.inl (List.eq_nil_of_length_eq_zero h0)
  · cases e
    refine Or.inr ⟨g, 0, rfl, fun i hi => ?_⟩
    have hc : CAt w g cur 5 := hg
    rw [Nat.zero_add, hc.cell]
    have := congrArg (fun l => l[i]?) h4
    simp [hi] at this
    rw [this]
    simp [u8, List.getD, List.getElem?_eq_getElem hi]
/-- append(v, b...), the bytes anywhere. -/
theorem Buf.app {B : Nat} {w : World} {v : Value} {L : List Nat} (hv : Buf B w v L) (po : Option Addr) (c : Nat) (bs : List Nat) (hb : BL w po bs) (hc : po = none → c = 0) (hn : L.length + bs.length ≤ 2000000) (hB : B ≤ w.heap.size) :
    ∃ v' w', (Builtin.append_ #[22, 22] 22 #[v, .slice po bs.length c]).run Try.prog w = .ok v' w' ∧ Buf B w' v' (L ++ bs) ∧ w.grownBy w' v.ownBlock := by
  obtain ⟨i0, hi0, hz0, hz1, hz2⟩ := info_parts Try.info5
  cases po with
  | none =>
    have : bs = [] := by rcases hb with h | ⟨b, o, h, _⟩
                         · exact h
                         · cases h
    subst this
    obtain rfl := hc rfl
    refine ⟨v, w, run_append_owned_none (P := Try.prog) (w := w) B 22 22 5 i0 1 Try.underlying22 hi0 v _ _ hv, by simpa using hv, ⟨rfl, rfl, rfl, Nat.le_refl _, fun _ _ _ => rfl⟩⟩
  | some a =>
    obtain ⟨v', w', hr, h2, h3, _, _⟩ := run_append_own_at (P := Try.prog) w B 22 22 5 i0 (.int .u8 0) 1 1 Try.underlying22 hi0 hz0 hz1 hz2 rfl (by decide) v L.length (L.map u8) hv a bs.length c (bs.map u8) (by simp) (fun j u hj => by
        have hjl : j < bs.length := by
          rcases Nat.lt_or_ge j bs.length with q | q
          · exact q
          · rw [List.getElem?_eq_none (by simpa using q)] at hj; cases hj
        have e : u = u8 (bs.getD j 0) := by simp [hjl] at hj; rw [← hj]; simp [List.getD, hjl]
        rcases hb with h | ⟨b, o, e2, h⟩
        · subst h; simp at hjl
        · cases e2
          rw [add_none, e]; exact h j hjl) (by intro u hu; simp at hu; obtain ⟨k, _, rfl⟩ := hu; rfl) (by unfold maxLen; omega) (by omega) hB
    refine ⟨v', w', hr, ?_, h3⟩
    unfold Buf; rw [List.length_append, List.map_append]; exact h2
/-- append(v, x), the value laid in a new block first. -/
theorem Buf.push {B : Nat} {w : World} {v : Value} {L : List Nat} (hv : Buf B w v L) (k : Nat) (hn : L.length + 1 ≤ 2000000) (hB : B ≤ w.heap.size) :
    ∃ v' w', (Builtin.append_ #[22, 22] 22 #[v, .slice (some ⟨w.heap.size, 0, none⟩) 1 1]).run Try.prog (w.alloc (.cells #[u8 k] 5)) = .ok v' w' ∧ Buf B w' v' (L ++ [k]) ∧ Below B w w' := by
  have h2 := hv.below (below_al w (.cells #[u8 k] 5))
  have hc : CAt (w.alloc (.cells #[u8 k] 5)) w.heap.size #[u8 k] 5 := CAt.made w _ _
  obtain ⟨v', w', h3, h4, h5⟩ := h2.app (some ⟨w.heap.size, 0, none⟩) 1 [k] (Or.inr ⟨w.heap.size, 0, rfl, fun i hi => by
    have : i = 0 := by simpa using hi
    subst this; rw [Nat.zero_add, hc.cell]; rfl⟩) (by simp) (by simpa using hn) (by rw [size_al]; omega)
  exact ⟨v', w', h3, h4, below_grown (below_less (below_al w _) hB) h5 hB fun b hb => (own_ge h2 b hb).1⟩
/-- append(v, s...), of a text. -/
theorem Buf.appS {B : Nat} {w : World} {v : Value} {L : List Nat} (hv : Buf B w v L) (s : ByteArray) (hn : L.length + s.size ≤ 2000000) (hB : B ≤ w.heap.size) :
    ∃ v' w', (Builtin.append_ #[22, 9] 22 #[v, .string s]).run Try.prog w = .ok v' w' ∧ Buf B w' v' (L ++ lst s) ∧ Below B w w' := by
  obtain ⟨i0, hi0, hz0, hz1, hz2⟩ := info_parts Try.info5
  obtain ⟨v', w', hr, h2, h3, _⟩ := Lib.run_append_own_string (P := Try.prog) w B 22 9 22 5 i0 Try.underlying22 Try.underlying9 hi0 hz0 hz1 hz2 v L.length (L.map u8) hv s (by unfold maxLen; omega) (by omega) hB
  refine ⟨v', w', hr, ?_, below_grown (Below.refl _ _) h3 hB fun b hb => (own_ge hv b hb).1⟩
  unfold Buf; rw [List.length_append, List.map_append, lst_len, ← strCells_lst]; exact h2
#print axioms Buf.appS
end Go.Proofs.Ytepkpkbgmchioaa

/- Contracts of what writes numbers and texts: clipped, fresh, appendNumber, appendText, Uint, Text of package record. -/
namespace Go.Proofs.Ytepkpkbgmchioaa
open Go Go.RowKit

theorem wpList_append_run {P : Program} {w w' : World} {ops : Array Oper} {rest : List Oper} {o : Oper} {a : Act} {Q : Exit → Act → World → Prop} (s x : Operand) (t t2 : TypeId)
    (ho : o.op = .call { callee := .builtin .append, args := #[s, x], argTypes := #[t, t2] }) (hw : Region.wanted o (yielded ops a.tmps) = true)
    (v xv v' : Value) (hs : a.eval s = v) (hx : a.eval x = xv) (hr : (Builtin.append_ #[t, t2] o.type #[v, xv]).run P w = .ok v' w') (h : wpList P ops Q rest (a.put o.dst v') w') : wpList P ops Q (o :: rest) a w := by
  refine BigFrame.wpList_want hw fun K hK => ?_
  unfold Oper.wp execOp
  simp only [ho, resolve, invoke, builtin, Sem.run_bind, Sem.run_pure, Result.andThen_ok, List.map_toArray, List.map_cons, List.map_nil, hs, hx, hr]
  exact hK _ _ h
def BufS (B : Nat) (w : World) (L : List Nat) (e : Ending) (w' : World) : Prop := ∃ v', e = .returned v' ∧ Buf B w' v' L ∧ Below B w w'
theorem nb_le {n : Nat} (h : n ≤ 1099511627776) : (nb n).length ≤ 6 := nb_len 5 n (by omega)
theorem or128 : ∀ x : Fin 256, x.val ||| 128 = x.val % 128 + 128 := by decide +kernel
theorem or_128 (m : Nat) : bits .or .u8 ((m : Int) % 256) 128 = ((m % 128 + 128 : Nat) : Int) := by
  rw [u8_or _ _ (by omega) (by omega) (by omega) (by omega)]
  have h1 : ((m : Int) % 256).toNat = m % 256 := by omega
  have h2 := or128 ⟨m % 256, by omega⟩
  simp only at h2
  have h3 : m % 256 % 128 = m % 128 := by omega
  rw [h1, show (128 : Int).toNat = 128 from rfl, h2, h3]
set_option maxRecDepth 100000 in
set_option maxHeartbeats 400000 in
theorem appNum (B : Nat) (L : List Nat) (v : Value) (n : Nat) (w : World) (hn : n ≤ 1099511627776) (hv : Buf B w v L) (hL : L.length ≤ 1000000) (hB : B ≤ w.heap.size) :
    Calls Try.prog 37 #[v, i64 n] w (BufS B w (L ++ nb n)) := by
  have HV := hid hv
  have HN := hid (nb_le hn)
  have HB := hid hB
  clear hv hB
  go_enter Try.func37, Try.ntmps37
  go_wp2
  go_loopw [0, 1] (fun b i wr => ∃ (m : Nat) (L' : List Nat), m ≤ n ∧ i = i64 m ∧ L' ++ nb m = L ++ nb n ∧ Buf B wr b L' ∧ Below B w wr) (fun b i _ => (intOf i).toNat)
  case atStart => exact ⟨n, L, Nat.le_refl _, rfl, rfl, HV.out, Below.refl _ _⟩
  case round =>
    obtain ⟨m, L', hm, rfl, hl, hb, hw⟩ := hrel
    have HR := hid hb
    have HW := hid hw
    have HE := hid hl
    have hlen := congrArg List.length hl
    rw [List.length_append, List.length_append] at hlen
    have HLN := hid hlen
    have HSZ := hid (show B ≤ wr.heap.size by have := hw.size; have := HB.out; omega)
    clear hb hw hl hlen
    by_cases hlt : (128 : Int) ≤ (m : Int)
    · have hp1 : L'.length + 1 ≤ 2000000 := by have := HLN.out; have := HN.out; omega
      obtain ⟨v', w', hr, hq, hbw⟩ := HR.out.push (m % 128 + 128) hp1 HSZ.out
      have HRUN := hid hr
      clear hr hp1
      have hor := or_128 m
      generalize hc : m % 128 + 128 = c at *
      have HC := hid hc
      clear hc
      go_wp2_with (at_builtin; refine wpList_append_run _ _ 22 22 rfl rfl _ _ _ rfl rfl HRUN.out ?_)
      refine ⟨⟨m / 128, L' ++ [c], by omega, by simp, ?_, hq, below_tr HW.out hbw⟩, by simp [intOf]; omega⟩
      rw [← HE.out, nb_ge (n := m) (by omega), HC.out, List.append_assoc]; rfl
    · have hp1 : L'.length + 1 ≤ 2000000 := by have := HLN.out; have := HN.out; omega
      obtain ⟨v', w', hr, hq, hbw⟩ := HR.out.push m hp1 HSZ.out
      have HRUN := hid hr
      clear hr hp1
      go_wp2_with (at_builtin; refine wpList_append_run _ _ 22 22 rfl rfl _ _ _ rfl rfl HRUN.out ?_)
      go_ret
      have e : nb m = [m] := nb_lt (by omega)
      refine ⟨_, rfl, ?_, below_tr HW.out hbw⟩
      rw [← HE.out, e]; exact hq
/-- Bytes that are told: in new memory, without spare room. -/
def OutB (B : Nat) (w : World) (v : Value) (bs : List Nat) : Prop := (v = .slice none 0 0 ∧ bs = []) ∨ ∃ g, v = .slice (some ⟨g, 0, none⟩) bs.length bs.length ∧ B ≤ g ∧ g < w.heap.size ∧ (∀ i, i < bs.length → w.cell? ⟨g, i, none⟩ = some (u8 (bs.getD i 0))) ∧ ∀ i, w.frozen? ⟨g, i, none⟩ = false
theorem OutB.form {B : Nat} {w : World} {v : Value} {bs : List Nat} (h : OutB B w v bs) : ∃ po, v = .slice po bs.length bs.length ∧ BL w po bs ∧ (po = none → bs.length = 0) := by
  rcases h with ⟨rfl, rfl⟩ | ⟨g, rfl, _, _, h, _⟩
  · exact ⟨none, rfl, Or.inl rfl, fun _ => rfl⟩
  · exact ⟨_, rfl, Or.inr ⟨g, 0, rfl, fun i hi => by rw [Nat.zero_add]; exact h i hi⟩, fun e => by cases e⟩
theorem OutB.below {B : Nat} {w w' : World} {v : Value} {bs : List Nat} (h : OutB B w v bs) (hb : Below w.heap.size w w') : OutB B w' v bs := by
  rcases h with h | ⟨g, h1, h2, h3, h4, h5⟩
  · exact Or.inl h
  · have e := hb.block g h3
    exact Or.inr ⟨g, h1, h2, by have := hb.size; omega, fun i hi => (World.cell?_of_block e).trans (h4 i hi), fun i => by have := h5 i; unfold World.frozen? at this ⊢; rw [e]; exact this⟩
theorem OutB.base {B C : Nat} {w : World} {v : Value} {bs : List Nat} (h : OutB B w v bs) (hC : C ≤ B) : OutB C w v bs := by
  rcases h with h | ⟨g, h1, h2, h3⟩
  · exact Or.inl h
  · exact Or.inr ⟨g, h1, by omega, h3⟩
theorem elem8 (w : World) : (sizeOf (Try.prog.elem 22)).run Try.prog w = .ok 1 w := by
  have hi : (Try.prog.info? (Try.prog.elem 22)).map (·.size) = some 1 := by kernel_rfl
  obtain ⟨i, h1, h2⟩ := Option.map_eq_some_iff.1 hi
  simp [sizeOf, typeInfo, h1, h2]
theorem underE8 : Try.prog.underlying 22 = some (.slice (Try.prog.elem 22)) := by kernel_rfl
theorem run_clip8 (po : Option Addr) (n c : Nat) (h : n ≤ c) (w : World) : (Instr.slice 22 (.slice po n c) none (some (.int .i64 (n : Int))) (some (.int .i64 (n : Int)))).run Try.prog w = .ok (.slice po n n) w := by
  rw [run_slice_hm (P := Try.prog) w 22 po n c underE8 .i64 .i64 (n : Int) (n : Int) (by omega) (by omega) (by omega), elem8]
  cases po with
  | none => simp [Result.andThen, sliced]
  | some a =>
    by_cases h0 : n = 0
    · simp [Result.andThen, sliced, h0]
    · simp [Result.andThen, sliced, h0, add_zero']
theorem Buf.cap {B : Nat} {w : World} {po : Option Addr} {n c : Nat} {L : List Nat} (h : Buf B w (.slice po n c) L) : n = L.length ∧ n ≤ c := by
  rcases h.2 with ⟨e, h0⟩ | ⟨g, cap, cur, e, _, hg, h1, _, h3, h4⟩
  · cases e; exact ⟨h0.symm, Nat.le_refl _⟩
  · cases e; exact ⟨rfl, h1⟩
theorem Buf.out {B : Nat} {w : World} {po : Option Addr} {n c : Nat} {L : List Nat} (h : Buf B w (.slice po n c) L) : OutB B w (.slice po n n) L := by
  have hbl := h.bl
  have hlt := own_ge h
  rcases h.2 with ⟨e, h0⟩ | ⟨g, cap, cur, e, hB, hg, h1, _, h3, h4⟩
  · cases e; exact Or.inl ⟨rfl, List.eq_nil_of_length_eq_zero h0⟩
  · cases e
    have hc : CAt w g cur 5 := hg
    refine Or.inr ⟨g, rfl, hB, hc.lt, fun i hi => ?_, fun i => hc.free i⟩
    rcases hbl with h | ⟨b, o, e, h⟩
    · subst h; simp at hi
    · cases e; have := h i hi; rwa [Nat.zero_add] at this
theorem clip_any (B : Nat) (v : Value) (L : List Nat) (w : World) (h : Buf B w v L) : Calls Try.prog 36 #[v] w fun e w' => (∃ v', e = .returned v' ∧ OutB B w v' L) ∧ w' = w := by
  obtain ⟨po, c, rfl⟩ := h.form
  have hcap := h.cap.2
  have hs := run_clip8 po L.length c hcap
  have H := hid h.out
  clear h
  go_enter Try.func36, Try.ntmps36
  go_wp2
  go_ret
  exact ⟨⟨_, rfl, H.out⟩, rfl⟩
def OutS (w : World) (bs : List Nat) (e : Ending) (w' : World) : Prop := ∃ v, e = .returned v ∧ OutB w.heap.size w' v bs ∧ Below w.heap.size w w'
def OutE (w : World) (bs : List Nat) (er : Nat) (e : Ending) (w' : World) : Prop := ∃ v, e = .returned (.tuple #[v, i64 er]) ∧ OutB w.heap.size w' v bs ∧ Below w.heap.size w w'
theorem between_any (n a b : Int) (w : World) : Calls Try.prog 35 #[i64 n, i64 a, i64 b] w fun e w' => e = .returned (.bool (inR n a b)) ∧ w' = w := by
  by_cases h1 : a ≤ n
  · by_cases h2 : n ≤ b
    · have e : inR n a b = true := inR_iff.2 ⟨h1, h2⟩
      rw [e]
      go_enter Try.func35, Try.ntmps35
      go_wp2
      go_ret
      simp
    · have e : inR n a b = false := by simp [inR, h2]
      rw [e]
      go_enter Try.func35, Try.ntmps35
      go_wp2
      go_ret
      simp
  · have e : inR n a b = false := by simp [inR, h1]
    rw [e]
    go_enter Try.func35, Try.ntmps35
    go_wp2
    go_ret
    simp
theorem uint_ok (n : Nat) (w : World) (hn : n ≤ 1099511627776) : Calls Try.prog 9 #[i64 n] w (OutE w (nb n) 0) := by
  go_enter Try.func9, Try.ntmps9
  go_wp2_with (first
    | (go_at_call 35; refine (between_any _ _ _ _).mono ?_; rintro e w0 ⟨rfl, hw0⟩; rw [show inR (n : Int) 0 1099511627776 = true from inR_iff.2 ⟨by omega, by omega⟩]; have hw2 := hw0.symm; subst hw2)
    | (go_at_call 37; refine (appNum w.heap.size [] _ n w hn (Buf.nil _ _) (by simp) (Nat.le_refl _)).mono ?_; rintro e w1 ⟨v1, rfl, hb1, hw1⟩)
    | (go_at_call 36; refine (clip_any w.heap.size _ (nb n) _ (by simpa using hb1)).mono ?_; rintro e w2 ⟨⟨v2, rfl, ho⟩, rfl⟩))
  go_ret2
  exact ⟨v2, rfl, ho, hw1⟩
theorem uint_bad (n : Int) (w : World) (hn : n < 0 ∨ 1099511627776 < n) : Calls Try.prog 9 #[i64 n] w fun e w' => e = .returned (.tuple #[.slice none 0 0, i64 2]) ∧ w' = w := by
  go_enter Try.func9, Try.ntmps9
  go_wp2_with (go_at_call 35; refine (between_any _ _ _ _).mono ?_; rintro e w0 ⟨rfl, hw0⟩; rw [show inR (n : Int) 0 1099511627776 = false from by simp [inR]; omega]; have hw2 := hw0.symm; subst hw2)
  go_ret2
  exact ⟨rfl, rfl⟩
theorem appText (B : Nat) (L : List Nat) (v : Value) (s : ByteArray) (w : World) (hn : s.size ≤ 65536) (hv : Buf B w v L) (hL : L.length ≤ 900000) (hB : B ≤ w.heap.size) :
    Calls Try.prog 38 #[v, .string s] w (BufS B w (L ++ tb (lst s))) := by
  have HV := hid hv
  have HB := hid hB
  clear hv hB
  go_enter Try.func38, Try.ntmps38
  go_wp2_with (first
    | (go_at_call 37; refine (appNum B L _ s.size w (by omega) HV.out (by omega) HB.out).mono ?_; rintro e w1 ⟨v1, rfl, hb1, hw1⟩; have hlen := nb_le (n := s.size) (by omega); obtain ⟨v2, w2, hr, hb2, hw2⟩ := hb1.appS s (by rw [List.length_append]; omega) (by have := hw1.size; have := HB.out; omega); have HRUN := hid hr; clear hr)
    | (at_builtin; refine wpList_append_run _ _ 22 9 rfl rfl _ _ _ rfl rfl HRUN.out ?_))
  go_ret
  refine ⟨v2, rfl, ?_, below_tr hw1 hw2⟩
  unfold tb; rw [lst_len, ← List.append_assoc]; exact hb2
theorem text_ok (s : ByteArray) (w : World) (hn : s.size ≤ 65536) : Calls Try.prog 10 #[.string s] w (OutE w (tb (lst s)) 0) := by
  go_enter Try.func10, Try.ntmps10
  go_wp2_with (first
    | (go_at_call 38; refine (appText w.heap.size [] _ s w hn (Buf.nil _ _) (by simp) (Nat.le_refl _)).mono ?_; rintro e w1 ⟨v1, rfl, hb1, hw1⟩)
    | (go_at_call 36; refine (clip_any w.heap.size _ (tb (lst s)) _ (by simpa using hb1)).mono ?_; rintro e w2 ⟨⟨v2, rfl, ho⟩, rfl⟩))
  go_ret2
  exact ⟨v2, rfl, ho, hw1⟩
theorem text_bad (s : ByteArray) (w : World) (hn : 65536 < s.size) : Calls Try.prog 10 #[.string s] w fun e w' => e = .returned (.tuple #[.slice none 0 0, i64 2]) ∧ w' = w := by
  have h2 : 65536 < (s.size : Int) := by omega
  go_enter Try.func10, Try.ntmps10
  go_wp2
  go_ret2
  exact ⟨rfl, rfl⟩
theorem fresh_any (po : Option Addr) (c : Nat) (bs : List Nat) (w : World) (h : BL w po bs) (hc : po = none → c = 0) (hn : bs.length ≤ 1000000) : Calls Try.prog 57 #[.slice po bs.length c] w (OutS w bs) := by
  obtain ⟨v1, w1, hr, hb1, hg⟩ := (Buf.nil w.heap.size w).app po c bs h hc (by simpa using by omega) (Nat.le_refl _)
  have HRUN := hid hr
  have hw1 : Below w.heap.size w w1 := below_grown (Below.refl _ _) hg (Nat.le_refl _) (by intro b hb; cases hb)
  clear hr
  go_enter Try.func57, Try.ntmps57
  go_wp2_with (first
    | (at_builtin; refine wpList_append_run _ _ 22 22 rfl rfl _ _ _ rfl rfl HRUN.out ?_)
    | (go_at_call 36; refine (clip_any w.heap.size _ bs _ (by simpa using hb1)).mono ?_; rintro e w2 ⟨⟨v2, rfl, ho⟩, rfl⟩))
  go_ret
  exact ⟨v2, rfl, ho, hw1⟩
#print axioms fresh_any
#print axioms text_ok
end Go.Proofs.Ytepkpkbgmchioaa

/- Contracts of the reader of package record: need, take, one. -/
namespace Go.Proofs.Ytepkpkbgmchioaa
open Go Go.RowKit

/-- A reader lies at block p: it has the bytes s still, or (none) a fault. -/
def Rd (w : World) (p : Nat) (s : Option (List Nat)) : Prop := ∃ po L, CAt w p #[.slice po L.length L.length, i64 (if s.isSome then 0 else 4)] 83 ∧ BL w po L ∧ (L ≠ [] → ∀ a, po = some a → a.block < p) ∧ (po = none → L = []) ∧ (s = none ∨ s = some L) ∧ L.length ≤ 100000 ∧ ∀ x ∈ L, x < 256
theorem Rd.lt {w : World} {p : Nat} {s : Option (List Nat)} (h : Rd w p s) : p < w.heap.size := by obtain ⟨_, _, h, _⟩ := h; exact h.lt
theorem Rd.only {w w' : World} {p : Nat} {s : Option (List Nat)} {S : Nat → Prop} (h : Rd w p s) (ho : Only S w w') (hS : ∀ i, S i → p < i) : Rd w' p s := by
  obtain ⟨po, L, h1, h2, h3, h4⟩ := h
  have hp := h1.lt
  exact ⟨po, L, h1.keep (ho.block p hp fun e => by have := hS _ e; omega), h2.onlyAt ho (fun hne a ha e => by have := hS _ e; have := h3 hne a ha; omega), h3, h4⟩
theorem Rd.below {w w' : World} {p : Nat} {s : Option (List Nat)} (h : Rd w p s) (hb : Below w.heap.size w w') : Rd w' p s := h.only (S := fun _ => False) (Only.of_below hb) (fun _ h => h.elim)
def ReS (w : World) (p : Nat) (s : Option (List Nat)) (v : Value) (e : Ending) (w' : World) : Prop := e = .returned v ∧ Rd w' p s ∧ Only (fun b => b = p) w w'
theorem need_any (w : World) (p : Nat) (s : Option (List Nat)) (b : Bool) (h : Rd w p s) : Calls Try.prog 59 #[ptr p, .bool b] w (ReS w p (if b then s else none) (.tuple #[])) := by
  have H := hid h
  obtain ⟨po, L, h1, h2, h3, h4, h5, h6⟩ := h
  have HC := hid h1
  have c1 := h1.cell 1
  have z1 := h1.free 1
  simp at c1
  cases b with
  | true =>
    clear h1 h2 h3 h4 h5 h6
    go_enter Try.func59, Try.ntmps59
    go_wp2
    go_end0
    exact ⟨rfl, H.out, Only.refl _ _⟩
  | false =>
    cases s with
    | none =>
      simp at c1
      clear h1 h2 h3 h4 h5 h6
      go_enter Try.func59, Try.ntmps59
      go_wp2
      go_end0
      exact ⟨rfl, H.out, Only.refl _ _⟩
    | some K =>
      simp at c1
      have HX : Hid (Rd (w.setCell ⟨p, 1, none⟩ (i64 4)) p none) := by
        refine ⟨po, L, ?_, h2.onlyAt (Only.set (S := fun b => b = p) w ⟨p, 1, none⟩ _ rfl) (fun hne a ha e => by have := h3 hne a ha; omega), h3, h4, Or.inl rfl, h6⟩
        have := h1.set 1 (i64 4)
        simpa using this
      clear h1 h2 h3 h4 h5 h6
      go_enter Try.func59, Try.ntmps59
      go_wp2
      go_end0
      exact ⟨rfl, HX.out, Only.set _ _ _ rfl⟩
theorem need_true (w : World) (p : Nat) : Calls Try.prog 59 #[ptr p, .bool true] w fun e w' => e = .returned (.tuple #[]) ∧ w' = w := by
  go_enter Try.func59, Try.ntmps59
  go_wp2
  go_end0
  exact ⟨rfl, rfl⟩
theorem need_gone (w : World) (p : Nat) (b : Bool) (h : Rd w p none) : Calls Try.prog 59 #[ptr p, .bool b] w fun e w' => e = .returned (.tuple #[]) ∧ w' = w := by
  obtain ⟨po, L, h1, _⟩ := h
  have c1 := h1.cell 1
  simp at c1
  clear h1
  cases b <;>
  · go_enter Try.func59, Try.ntmps59
    go_wp2
    go_end0
    exact ⟨rfl, rfl⟩
theorem run_from8 (po : Option Addr) (n c l : Nat) (hl : l ≤ n) (hc : n ≤ c) : ∃ p2 : Option Addr, (∀ w : World, (Instr.slice 22 (.slice po n c) (some (.int .i64 (l : Int))) none none).run Try.prog w = .ok (.slice p2 (n - l) (c - l)) w) ∧
    (∀ b o, po = some ⟨b, o, none⟩ → l < n → p2 = some ⟨b, o + l, none⟩) ∧ (p2 = none → po = none) ∧ (∀ a, p2 = some a → ∃ a', po = some a' ∧ a.block = a'.block) := by
  have hr : ∀ w, (Instr.slice 22 (.slice po n c) (some (.int .i64 (l : Int))) none none).run Try.prog w = .ok (sliced po l n c 1) w := fun w => by
    rw [run_slice_l (P := Try.prog) w 22 po n c underE8 .i64 (l : Int) (by omega) (by omega), elem8]
    simp [Result.andThen]
  cases po with
  | none => exact ⟨none, fun w => by rw [hr]; simp [sliced], (fun b o e => by cases e), fun _ => rfl, fun a e => by cases e⟩
  | some a =>
    by_cases e : c = l
    · exact ⟨some a, fun w => by rw [hr]; simp [sliced, e], (fun b o _ q => by omega), (fun e => by cases e), fun a2 e2 => ⟨a, rfl, by cases e2; rfl⟩⟩
    · refine ⟨some (a.add l), fun w => by rw [hr]; simp [sliced, e], (fun b o q _ => by cases q; rw [add_none]), (fun e => by cases e), fun a2 e2 => ⟨a, rfl, by cases e2; unfold Addr.add; split <;> rfl⟩⟩
theorem run_head8 (po : Option Addr) (n c h : Nat) (hh : h ≤ c) (w : World) : (Instr.slice 22 (.slice po n c) none (some (.int .i64 (h : Int))) (some (.int .i64 (h : Int)))).run Try.prog w = .ok (.slice po h h) w := by
  rw [run_slice_hm (P := Try.prog) w 22 po n c underE8 .i64 .i64 (h : Int) (h : Int) (by omega) (by omega) (by omega), elem8]
  cases po with
  | none => simp [Result.andThen, sliced]
  | some a =>
    by_cases h0 : h = 0
    · simp [Result.andThen, sliced, h0]
    · simp [Result.andThen, sliced, h0, add_zero']
def TakS (w : World) (p n : Nat) (L : List Nat) (e : Ending) (w' : World) : Prop := ∃ po, e = .returned (.slice po n n) ∧ BL w' po (L.take n) ∧ Rd w' p (some (L.drop n)) ∧ Only (fun b => b = p) w w' ∧ (po = none → n = 0)
set_option maxRecDepth 100000 in
theorem take_ok (w : World) (p n : Nat) (L : List Nat) (h : Rd w p (some L)) (hn : n ≤ L.length) : Calls Try.prog 60 #[ptr p, i64 n] w (TakS w p n L) := by
  have H := hid h
  obtain ⟨po, L', h1, h2, h3, h4, h5, h6, h7⟩ := h
  have e : L' = L := by rcases h5 with h | h <;> cases h; rfl
  subst e
  have c0 := h1.cell 0
  have c1 := h1.cell 1
  have z0 := h1.free 0
  simp at c0 c1
  obtain ⟨p2, hfrom, hp2, hp3, hp4⟩ := run_from8 po L'.length L'.length n hn (Nat.le_refl _)
  have hhead := run_head8 po L'.length L'.length n hn
  have HX : Hid (Rd (w.setCell ⟨p, 0, none⟩ (.slice p2 (L'.length - n) (L'.length - n))) p (some (L'.drop n))) := by
    refine ⟨p2, L'.drop n, ?_, ?_, fun hne a ha => ?_, fun hn2 => ?_, Or.inr rfl, by rw [List.length_drop]; omega, fun x hx => h7 x (List.mem_of_mem_drop hx)⟩
    · have := h1.set 0 (.slice p2 (L'.length - n) (L'.length - n))
      rw [List.length_drop]; simpa using this
    · rcases Nat.lt_or_ge n L'.length with hlt | hge
      · have h2' := h2.onlyAt (Only.set (S := fun b => b = p) w ⟨p, 0, none⟩ (.slice p2 (L'.length - n) (L'.length - n)) rfl) (fun hne a ha e => by have := h3 hne a ha; omega)
        rcases h2' with h | ⟨b, o, hpo, hc⟩
        · subst h; simp at hlt
        · have hq := hp2 b o hpo hlt
          have hd := BL.drop (Or.inr ⟨b, o, rfl, hc⟩) n
          rw [← hq] at hd
          exact hd
      · exact Or.inl (List.drop_eq_nil_of_le hge)
    · obtain ⟨a', ha', he⟩ := hp4 a ha
      rw [he]; exact h3 (fun e => hne (by rw [e]; simp)) a' ha'
    · rw [h4 (hp3 hn2)]; simp
  have HT := hid ((h2.onlyAt (Only.set (S := fun b => b = p) w ⟨p, 0, none⟩ (.slice p2 (L'.length - n) (L'.length - n)) rfl) (fun hne a ha e => by have := h3 hne a ha; omega)).take n)
  have HPN : Hid (po = none → n = 0) := fun e => by have := h4 e; subst this; simpa using hn
  clear h1 h2 h3 h4 h5 h6 h7 hp2 hp3 hp4
  have hle : (n : Int) ≤ (L'.length : Int) := by omega
  go_enter Try.func60, Try.ntmps60
  go_wp2_with (go_at_call 59; refine (need_true w p).mono ?_; rintro e w' ⟨rfl, hw'⟩; have hw2 := hw'.symm; subst hw2)
  go_ret
  exact ⟨po, rfl, HT.out, HX.out, Only.set _ _ _ rfl, HPN.out⟩
set_option maxRecDepth 100000 in
theorem take_bad (w : World) (p : Nat) (n : Int) (s : Option (List Nat)) (h : Rd w p s) (hn : ∀ L, s = some L → (L.length : Int) < n) : Calls Try.prog 60 #[ptr p, i64 n] w (ReS w p none (.slice none 0 0)) := by
  have H := hid h
  obtain ⟨po, L, h1, h2, h3, h4, h5, h6, h7⟩ := h
  have c0 := h1.cell 0
  simp at c0
  clear h1 h2 h3 h4 h6 h7
  cases s with
  | none =>
    clear h5
    by_cases hle : n ≤ (L.length : Int)
    · go_enter Try.func60, Try.ntmps60
      go_wp2_with (go_at_call 59; refine (need_gone w p _ H.out).mono ?_; rintro e w' ⟨rfl, hw'⟩; have hw2 := hw'.symm; subst hw2; obtain ⟨po2, L2, k1, _⟩ := H.out; have c1 := k1.cell 1; simp at c1; clear k1)
      go_ret
      exact ⟨rfl, H.out, Only.refl _ _⟩
    · go_enter Try.func60, Try.ntmps60
      go_wp2_with (go_at_call 59; refine (need_gone w p _ H.out).mono ?_; rintro e w' ⟨rfl, hw'⟩; have hw2 := hw'.symm; subst hw2; obtain ⟨po2, L2, k1, _⟩ := H.out; have c1 := k1.cell 1; simp at c1; clear k1)
      go_ret
      exact ⟨rfl, H.out, Only.refl _ _⟩
  | some K =>
    have e : K = L := by rcases h5 with h | h <;> cases h; rfl
    subst e
    have hgt := hn K rfl
    clear hn h5
    have hle : ¬ n ≤ (K.length : Int) := by omega
    go_enter Try.func60, Try.ntmps60
    go_wp2_with (go_at_call 59; refine (need_any w p (some K) false H.out).mono ?_; rintro e w' ⟨rfl, hr, ho⟩; have HR := hid hr; have HO := hid ho; obtain ⟨po2, L2, k1, _⟩ := hr; have c1 := k1.cell 1; simp at c1; clear k1 ho)
    go_ret
    exact ⟨rfl, by simpa using HR.out, HO.out⟩
def oneV : Option (List Nat) → Nat | some (c :: _) => c | _ => 0
def oneR : Option (List Nat) → Option (List Nat) | some (_ :: r) => some r | _ => none
theorem one_any (w : World) (p : Nat) (s : Option (List Nat)) (h : Rd w p s) : Calls Try.prog 58 #[ptr p] w (ReS w p (oneR s) (u8 (oneV s))) := by
  by_cases hs : ∃ c r, s = some (c :: r)
  · obtain ⟨c, r, rfl⟩ := hs
    have ht := take_ok w p 1 (c :: r) h (by simp)
    clear h
    go_enter Try.func58, Try.ntmps58
    go_wp2_with (go_at_call 60; refine ht.mono ?_; rintro e w1 ⟨po, rfl, hb, hr, ho, hn⟩; have HR := hid hr; have HO := hid ho; obtain ⟨po2, L2, k1, _⟩ := hr; have c1 := k1.cell 1; simp at c1; clear k1 ho; have hb' : ∃ b o, po = some ⟨b, o, none⟩ ∧ w1.cell? ⟨b, o, none⟩ = some (u8 c) := (by
      rcases hb with h | ⟨b, o, h1, h2⟩
      · simp at h
      · exact ⟨b, o, h1, by have := h2 0 (by simp); simpa using this⟩); obtain ⟨b, o, rfl, hcell⟩ := hb'; clear hb hn)
    go_ret
    exact ⟨rfl, by simpa [oneR] using HR.out, HO.out⟩
  · have e1 : oneV s = 0 := by match s, hs with | none, _ => rfl | some [], _ => rfl | some (c :: r), hs => exact absurd ⟨c, r, rfl⟩ hs
    have e2 : oneR s = none := by match s, hs with | none, _ => rfl | some [], _ => rfl | some (c :: r), hs => exact absurd ⟨c, r, rfl⟩ hs
    have ht := take_bad w p 1 s h (fun L hL => by
      match L, hL with
      | [], _ => simp
      | c :: r, hL => exact absurd ⟨c, r, hL⟩ hs)
    rw [e1, e2]
    clear h
    go_enter Try.func58, Try.ntmps58
    go_wp2_with (go_at_call 60; refine ht.mono ?_; rintro e w1 ⟨rfl, hr, ho⟩; have HR := hid hr; have HO := hid ho; obtain ⟨po2, L2, k1, _⟩ := hr; have c1 := k1.cell 1; simp at c1; clear k1 ho)
    go_ret
    exact ⟨rfl, HR.out, HO.out⟩
#print axioms one_any
end Go.Proofs.Ytepkpkbgmchioaa

/- Contracts of number and text of the reader of package record; of readerOf, told, ReadUint and ReadText. -/
namespace Go.Proofs.Ytepkpkbgmchioaa
open Go Go.RowKit

theorem ofInt_i64n (a : Nat) (h : a < 9223372036854775808) : (BitVec.ofInt 64 (a : Int)).toNat = a := by
  rw [BitVec.toNat_ofInt]; omega
theorem i64_or_nat (a b : Nat) (ha : a < 9223372036854775808) (hb : b < 9223372036854775808) : bits .or .i64 (a : Int) (b : Int) = ((a ||| b : Nat) : Int) := by
  have hx : a ||| b < 2 ^ 63 := Nat.or_lt_two_pow (by omega) (by omega)
  show IntKind.i64.wrap ((BitVec.ofInt 64 (a : Int) ||| BitVec.ofInt 64 (b : Int)).toNat : Int) = _
  rw [BitVec.toNat_or, ofInt_i64n a ha, ofInt_i64n b hb]
  rw [IntKind.wrap_i64]
  omega
theorem or_add (a x i : Nat) (ha : a < 2 ^ i) : a ||| (2 ^ i * x) = a + 2 ^ i * x := by
  rw [Nat.or_comm, ← Nat.two_pow_add_eq_or_of_lt ha]; omega
/-- What the first i bytes, each with more behind it, make of the number. -/
def Acc (L : List Nat) (i acc : Nat) (L' : List Nat) : Prop := acc < 128 ^ i ∧ rdG 6 L = match rdG (6 - i) L' with
  | some (m, r) => if 0 < i ∧ m = 0 then none else some (acc + 128 ^ i * m, r)
  | none => none
theorem Acc.start (L : List Nat) : Acc L 0 0 L := by
  refine ⟨by simp, ?_⟩
  show rdG 6 L = _
  cases h : rdG 6 L with
  | none => simp
  | some p => obtain ⟨m, r⟩ := p; simp
theorem Acc.more {L : List Nat} {i acc c : Nat} {r : List Nat} (h : Acc L i acc (c :: r)) (hi : i < 6) (hc : 128 ≤ c) (hc2 : c < 256) : Acc L (i + 1) (acc + 128 ^ i * (c % 128)) r := by
  obtain ⟨h1, h2⟩ := h
  have hp : 0 < 128 ^ i := Nat.pow_pos (by omega)
  refine ⟨?_, ?_⟩
  · rw [Nat.pow_succ]
    have : 128 ^ i * (c % 128) ≤ 128 ^ i * 127 := Nat.mul_le_mul_left _ (by omega)
    omega
  · rw [h2, show 6 - i = (6 - (i + 1)) + 1 by omega]
    conv => lhs; unfold rdG
    rw [if_neg (by omega)]
    cases hr : rdG (6 - (i + 1)) r with
    | none => rfl
    | some p =>
      obtain ⟨m, t⟩ := p
      by_cases hm : m = 0
      · simp [hm]
      · have h3 : ¬ (c % 128 + 128 * m = 0) := by omega
        simp only [hm, if_false, and_false, h3, Nat.pow_succ]
        congr 2
        rw [Nat.mul_add, Nat.add_assoc, Nat.mul_assoc]
theorem Acc.last {L : List Nat} {i acc c : Nat} {r : List Nat} (h : Acc L i acc (c :: r)) (hi : i < 6) (hc : c < 128) : rdG 6 L = if 0 < i ∧ c = 0 then none else some (acc + 128 ^ i * c, r) := by
  rw [h.2, show 6 - i = (6 - (i + 1)) + 1 by omega]
  unfold rdG
  rw [if_pos hc]
theorem Acc.short {L : List Nat} {i acc : Nat} (h : Acc L i acc []) (hi : i < 6) : rdG 6 L = none := by
  rw [h.2, show 6 - i = (6 - (i + 1)) + 1 by omega]; rfl
theorem Acc.long {L : List Nat} {acc : Nat} {r : List Nat} (h : Acc L 6 acc r) : rdG 6 L = none := by rw [h.2]; rfl
theorem rdU_none {L : List Nat} (h : rdG 6 L = none) : rdU L = none := by unfold rdU; rw [h]
theorem rdU_at {L : List Nat} {n : Nat} {r : List Nat} (h : rdG 6 L = some (n, r)) : rdU L = if n ≤ 1099511627776 then some (n, r) else none := by unfold rdU; rw [h]
def NumS (w : World) (p : Nat) (s : Option (List Nat)) (e : Ending) (w' : World) : Prop :=
  ∃ v : Int, e = .returned (i64 v) ∧ Rd w' p ((s.bind rdU).map (·.2)) ∧ Only (fun b => b = p) w w' ∧ ∀ n r, s.bind rdU = some (n, r) → v = n
set_option maxRecDepth 100000 in
theorem number_gone (w : World) (p : Nat) (h : Rd w p none) : Calls Try.prog 41 #[ptr p] w (NumS w p none) := by
  have H := hid h
  have hone := one_any w p none h
  clear h
  go_enter Try.func41, Try.ntmps41
  go_wp2
  refine wp_loop_rounds 1 ?_
  rw [rounds_succ]
  go_wp2_with (first
    | (go_at_call 58; refine hone.mono ?_; rintro e w1 ⟨rfl, hr, ho⟩; simp only [oneV, oneR, u8] at *; have HR := hid hr; have HO := hid ho; clear hr ho)
    | (go_at_call 59; refine (need_gone _ p _ HR.out).mono ?_; rintro e w2 ⟨rfl, hw2⟩; have hw3 := hw2.symm; subst hw3))
  go_ret
  exact ⟨_, rfl, HR.out, HO.out, fun n r h => by cases h⟩
set_option maxRecDepth 100000 in
set_option maxHeartbeats 4000000 in
theorem number_some (w : World) (p : Nat) (L : List Nat) (h : Rd w p (some L)) : Calls Try.prog 41 #[ptr p] w (NumS w p (some L)) := by
  have H := hid h
  clear h
  go_enter Try.func41, Try.ntmps41
  go_wp2
  go_loopw [3, 4] (fun nv sv wr => ∃ (i acc : Nat) (L' : List Nat), i ≤ 6 ∧ nv = i64 acc ∧ sv = i64 ((7 * i : Nat) : Int) ∧ Acc L i acc L' ∧ Rd wr p (some L') ∧ Only (fun b => b = p) w wr) (fun _ sv _ => (49 - intOf sv).toNat)
  case atStart => exact ⟨0, 0, L, by omega, rfl, rfl, Acc.start L, H.out, Only.refl _ _⟩
  case round =>
    obtain ⟨i, acc, L', hi, rfl, rfl, ha, hr, ho⟩ := hrel
    have HA := hid ha
    have HO := hid ho
    have HR := hid hr
    have hb := hid (show ∀ x ∈ L', x < 256 from by obtain ⟨_, _, _, _, _, _, h5, _, h7⟩ := hr; rcases h5 with h | h <;> cases h; exact h7)
    clear ha ho H
    have hi6 : i = 0 ∨ i = 1 ∨ i = 2 ∨ i = 3 ∨ i = 4 ∨ i = 5 ∨ i = 6 := by omega
    rcases hi6 with rfl | rfl | rfl | rfl | rfl | rfl | rfl
    · match L', HA, HR, hb, hr with
      | [], HA, HR, hb, hr =>
        have hone : Calls Try.prog 58 #[ptr p] wr (ReS wr p none (.int .u8 0)) := one_any wr p (some []) hr
        have HU := hid (rdU_none (HA.out.short (by omega)))
        have hacc : acc < 1 := HA.out.1
        clear hr hb HR HA
        have hor0 : bits BinOp.or IntKind.i64 (acc : Int) 0 = (acc : Int) := by
          have h1 := i64_or_nat acc 0 (by omega) (by omega)
          simpa using h1
        go_wp2_with (first
          | (go_at_call 58; refine hone.mono ?_; rintro e w1 ⟨rfl, hr1, ho1⟩; have HR1 := hid hr1; have HO1 := hid ho1; clear hr1 ho1)
          | (go_at_call 59; refine (need_gone _ p _ HR1.out).mono ?_; rintro e w2 ⟨rfl, hw2⟩; have hw3 := hw2.symm; subst hw3))
        go_ret
        refine ⟨_, rfl, ?_, HO.out.trans HO1.out, fun n r h => ?_⟩
        · rw [show (some L).bind rdU = none from HU.out]; exact HR1.out
        · rw [show (some L).bind rdU = none from HU.out] at h; cases h
      | c :: r, HA, HR, hb, hr =>
        have hc2 : c < 256 := hb.out c List.mem_cons_self
        have hacc : acc < 1 := HA.out.1
        have hone : Calls Try.prog 58 #[ptr p] wr (ReS wr p (some r) (.int .u8 (c : Int))) := one_any wr p (some (c :: r)) hr
        have hor : bits BinOp.or IntKind.i64 (acc : Int) ((c : Int) % 128) = ((acc + 1 * (c % 128) : Nat) : Int) := by
          have h1 := i64_or_nat acc (1 * (c % 128)) (by omega) (by omega)
          have h2 := or_add acc (c % 128) 0 hacc
          simp only [Nat.reducePow] at h2
          rw [h2] at h1
          rw [← h1]; congr 1; omega
        clear hr hb HR
        by_cases hc : c < 128
        · have hc' : (c : Int) % 128 = (c : Int) := by omega
          have hcn : c % 128 = c := by omega
          have HU := hid (HA.out.last (by omega) hc)
          rw [hc', hcn] at hor
          simp only [Nat.reducePow] at HU
          generalize hN : acc + 1 * c = N at hor HU
          clear hN hacc HA
          by_cases hz : c = 0
          · subst hz
            have hor0 : bits BinOp.or IntKind.i64 (acc : Int) 0 = (N : Int) := by simpa using hor
            clear hor
            have HUS := hid (rdU_at (L := L) (n := N) (r := r) (by rw [HU.out]; simp))
            clear HU
            by_cases hbig : (N : Int) ≤ 1099511627776
            · have HUN : Hid (rdU L = some (N, r)) := hid (by rw [HUS.out, if_pos (by omega)])
              go_wp2_with (first
                | (go_at_call 58; refine hone.mono ?_; rintro e w1 ⟨rfl, hr1, ho1⟩; have HR1 := hid hr1; have HO1 := hid ho1; clear hr1 ho1)
                | (go_at_call 59; refine (need_any _ p _ _ HR1.out).mono ?_; rintro e w2 ⟨rfl, hr2, ho2⟩; have HR2 := hid hr2; have HO2 := hid ho2; clear hr2 ho2))
              go_ret
              refine ⟨_, rfl, ?_, HO.out.trans (HO1.out.trans HO2.out), fun n r h => ?_⟩
              · rw [show (some L).bind rdU = some (N, r) from HUN.out]; simpa using HR2.out
              · rw [show (some L).bind rdU = some (N, _) from HUN.out] at h; cases h; rfl
            · have HUN : Hid (rdU L = none) := hid (by rw [HUS.out, if_neg (by omega)])
              go_wp2_with (first
                | (go_at_call 58; refine hone.mono ?_; rintro e w1 ⟨rfl, hr1, ho1⟩; have HR1 := hid hr1; have HO1 := hid ho1; clear hr1 ho1)
                | (go_at_call 59; refine (need_any _ p _ _ HR1.out).mono ?_; rintro e w2 ⟨rfl, hr2, ho2⟩; have HR2 := hid hr2; have HO2 := hid ho2; clear hr2 ho2))
              go_ret
              refine ⟨_, rfl, ?_, HO.out.trans (HO1.out.trans HO2.out), fun n r h => ?_⟩
              · rw [show (some L).bind rdU = none from HUN.out]; simpa using HR2.out
              · rw [show (some L).bind rdU = none from HUN.out] at h; cases h
          · have hpos : 0 < c := by omega
            have HUS := hid (rdU_at (L := L) (n := N) (r := r) (by rw [HU.out]; simp))
            clear HU
            by_cases hbig : (N : Int) ≤ 1099511627776
            · have HUN : Hid (rdU L = some (N, r)) := hid (by rw [HUS.out, if_pos (by omega)])
              go_wp2_with (first
                | (go_at_call 58; refine hone.mono ?_; rintro e w1 ⟨rfl, hr1, ho1⟩; have HR1 := hid hr1; have HO1 := hid ho1; clear hr1 ho1)
                | (go_at_call 59; refine (need_any _ p _ _ HR1.out).mono ?_; rintro e w2 ⟨rfl, hr2, ho2⟩; have HR2 := hid hr2; have HO2 := hid ho2; clear hr2 ho2))
              go_ret
              refine ⟨_, rfl, ?_, HO.out.trans (HO1.out.trans HO2.out), fun n r h => ?_⟩
              · rw [show (some L).bind rdU = some (N, r) from HUN.out]; simpa using HR2.out
              · rw [show (some L).bind rdU = some (N, _) from HUN.out] at h; cases h; rfl
            · have HUN : Hid (rdU L = none) := hid (by rw [HUS.out, if_neg (by omega)])
              go_wp2_with (first
                | (go_at_call 58; refine hone.mono ?_; rintro e w1 ⟨rfl, hr1, ho1⟩; have HR1 := hid hr1; have HO1 := hid ho1; clear hr1 ho1)
                | (go_at_call 59; refine (need_any _ p _ _ HR1.out).mono ?_; rintro e w2 ⟨rfl, hr2, ho2⟩; have HR2 := hid hr2; have HO2 := hid ho2; clear hr2 ho2))
              go_ret
              refine ⟨_, rfl, ?_, HO.out.trans (HO1.out.trans HO2.out), fun n r h => ?_⟩
              · rw [show (some L).bind rdU = none from HUN.out]; simpa using HR2.out
              · rw [show (some L).bind rdU = none from HUN.out] at h; cases h
        · have HM := hid (HA.out.more (by omega) (by omega) hc2)
          simp only [Nat.reducePow] at HM
          generalize hN : acc + 1 * (c % 128) = N at hor HM
          clear hN hacc HA
          go_wp2_with (go_at_call 58; refine hone.mono ?_; rintro e w1 ⟨rfl, hr1, ho1⟩; have HR1 := hid hr1; have HO1 := hid ho1; clear hr1 ho1)
          exact ⟨⟨1, N, r, by omega, rfl, rfl, HM.out, HR1.out, HO.out.trans HO1.out⟩, by simp [intOf]⟩
    · match L', HA, HR, hb, hr with
      | [], HA, HR, hb, hr =>
        have hone : Calls Try.prog 58 #[ptr p] wr (ReS wr p none (.int .u8 0)) := one_any wr p (some []) hr
        have HU := hid (rdU_none (HA.out.short (by omega)))
        have hacc : acc < 128 := HA.out.1
        clear hr hb HR HA
        have hor0 : bits BinOp.or IntKind.i64 (acc : Int) 0 = (acc : Int) := by
          have h1 := i64_or_nat acc 0 (by omega) (by omega)
          simpa using h1
        go_wp2_with (first
          | (go_at_call 58; refine hone.mono ?_; rintro e w1 ⟨rfl, hr1, ho1⟩; have HR1 := hid hr1; have HO1 := hid ho1; clear hr1 ho1)
          | (go_at_call 59; refine (need_gone _ p _ HR1.out).mono ?_; rintro e w2 ⟨rfl, hw2⟩; have hw3 := hw2.symm; subst hw3))
        go_ret
        refine ⟨_, rfl, ?_, HO.out.trans HO1.out, fun n r h => ?_⟩
        · rw [show (some L).bind rdU = none from HU.out]; exact HR1.out
        · rw [show (some L).bind rdU = none from HU.out] at h; cases h
      | c :: r, HA, HR, hb, hr =>
        have hc2 : c < 256 := hb.out c List.mem_cons_self
        have hacc : acc < 128 := HA.out.1
        have hone : Calls Try.prog 58 #[ptr p] wr (ReS wr p (some r) (.int .u8 (c : Int))) := one_any wr p (some (c :: r)) hr
        have hor : bits BinOp.or IntKind.i64 (acc : Int) ((c : Int) % 128 * 128) = ((acc + 128 * (c % 128) : Nat) : Int) := by
          have h1 := i64_or_nat acc (128 * (c % 128)) (by omega) (by omega)
          have h2 := or_add acc (c % 128) 7 hacc
          simp only [Nat.reducePow] at h2
          rw [h2] at h1
          rw [← h1]; congr 1; omega
        clear hr hb HR
        by_cases hc : c < 128
        · have hc' : (c : Int) % 128 = (c : Int) := by omega
          have hcn : c % 128 = c := by omega
          have HU := hid (HA.out.last (by omega) hc)
          rw [hc', hcn] at hor
          simp only [Nat.reducePow] at HU
          generalize hN : acc + 128 * c = N at hor HU
          clear hN hacc HA
          by_cases hz : c = 0
          · have HUN : Hid (rdU L = none) := hid (rdU_none (by rw [HU.out]; simp [hz]))
            clear HU
            subst hz
            have hor0 : bits BinOp.or IntKind.i64 (acc : Int) 0 = (N : Int) := by simpa using hor
            clear hor
            by_cases hbig : (N : Int) ≤ 1099511627776
            · skip
              go_wp2_with (first
                | (go_at_call 58; refine hone.mono ?_; rintro e w1 ⟨rfl, hr1, ho1⟩; have HR1 := hid hr1; have HO1 := hid ho1; clear hr1 ho1)
                | (go_at_call 59; refine (need_any _ p _ _ HR1.out).mono ?_; rintro e w2 ⟨rfl, hr2, ho2⟩; have HR2 := hid hr2; have HO2 := hid ho2; clear hr2 ho2))
              go_ret
              refine ⟨_, rfl, ?_, HO.out.trans (HO1.out.trans HO2.out), fun n r h => ?_⟩
              · rw [show (some L).bind rdU = none from HUN.out]; simpa using HR2.out
              · rw [show (some L).bind rdU = none from HUN.out] at h; cases h
            · skip
              go_wp2_with (first
                | (go_at_call 58; refine hone.mono ?_; rintro e w1 ⟨rfl, hr1, ho1⟩; have HR1 := hid hr1; have HO1 := hid ho1; clear hr1 ho1)
                | (go_at_call 59; refine (need_any _ p _ _ HR1.out).mono ?_; rintro e w2 ⟨rfl, hr2, ho2⟩; have HR2 := hid hr2; have HO2 := hid ho2; clear hr2 ho2))
              go_ret
              refine ⟨_, rfl, ?_, HO.out.trans (HO1.out.trans HO2.out), fun n r h => ?_⟩
              · rw [show (some L).bind rdU = none from HUN.out]; simpa using HR2.out
              · rw [show (some L).bind rdU = none from HUN.out] at h; cases h
          · have hpos : 0 < c := by omega
            have HUS := hid (rdU_at (L := L) (n := N) (r := r) (by rw [HU.out]; simp [hz]))
            clear HU
            by_cases hbig : (N : Int) ≤ 1099511627776
            · have HUN : Hid (rdU L = some (N, r)) := hid (by rw [HUS.out, if_pos (by omega)])
              go_wp2_with (first
                | (go_at_call 58; refine hone.mono ?_; rintro e w1 ⟨rfl, hr1, ho1⟩; have HR1 := hid hr1; have HO1 := hid ho1; clear hr1 ho1)
                | (go_at_call 59; refine (need_any _ p _ _ HR1.out).mono ?_; rintro e w2 ⟨rfl, hr2, ho2⟩; have HR2 := hid hr2; have HO2 := hid ho2; clear hr2 ho2))
              go_ret
              refine ⟨_, rfl, ?_, HO.out.trans (HO1.out.trans HO2.out), fun n r h => ?_⟩
              · rw [show (some L).bind rdU = some (N, r) from HUN.out]; simpa using HR2.out
              · rw [show (some L).bind rdU = some (N, _) from HUN.out] at h; cases h; rfl
            · have HUN : Hid (rdU L = none) := hid (by rw [HUS.out, if_neg (by omega)])
              go_wp2_with (first
                | (go_at_call 58; refine hone.mono ?_; rintro e w1 ⟨rfl, hr1, ho1⟩; have HR1 := hid hr1; have HO1 := hid ho1; clear hr1 ho1)
                | (go_at_call 59; refine (need_any _ p _ _ HR1.out).mono ?_; rintro e w2 ⟨rfl, hr2, ho2⟩; have HR2 := hid hr2; have HO2 := hid ho2; clear hr2 ho2))
              go_ret
              refine ⟨_, rfl, ?_, HO.out.trans (HO1.out.trans HO2.out), fun n r h => ?_⟩
              · rw [show (some L).bind rdU = none from HUN.out]; simpa using HR2.out
              · rw [show (some L).bind rdU = none from HUN.out] at h; cases h
        · have HM := hid (HA.out.more (by omega) (by omega) hc2)
          simp only [Nat.reducePow] at HM
          generalize hN : acc + 128 * (c % 128) = N at hor HM
          clear hN hacc HA
          go_wp2_with (go_at_call 58; refine hone.mono ?_; rintro e w1 ⟨rfl, hr1, ho1⟩; have HR1 := hid hr1; have HO1 := hid ho1; clear hr1 ho1)
          exact ⟨⟨2, N, r, by omega, rfl, rfl, HM.out, HR1.out, HO.out.trans HO1.out⟩, by simp [intOf]⟩
    · match L', HA, HR, hb, hr with
      | [], HA, HR, hb, hr =>
        have hone : Calls Try.prog 58 #[ptr p] wr (ReS wr p none (.int .u8 0)) := one_any wr p (some []) hr
        have HU := hid (rdU_none (HA.out.short (by omega)))
        have hacc : acc < 16384 := HA.out.1
        clear hr hb HR HA
        have hor0 : bits BinOp.or IntKind.i64 (acc : Int) 0 = (acc : Int) := by
          have h1 := i64_or_nat acc 0 (by omega) (by omega)
          simpa using h1
        go_wp2_with (first
          | (go_at_call 58; refine hone.mono ?_; rintro e w1 ⟨rfl, hr1, ho1⟩; have HR1 := hid hr1; have HO1 := hid ho1; clear hr1 ho1)
          | (go_at_call 59; refine (need_gone _ p _ HR1.out).mono ?_; rintro e w2 ⟨rfl, hw2⟩; have hw3 := hw2.symm; subst hw3))
        go_ret
        refine ⟨_, rfl, ?_, HO.out.trans HO1.out, fun n r h => ?_⟩
        · rw [show (some L).bind rdU = none from HU.out]; exact HR1.out
        · rw [show (some L).bind rdU = none from HU.out] at h; cases h
      | c :: r, HA, HR, hb, hr =>
        have hc2 : c < 256 := hb.out c List.mem_cons_self
        have hacc : acc < 16384 := HA.out.1
        have hone : Calls Try.prog 58 #[ptr p] wr (ReS wr p (some r) (.int .u8 (c : Int))) := one_any wr p (some (c :: r)) hr
        have hor : bits BinOp.or IntKind.i64 (acc : Int) ((c : Int) % 128 * 16384) = ((acc + 16384 * (c % 128) : Nat) : Int) := by
          have h1 := i64_or_nat acc (16384 * (c % 128)) (by omega) (by omega)
          have h2 := or_add acc (c % 128) 14 hacc
          simp only [Nat.reducePow] at h2
          rw [h2] at h1
          rw [← h1]; congr 1; omega
        clear hr hb HR
        by_cases hc : c < 128
        · have hc' : (c : Int) % 128 = (c : Int) := by omega
          have hcn : c % 128 = c := by omega
          have HU := hid (HA.out.last (by omega) hc)
          rw [hc', hcn] at hor
          simp only [Nat.reducePow] at HU
          generalize hN : acc + 16384 * c = N at hor HU
          clear hN hacc HA
          by_cases hz : c = 0
          · have HUN : Hid (rdU L = none) := hid (rdU_none (by rw [HU.out]; simp [hz]))
            clear HU
            subst hz
            have hor0 : bits BinOp.or IntKind.i64 (acc : Int) 0 = (N : Int) := by simpa using hor
            clear hor
            by_cases hbig : (N : Int) ≤ 1099511627776
            · skip
              go_wp2_with (first
                | (go_at_call 58; refine hone.mono ?_; rintro e w1 ⟨rfl, hr1, ho1⟩; have HR1 := hid hr1; have HO1 := hid ho1; clear hr1 ho1)
                | (go_at_call 59; refine (need_any _ p _ _ HR1.out).mono ?_; rintro e w2 ⟨rfl, hr2, ho2⟩; have HR2 := hid hr2; have HO2 := hid ho2; clear hr2 ho2))
              go_ret
              refine ⟨_, rfl, ?_, HO.out.trans (HO1.out.trans HO2.out), fun n r h => ?_⟩
              · rw [show (some L).bind rdU = none from HUN.out]; simpa using HR2.out
              · rw [show (some L).bind rdU = none from HUN.out] at h; cases h
            · skip
              go_wp2_with (first
                | (go_at_call 58; refine hone.mono ?_; rintro e w1 ⟨rfl, hr1, ho1⟩; have HR1 := hid hr1; have HO1 := hid ho1; clear hr1 ho1)
                | (go_at_call 59; refine (need_any _ p _ _ HR1.out).mono ?_; rintro e w2 ⟨rfl, hr2, ho2⟩; have HR2 := hid hr2; have HO2 := hid ho2; clear hr2 ho2))
              go_ret
              refine ⟨_, rfl, ?_, HO.out.trans (HO1.out.trans HO2.out), fun n r h => ?_⟩
              · rw [show (some L).bind rdU = none from HUN.out]; simpa using HR2.out
              · rw [show (some L).bind rdU = none from HUN.out] at h; cases h
          · have hpos : 0 < c := by omega
            have HUS := hid (rdU_at (L := L) (n := N) (r := r) (by rw [HU.out]; simp [hz]))
            clear HU
            by_cases hbig : (N : Int) ≤ 1099511627776
            · have HUN : Hid (rdU L = some (N, r)) := hid (by rw [HUS.out, if_pos (by omega)])
              go_wp2_with (first
                | (go_at_call 58; refine hone.mono ?_; rintro e w1 ⟨rfl, hr1, ho1⟩; have HR1 := hid hr1; have HO1 := hid ho1; clear hr1 ho1)
                | (go_at_call 59; refine (need_any _ p _ _ HR1.out).mono ?_; rintro e w2 ⟨rfl, hr2, ho2⟩; have HR2 := hid hr2; have HO2 := hid ho2; clear hr2 ho2))
              go_ret
              refine ⟨_, rfl, ?_, HO.out.trans (HO1.out.trans HO2.out), fun n r h => ?_⟩
              · rw [show (some L).bind rdU = some (N, r) from HUN.out]; simpa using HR2.out
              · rw [show (some L).bind rdU = some (N, _) from HUN.out] at h; cases h; rfl
            · have HUN : Hid (rdU L = none) := hid (by rw [HUS.out, if_neg (by omega)])
              go_wp2_with (first
                | (go_at_call 58; refine hone.mono ?_; rintro e w1 ⟨rfl, hr1, ho1⟩; have HR1 := hid hr1; have HO1 := hid ho1; clear hr1 ho1)
                | (go_at_call 59; refine (need_any _ p _ _ HR1.out).mono ?_; rintro e w2 ⟨rfl, hr2, ho2⟩; have HR2 := hid hr2; have HO2 := hid ho2; clear hr2 ho2))
              go_ret
              refine ⟨_, rfl, ?_, HO.out.trans (HO1.out.trans HO2.out), fun n r h => ?_⟩
              · rw [show (some L).bind rdU = none from HUN.out]; simpa using HR2.out
              · rw [show (some L).bind rdU = none from HUN.out] at h; cases h
        · have HM := hid (HA.out.more (by omega) (by omega) hc2)
          simp only [Nat.reducePow] at HM
          generalize hN : acc + 16384 * (c % 128) = N at hor HM
          clear hN hacc HA
          go_wp2_with (go_at_call 58; refine hone.mono ?_; rintro e w1 ⟨rfl, hr1, ho1⟩; have HR1 := hid hr1; have HO1 := hid ho1; clear hr1 ho1)
          exact ⟨⟨3, N, r, by omega, rfl, rfl, HM.out, HR1.out, HO.out.trans HO1.out⟩, by simp [intOf]⟩
    · match L', HA, HR, hb, hr with
      | [], HA, HR, hb, hr =>
        have hone : Calls Try.prog 58 #[ptr p] wr (ReS wr p none (.int .u8 0)) := one_any wr p (some []) hr
        have HU := hid (rdU_none (HA.out.short (by omega)))
        have hacc : acc < 2097152 := HA.out.1
        clear hr hb HR HA
        have hor0 : bits BinOp.or IntKind.i64 (acc : Int) 0 = (acc : Int) := by
          have h1 := i64_or_nat acc 0 (by omega) (by omega)
          simpa using h1
        go_wp2_with (first
          | (go_at_call 58; refine hone.mono ?_; rintro e w1 ⟨rfl, hr1, ho1⟩; have HR1 := hid hr1; have HO1 := hid ho1; clear hr1 ho1)
          | (go_at_call 59; refine (need_gone _ p _ HR1.out).mono ?_; rintro e w2 ⟨rfl, hw2⟩; have hw3 := hw2.symm; subst hw3))
        go_ret
        refine ⟨_, rfl, ?_, HO.out.trans HO1.out, fun n r h => ?_⟩
        · rw [show (some L).bind rdU = none from HU.out]; exact HR1.out
        · rw [show (some L).bind rdU = none from HU.out] at h; cases h
      | c :: r, HA, HR, hb, hr =>
        have hc2 : c < 256 := hb.out c List.mem_cons_self
        have hacc : acc < 2097152 := HA.out.1
        have hone : Calls Try.prog 58 #[ptr p] wr (ReS wr p (some r) (.int .u8 (c : Int))) := one_any wr p (some (c :: r)) hr
        have hor : bits BinOp.or IntKind.i64 (acc : Int) ((c : Int) % 128 * 2097152) = ((acc + 2097152 * (c % 128) : Nat) : Int) := by
          have h1 := i64_or_nat acc (2097152 * (c % 128)) (by omega) (by omega)
          have h2 := or_add acc (c % 128) 21 hacc
          simp only [Nat.reducePow] at h2
          rw [h2] at h1
          rw [← h1]; congr 1; omega
        clear hr hb HR
        by_cases hc : c < 128
        · have hc' : (c : Int) % 128 = (c : Int) := by omega
          have hcn : c % 128 = c := by omega
          have HU := hid (HA.out.last (by omega) hc)
          rw [hc', hcn] at hor
          simp only [Nat.reducePow] at HU
          generalize hN : acc + 2097152 * c = N at hor HU
          clear hN hacc HA
          by_cases hz : c = 0
          · have HUN : Hid (rdU L = none) := hid (rdU_none (by rw [HU.out]; simp [hz]))
            clear HU
            subst hz
            have hor0 : bits BinOp.or IntKind.i64 (acc : Int) 0 = (N : Int) := by simpa using hor
            clear hor
            by_cases hbig : (N : Int) ≤ 1099511627776
            · skip
              go_wp2_with (first
                | (go_at_call 58; refine hone.mono ?_; rintro e w1 ⟨rfl, hr1, ho1⟩; have HR1 := hid hr1; have HO1 := hid ho1; clear hr1 ho1)
                | (go_at_call 59; refine (need_any _ p _ _ HR1.out).mono ?_; rintro e w2 ⟨rfl, hr2, ho2⟩; have HR2 := hid hr2; have HO2 := hid ho2; clear hr2 ho2))
              go_ret
              refine ⟨_, rfl, ?_, HO.out.trans (HO1.out.trans HO2.out), fun n r h => ?_⟩
              · rw [show (some L).bind rdU = none from HUN.out]; simpa using HR2.out
              · rw [show (some L).bind rdU = none from HUN.out] at h; cases h
            · skip
              go_wp2_with (first
                | (go_at_call 58; refine hone.mono ?_; rintro e w1 ⟨rfl, hr1, ho1⟩; have HR1 := hid hr1; have HO1 := hid ho1; clear hr1 ho1)
                | (go_at_call 59; refine (need_any _ p _ _ HR1.out).mono ?_; rintro e w2 ⟨rfl, hr2, ho2⟩; have HR2 := hid hr2; have HO2 := hid ho2; clear hr2 ho2))
              go_ret
              refine ⟨_, rfl, ?_, HO.out.trans (HO1.out.trans HO2.out), fun n r h => ?_⟩
              · rw [show (some L).bind rdU = none from HUN.out]; simpa using HR2.out
              · rw [show (some L).bind rdU = none from HUN.out] at h; cases h
          · have hpos : 0 < c := by omega
            have HUS := hid (rdU_at (L := L) (n := N) (r := r) (by rw [HU.out]; simp [hz]))
            clear HU
            by_cases hbig : (N : Int) ≤ 1099511627776
            · have HUN : Hid (rdU L = some (N, r)) := hid (by rw [HUS.out, if_pos (by omega)])
              go_wp2_with (first
                | (go_at_call 58; refine hone.mono ?_; rintro e w1 ⟨rfl, hr1, ho1⟩; have HR1 := hid hr1; have HO1 := hid ho1; clear hr1 ho1)
                | (go_at_call 59; refine (need_any _ p _ _ HR1.out).mono ?_; rintro e w2 ⟨rfl, hr2, ho2⟩; have HR2 := hid hr2; have HO2 := hid ho2; clear hr2 ho2))
              go_ret
              refine ⟨_, rfl, ?_, HO.out.trans (HO1.out.trans HO2.out), fun n r h => ?_⟩
              · rw [show (some L).bind rdU = some (N, r) from HUN.out]; simpa using HR2.out
              · rw [show (some L).bind rdU = some (N, _) from HUN.out] at h; cases h; rfl
            · have HUN : Hid (rdU L = none) := hid (by rw [HUS.out, if_neg (by omega)])
              go_wp2_with (first
                | (go_at_call 58; refine hone.mono ?_; rintro e w1 ⟨rfl, hr1, ho1⟩; have HR1 := hid hr1; have HO1 := hid ho1; clear hr1 ho1)
                | (go_at_call 59; refine (need_any _ p _ _ HR1.out).mono ?_; rintro e w2 ⟨rfl, hr2, ho2⟩; have HR2 := hid hr2; have HO2 := hid ho2; clear hr2 ho2))
              go_ret
              refine ⟨_, rfl, ?_, HO.out.trans (HO1.out.trans HO2.out), fun n r h => ?_⟩
              · rw [show (some L).bind rdU = none from HUN.out]; simpa using HR2.out
              · rw [show (some L).bind rdU = none from HUN.out] at h; cases h
        · have HM := hid (HA.out.more (by omega) (by omega) hc2)
          simp only [Nat.reducePow] at HM
          generalize hN : acc + 2097152 * (c % 128) = N at hor HM
          clear hN hacc HA
          go_wp2_with (go_at_call 58; refine hone.mono ?_; rintro e w1 ⟨rfl, hr1, ho1⟩; have HR1 := hid hr1; have HO1 := hid ho1; clear hr1 ho1)
          exact ⟨⟨4, N, r, by omega, rfl, rfl, HM.out, HR1.out, HO.out.trans HO1.out⟩, by simp [intOf]⟩
    · match L', HA, HR, hb, hr with
      | [], HA, HR, hb, hr =>
        have hone : Calls Try.prog 58 #[ptr p] wr (ReS wr p none (.int .u8 0)) := one_any wr p (some []) hr
        have HU := hid (rdU_none (HA.out.short (by omega)))
        have hacc : acc < 268435456 := HA.out.1
        clear hr hb HR HA
        have hor0 : bits BinOp.or IntKind.i64 (acc : Int) 0 = (acc : Int) := by
          have h1 := i64_or_nat acc 0 (by omega) (by omega)
          simpa using h1
        go_wp2_with (first
          | (go_at_call 58; refine hone.mono ?_; rintro e w1 ⟨rfl, hr1, ho1⟩; have HR1 := hid hr1; have HO1 := hid ho1; clear hr1 ho1)
          | (go_at_call 59; refine (need_gone _ p _ HR1.out).mono ?_; rintro e w2 ⟨rfl, hw2⟩; have hw3 := hw2.symm; subst hw3))
        go_ret
        refine ⟨_, rfl, ?_, HO.out.trans HO1.out, fun n r h => ?_⟩
        · rw [show (some L).bind rdU = none from HU.out]; exact HR1.out
        · rw [show (some L).bind rdU = none from HU.out] at h; cases h
      | c :: r, HA, HR, hb, hr =>
        have hc2 : c < 256 := hb.out c List.mem_cons_self
        have hacc : acc < 268435456 := HA.out.1
        have hone : Calls Try.prog 58 #[ptr p] wr (ReS wr p (some r) (.int .u8 (c : Int))) := one_any wr p (some (c :: r)) hr
        have hor : bits BinOp.or IntKind.i64 (acc : Int) ((c : Int) % 128 * 268435456) = ((acc + 268435456 * (c % 128) : Nat) : Int) := by
          have h1 := i64_or_nat acc (268435456 * (c % 128)) (by omega) (by omega)
          have h2 := or_add acc (c % 128) 28 hacc
          simp only [Nat.reducePow] at h2
          rw [h2] at h1
          rw [← h1]; congr 1; omega
        clear hr hb HR
        by_cases hc : c < 128
        · have hc' : (c : Int) % 128 = (c : Int) := by omega
          have hcn : c % 128 = c := by omega
          have HU := hid (HA.out.last (by omega) hc)
          rw [hc', hcn] at hor
          simp only [Nat.reducePow] at HU
          generalize hN : acc + 268435456 * c = N at hor HU
          clear hN hacc HA
          by_cases hz : c = 0
          · have HUN : Hid (rdU L = none) := hid (rdU_none (by rw [HU.out]; simp [hz]))
            clear HU
            subst hz
            have hor0 : bits BinOp.or IntKind.i64 (acc : Int) 0 = (N : Int) := by simpa using hor
            clear hor
            by_cases hbig : (N : Int) ≤ 1099511627776
            · skip
              go_wp2_with (first
                | (go_at_call 58; refine hone.mono ?_; rintro e w1 ⟨rfl, hr1, ho1⟩; have HR1 := hid hr1; have HO1 := hid ho1; clear hr1 ho1)
                | (go_at_call 59; refine (need_any _ p _ _ HR1.out).mono ?_; rintro e w2 ⟨rfl, hr2, ho2⟩; have HR2 := hid hr2; have HO2 := hid ho2; clear hr2 ho2))
              go_ret
              refine ⟨_, rfl, ?_, HO.out.trans (HO1.out.trans HO2.out), fun n r h => ?_⟩
              · rw [show (some L).bind rdU = none from HUN.out]; simpa using HR2.out
              · rw [show (some L).bind rdU = none from HUN.out] at h; cases h
            · skip
              go_wp2_with (first
                | (go_at_call 58; refine hone.mono ?_; rintro e w1 ⟨rfl, hr1, ho1⟩; have HR1 := hid hr1; have HO1 := hid ho1; clear hr1 ho1)
                | (go_at_call 59; refine (need_any _ p _ _ HR1.out).mono ?_; rintro e w2 ⟨rfl, hr2, ho2⟩; have HR2 := hid hr2; have HO2 := hid ho2; clear hr2 ho2))
              go_ret
              refine ⟨_, rfl, ?_, HO.out.trans (HO1.out.trans HO2.out), fun n r h => ?_⟩
              · rw [show (some L).bind rdU = none from HUN.out]; simpa using HR2.out
              · rw [show (some L).bind rdU = none from HUN.out] at h; cases h
          · have hpos : 0 < c := by omega
            have HUS := hid (rdU_at (L := L) (n := N) (r := r) (by rw [HU.out]; simp [hz]))
            clear HU
            by_cases hbig : (N : Int) ≤ 1099511627776
            · have HUN : Hid (rdU L = some (N, r)) := hid (by rw [HUS.out, if_pos (by omega)])
              go_wp2_with (first
                | (go_at_call 58; refine hone.mono ?_; rintro e w1 ⟨rfl, hr1, ho1⟩; have HR1 := hid hr1; have HO1 := hid ho1; clear hr1 ho1)
                | (go_at_call 59; refine (need_any _ p _ _ HR1.out).mono ?_; rintro e w2 ⟨rfl, hr2, ho2⟩; have HR2 := hid hr2; have HO2 := hid ho2; clear hr2 ho2))
              go_ret
              refine ⟨_, rfl, ?_, HO.out.trans (HO1.out.trans HO2.out), fun n r h => ?_⟩
              · rw [show (some L).bind rdU = some (N, r) from HUN.out]; simpa using HR2.out
              · rw [show (some L).bind rdU = some (N, _) from HUN.out] at h; cases h; rfl
            · have HUN : Hid (rdU L = none) := hid (by rw [HUS.out, if_neg (by omega)])
              go_wp2_with (first
                | (go_at_call 58; refine hone.mono ?_; rintro e w1 ⟨rfl, hr1, ho1⟩; have HR1 := hid hr1; have HO1 := hid ho1; clear hr1 ho1)
                | (go_at_call 59; refine (need_any _ p _ _ HR1.out).mono ?_; rintro e w2 ⟨rfl, hr2, ho2⟩; have HR2 := hid hr2; have HO2 := hid ho2; clear hr2 ho2))
              go_ret
              refine ⟨_, rfl, ?_, HO.out.trans (HO1.out.trans HO2.out), fun n r h => ?_⟩
              · rw [show (some L).bind rdU = none from HUN.out]; simpa using HR2.out
              · rw [show (some L).bind rdU = none from HUN.out] at h; cases h
        · have HM := hid (HA.out.more (by omega) (by omega) hc2)
          simp only [Nat.reducePow] at HM
          generalize hN : acc + 268435456 * (c % 128) = N at hor HM
          clear hN hacc HA
          go_wp2_with (go_at_call 58; refine hone.mono ?_; rintro e w1 ⟨rfl, hr1, ho1⟩; have HR1 := hid hr1; have HO1 := hid ho1; clear hr1 ho1)
          exact ⟨⟨5, N, r, by omega, rfl, rfl, HM.out, HR1.out, HO.out.trans HO1.out⟩, by simp [intOf]⟩
    · match L', HA, HR, hb, hr with
      | [], HA, HR, hb, hr =>
        have hone : Calls Try.prog 58 #[ptr p] wr (ReS wr p none (.int .u8 0)) := one_any wr p (some []) hr
        have HU := hid (rdU_none (HA.out.short (by omega)))
        have hacc : acc < 34359738368 := HA.out.1
        clear hr hb HR HA
        have hor0 : bits BinOp.or IntKind.i64 (acc : Int) 0 = (acc : Int) := by
          have h1 := i64_or_nat acc 0 (by omega) (by omega)
          simpa using h1
        go_wp2_with (first
          | (go_at_call 58; refine hone.mono ?_; rintro e w1 ⟨rfl, hr1, ho1⟩; have HR1 := hid hr1; have HO1 := hid ho1; clear hr1 ho1)
          | (go_at_call 59; refine (need_gone _ p _ HR1.out).mono ?_; rintro e w2 ⟨rfl, hw2⟩; have hw3 := hw2.symm; subst hw3))
        go_ret
        refine ⟨_, rfl, ?_, HO.out.trans HO1.out, fun n r h => ?_⟩
        · rw [show (some L).bind rdU = none from HU.out]; exact HR1.out
        · rw [show (some L).bind rdU = none from HU.out] at h; cases h
      | c :: r, HA, HR, hb, hr =>
        have hc2 : c < 256 := hb.out c List.mem_cons_self
        have hacc : acc < 34359738368 := HA.out.1
        have hone : Calls Try.prog 58 #[ptr p] wr (ReS wr p (some r) (.int .u8 (c : Int))) := one_any wr p (some (c :: r)) hr
        have hor : bits BinOp.or IntKind.i64 (acc : Int) ((c : Int) % 128 * 34359738368) = ((acc + 34359738368 * (c % 128) : Nat) : Int) := by
          have h1 := i64_or_nat acc (34359738368 * (c % 128)) (by omega) (by omega)
          have h2 := or_add acc (c % 128) 35 hacc
          simp only [Nat.reducePow] at h2
          rw [h2] at h1
          rw [← h1]; congr 1; omega
        clear hr hb HR
        by_cases hc : c < 128
        · have hc' : (c : Int) % 128 = (c : Int) := by omega
          have hcn : c % 128 = c := by omega
          have HU := hid (HA.out.last (by omega) hc)
          rw [hc', hcn] at hor
          simp only [Nat.reducePow] at HU
          generalize hN : acc + 34359738368 * c = N at hor HU
          clear hN hacc HA
          by_cases hz : c = 0
          · have HUN : Hid (rdU L = none) := hid (rdU_none (by rw [HU.out]; simp [hz]))
            clear HU
            subst hz
            have hor0 : bits BinOp.or IntKind.i64 (acc : Int) 0 = (N : Int) := by simpa using hor
            clear hor
            by_cases hbig : (N : Int) ≤ 1099511627776
            · skip
              go_wp2_with (first
                | (go_at_call 58; refine hone.mono ?_; rintro e w1 ⟨rfl, hr1, ho1⟩; have HR1 := hid hr1; have HO1 := hid ho1; clear hr1 ho1)
                | (go_at_call 59; refine (need_any _ p _ _ HR1.out).mono ?_; rintro e w2 ⟨rfl, hr2, ho2⟩; have HR2 := hid hr2; have HO2 := hid ho2; clear hr2 ho2))
              go_ret
              refine ⟨_, rfl, ?_, HO.out.trans (HO1.out.trans HO2.out), fun n r h => ?_⟩
              · rw [show (some L).bind rdU = none from HUN.out]; simpa using HR2.out
              · rw [show (some L).bind rdU = none from HUN.out] at h; cases h
            · skip
              go_wp2_with (first
                | (go_at_call 58; refine hone.mono ?_; rintro e w1 ⟨rfl, hr1, ho1⟩; have HR1 := hid hr1; have HO1 := hid ho1; clear hr1 ho1)
                | (go_at_call 59; refine (need_any _ p _ _ HR1.out).mono ?_; rintro e w2 ⟨rfl, hr2, ho2⟩; have HR2 := hid hr2; have HO2 := hid ho2; clear hr2 ho2))
              go_ret
              refine ⟨_, rfl, ?_, HO.out.trans (HO1.out.trans HO2.out), fun n r h => ?_⟩
              · rw [show (some L).bind rdU = none from HUN.out]; simpa using HR2.out
              · rw [show (some L).bind rdU = none from HUN.out] at h; cases h
          · have hpos : 0 < c := by omega
            have HUS := hid (rdU_at (L := L) (n := N) (r := r) (by rw [HU.out]; simp [hz]))
            clear HU
            by_cases hbig : (N : Int) ≤ 1099511627776
            · have HUN : Hid (rdU L = some (N, r)) := hid (by rw [HUS.out, if_pos (by omega)])
              go_wp2_with (first
                | (go_at_call 58; refine hone.mono ?_; rintro e w1 ⟨rfl, hr1, ho1⟩; have HR1 := hid hr1; have HO1 := hid ho1; clear hr1 ho1)
                | (go_at_call 59; refine (need_any _ p _ _ HR1.out).mono ?_; rintro e w2 ⟨rfl, hr2, ho2⟩; have HR2 := hid hr2; have HO2 := hid ho2; clear hr2 ho2))
              go_ret
              refine ⟨_, rfl, ?_, HO.out.trans (HO1.out.trans HO2.out), fun n r h => ?_⟩
              · rw [show (some L).bind rdU = some (N, r) from HUN.out]; simpa using HR2.out
              · rw [show (some L).bind rdU = some (N, _) from HUN.out] at h; cases h; rfl
            · have HUN : Hid (rdU L = none) := hid (by rw [HUS.out, if_neg (by omega)])
              go_wp2_with (first
                | (go_at_call 58; refine hone.mono ?_; rintro e w1 ⟨rfl, hr1, ho1⟩; have HR1 := hid hr1; have HO1 := hid ho1; clear hr1 ho1)
                | (go_at_call 59; refine (need_any _ p _ _ HR1.out).mono ?_; rintro e w2 ⟨rfl, hr2, ho2⟩; have HR2 := hid hr2; have HO2 := hid ho2; clear hr2 ho2))
              go_ret
              refine ⟨_, rfl, ?_, HO.out.trans (HO1.out.trans HO2.out), fun n r h => ?_⟩
              · rw [show (some L).bind rdU = none from HUN.out]; simpa using HR2.out
              · rw [show (some L).bind rdU = none from HUN.out] at h; cases h
        · have HM := hid (HA.out.more (by omega) (by omega) hc2)
          simp only [Nat.reducePow] at HM
          generalize hN : acc + 34359738368 * (c % 128) = N at hor HM
          clear hN hacc HA
          go_wp2_with (go_at_call 58; refine hone.mono ?_; rintro e w1 ⟨rfl, hr1, ho1⟩; have HR1 := hid hr1; have HO1 := hid ho1; clear hr1 ho1)
          exact ⟨⟨6, N, r, by omega, rfl, rfl, HM.out, HR1.out, HO.out.trans HO1.out⟩, by simp [intOf]⟩
    · have HU := hid (rdU_none HA.out.long)
      clear hr hb HA
      go_wp2_with (go_at_call 59; refine (need_any _ p _ _ HR.out).mono ?_; rintro e w2 ⟨rfl, hr2, ho2⟩; have HR2 := hid hr2; have HO2 := hid ho2; clear hr2 ho2)
      go_ret
      refine ⟨_, rfl, ?_, HO.out.trans HO2.out, fun n r h => ?_⟩
      · rw [show (some L).bind rdU = none from HU.out]; simpa using HR2.out
      · rw [show (some L).bind rdU = none from HU.out] at h; cases h
/- behind number_some -/
end Go.Proofs.Ytepkpkbgmchioaa

/- Contracts of number and text of the reader, whatever it has; of readerOf, told, ReadUint and ReadText. -/
namespace Go.Proofs.Ytepkpkbgmchioaa
open Go Go.RowKit

theorem number_any (w : World) (p : Nat) (s : Option (List Nat)) (h : Rd w p s) : Calls Try.prog 41 #[ptr p] w (NumS w p s) := by
  cases s with
  | none => exact number_gone w p h
  | some L => exact number_some w p L h
def TexS (w : World) (p : Nat) (s : Option (List Nat)) (e : Ending) (w' : World) : Prop :=
  ∃ t : ByteArray, e = .returned (.string t) ∧ Rd w' p ((s.bind rdT).map (·.2)) ∧ Only (fun b => b = p) w w' ∧ t.size ≤ 65536 ∧ ∀ x r, s.bind rdT = some (x, r) → lst t = x
theorem rdT_bad {s : Option (List Nat)} (h : s.bind rdU = none) : s.bind rdT = none := by
  cases s with
  | none => rfl
  | some L => have h' : rdU L = none := h; show rdT L = none; unfold rdT; rw [h']
theorem rdT_of {s : Option (List Nat)} {n : Nat} {r : List Nat} (h : s.bind rdU = some (n, r)) : s.bind rdT = if n ≤ 65536 ∧ n ≤ r.length then some (r.take n, r.drop n) else none := by
  cases s with
  | none => cases h
  | some L => have h' : rdU L = some (n, r) := h; show rdT L = _; unfold rdT; rw [h']
theorem Rd.bytes {w : World} {p : Nat} {L : List Nat} (h : Rd w p (some L)) : L.length ≤ 100000 ∧ ∀ x ∈ L, x < 256 := by
  obtain ⟨_, _, _, _, _, _, h5, h6, h7⟩ := h
  rcases h5 with h | h <;> cases h
  exact ⟨h6, h7⟩
set_option maxRecDepth 100000 in
set_option maxHeartbeats 1000000 in
theorem text_any (w : World) (p : Nat) (s : Option (List Nat)) (h : Rd w p s) : Calls Try.prog 43 #[ptr p] w (TexS w p s) := by
  have hnum := number_any w p s h
  clear h
  have hcn : ∀ w : World, (convert 22 9 (.slice none 0 0)).run Try.prog w = .ok (.string ⟨#[]⟩) w := fun w => (BL.nil w none).conv 0
  have hbad : ∀ (w2 w3 : World), s.bind rdT = none → Rd w3 p none → Only (fun b => b = p) w w3 → TexS w p s (.returned (.string ⟨#[]⟩)) w3 := fun w2 w3 h1 h2 h3 =>
    ⟨⟨#[]⟩, rfl, by rw [h1]; exact h2, h3, by simp [ByteArray.size], fun x r h => by rw [h1] at h; cases h⟩
  have HBAD := hid hbad
  clear hbad
  cases hs : s.bind rdU with
  | none =>
    have HT := hid (rdT_bad hs)
    have HS := hid hs
    clear hs
    go_enter Try.func43, Try.ntmps43
    go_wp2_with (first
      | (go_at_call 41; refine hnum.mono ?_; rintro e w1 ⟨v, rfl, hr1, ho1, _⟩; rw [HS.out] at hr1; have HR1 := hid hr1; have HO1 := hid ho1; clear hr1 ho1)
      | (go_at_call 59; refine (need_gone _ p _ HR1.out).mono ?_; rintro e w2 ⟨rfl, hw2⟩; have hw3 := hw2.symm; subst hw3)
      | (go_at_call 60; refine (take_bad _ p _ none HR1.out (fun L h => by cases h)).mono ?_; rintro e w3 ⟨rfl, hr3, ho3⟩; have HR3 := hid hr3; have HO3 := hid ho3; clear hr3 ho3))
    go_ret
    exact HBAD.out w _ HT.out HR3.out (HO1.out.trans HO3.out)
  | some q =>
    obtain ⟨n, r⟩ := q
    have HT := hid (rdT_of hs)
    have HS := hid hs
    clear hs
    by_cases hn : n ≤ 65536
    · by_cases hl : n ≤ r.length
      · have hn' : (n : Int) ≤ 65536 := by omega
        go_enter Try.func43, Try.ntmps43
        go_wp2_with (first
          | (go_at_call 41; refine hnum.mono ?_; rintro e w1 ⟨v, rfl, hr1, ho1, hv⟩; have hv2 := hv n r HS.out; subst hv2; rw [HS.out] at hr1; have HR1 := hid hr1; have HO1 := hid ho1; clear hr1 ho1 hv)
          | (go_at_call 59; refine (need_true _ p).mono ?_; rintro e w2 ⟨rfl, hw2⟩; have hw3 := hw2.symm; subst hw3)
          | (go_at_call 60; refine (take_ok _ p n r HR1.out hl).mono ?_; rintro e w3 ⟨po, rfl, hb3, hr3, ho3, _⟩; have hcv := hb3.conv n; rw [show (r.take n).length = n by rw [List.length_take]; omega] at hcv; have HR3 := hid hr3; have HO3 := hid ho3; clear hr3 ho3))
        go_ret
        have e := HT.out
        rw [if_pos ⟨hn, hl⟩] at e
        refine ⟨_, rfl, by rw [e]; exact HR3.out, HO1.out.trans HO3.out, ?_, fun x r2 h => ?_⟩
        · unfold ba; rw [strOfNums_size, List.length_map, List.length_take]; omega
        · rw [e] at h; cases h; exact lst_ba fun x hx => HR1.out.bytes.2 x (List.mem_of_mem_take hx)
      · have hn' : (n : Int) ≤ 65536 := by omega
        have e := HT.out
        rw [if_neg (fun h => hl h.2)] at e
        have HE := hid e
        clear e
        go_enter Try.func43, Try.ntmps43
        go_wp2_with (first
          | (go_at_call 41; refine hnum.mono ?_; rintro e w1 ⟨v, rfl, hr1, ho1, hv⟩; have hv2 := hv n r HS.out; subst hv2; rw [HS.out] at hr1; have HR1 := hid hr1; have HO1 := hid ho1; clear hr1 ho1 hv)
          | (go_at_call 59; refine (need_true _ p).mono ?_; rintro e w2 ⟨rfl, hw2⟩; have hw3 := hw2.symm; subst hw3)
          | (go_at_call 60; refine (take_bad _ p _ (some r) HR1.out (fun L h => by cases h; omega)).mono ?_; rintro e w3 ⟨rfl, hr3, ho3⟩; have HR3 := hid hr3; have HO3 := hid ho3; clear hr3 ho3))
        go_ret
        exact HBAD.out w _ HE.out HR3.out (HO1.out.trans HO3.out)
    · have hn' : ¬ (n : Int) ≤ 65536 := by omega
      have e := HT.out
      rw [if_neg (fun h => hn h.1)] at e
      have HE := hid e
      clear e
      go_enter Try.func43, Try.ntmps43
      go_wp2_with (first
        | (go_at_call 41; refine hnum.mono ?_; rintro e w1 ⟨v, rfl, hr1, ho1, hv⟩; have hv2 := hv n r HS.out; subst hv2; rw [HS.out] at hr1; have HR1 := hid hr1; have HO1 := hid ho1; clear hr1 ho1 hv)
        | (go_at_call 59; refine (need_any _ p _ _ HR1.out).mono ?_; rintro e w2 ⟨rfl, hr2, ho2⟩; have HR2 : Hid (Rd w2 p none) := hid (by have hz : ¬ ((n : Int) ≤ 65536) := (by omega); simpa [hz] using hr2); have HO2 := hid ho2; clear hr2 ho2)
        | (go_at_call 60; refine (take_bad _ p _ none HR2.out (fun L h => by cases h)).mono ?_; rintro e w3 ⟨rfl, hr3, ho3⟩; have HR3 := hid hr3; have HO3 := hid ho3; clear hr3 ho3))
      go_ret
      exact HBAD.out w _ HE.out HR3.out (HO1.out.trans (HO2.out.trans HO3.out))
theorem clip_bl (po : Option Addr) (n c : Nat) (hc : n ≤ c) (w : World) : Calls Try.prog 36 #[.slice po n c] w fun e w' => e = .returned (.slice po n n) ∧ w' = w := by
  have hs := run_clip8 po n c hc
  go_enter Try.func36, Try.ntmps36
  go_wp2
  go_ret
  exact ⟨rfl, rfl⟩
theorem readerOf_any (po : Option Addr) (c : Nat) (bs : List Nat) (w : World) (h : BL w po bs) (hc : bs.length ≤ c) (hn : bs.length ≤ 100000) (h8 : ∀ x ∈ bs, x < 256) :
    Calls Try.prog 39 #[.slice po bs.length c] w fun e w' => e = .returned (ptr w.heap.size) ∧ Rd w' w.heap.size (some bs) ∧ Below w.heap.size w w' := by
  have H := hid h
  have H8 := hid h8
  clear h h8
  go_enter Try.func39, Try.ntmps39
  go_wp2_with (go_at_call 36; refine (clip_bl po bs.length c hc w).mono ?_; rintro e w2 ⟨rfl, hw2⟩; have hw3 := hw2.symm; subst hw3)
  go_ret
  refine ⟨rfl, ⟨po, bs, CAt.made _ _ _, H.out.below (below_al _ _), fun hne a ha => ?_, fun e => ?_, Or.inr rfl, hn, H8.out⟩, below_al _ _⟩
  · rcases H.out with h | ⟨b, o, h1, h2⟩
    · exact absurd h hne
    · rw [h1] at ha; cases ha
      have := h2 0 (List.length_pos_iff.2 hne)
      exact cell_lt' (a := ⟨b, o + 0, none⟩) (by rw [this]; simp)
  · rcases H.out with h | ⟨b, o, h1, h2⟩
    · exact h
    · rw [h1] at e; cases e
def TolS (w : World) (L : List Nat) (v : Value) (e : Ending) (w' : World) : Prop := ∃ out, e = .returned (.tuple #[v, out, i64 0]) ∧ OutB w.heap.size w' out L ∧ Below w.heap.size w w'
theorem toldI_bad (w : World) (p : Nat) (v : Int) (h : Rd w p none) : Calls Try.prog 40 #[ptr p, i64 v] w fun e w' => e = .returned (.tuple #[i64 0, .slice none 0 0, i64 4]) ∧ Below w.heap.size w w' := by
  obtain ⟨po, L, h1, _⟩ := h
  have c1 := h1.cell 1
  simp at c1
  clear h1
  go_enter Try.func40, Try.ntmps40
  go_wp2
  go_region
  go_wp2
  go_ret3
  exact ⟨rfl, (Below.refl _ _).drew⟩
theorem toldI_ok (w : World) (p : Nat) (K : List Nat) (v : Int) (h : Rd w p (some K)) : Calls Try.prog 40 #[ptr p, i64 v] w (TolS w K (i64 v)) := by
  obtain ⟨po, L, h1, h2, h3, h4, h5, h6, h7⟩ := h
  have c0 := h1.cell 0
  have c1 := h1.cell 1
  have e : K = L := by rcases h5 with h | h <;> cases h; rfl
  subst e
  simp at c0 c1
  have hf := fresh_any po K.length K w h2 (fun e => by rw [h4 e]; rfl) (by omega)
  clear h1 h2 h3 h4 h5 h6 h7
  go_enter Try.func40, Try.ntmps40
  go_wp2_with (go_at_call 57; refine hf.mono ?_; rintro e w2 ⟨v2, rfl, ho, hb⟩)
  go_ret3
  exact ⟨v2, rfl, ho, hb⟩
theorem toldT_bad (w : World) (p : Nat) (v : ByteArray) (h : Rd w p none) : Calls Try.prog 42 #[ptr p, .string v] w fun e w' => e = .returned (.tuple #[.string ⟨#[]⟩, .slice none 0 0, i64 4]) ∧ Below w.heap.size w w' := by
  obtain ⟨po, L, h1, _⟩ := h
  have c1 := h1.cell 1
  simp at c1
  clear h1
  go_enter Try.func42, Try.ntmps42
  go_wp2
  go_region
  go_wp2
  go_ret3
  exact ⟨rfl, (Below.refl _ _).drew⟩
theorem toldT_ok (w : World) (p : Nat) (K : List Nat) (v : ByteArray) (h : Rd w p (some K)) : Calls Try.prog 42 #[ptr p, .string v] w (TolS w K (.string v)) := by
  obtain ⟨po, L, h1, h2, h3, h4, h5, h6, h7⟩ := h
  have c0 := h1.cell 0
  have c1 := h1.cell 1
  have e : K = L := by rcases h5 with h | h <;> cases h; rfl
  subst e
  simp at c0 c1
  have hf := fresh_any po K.length K w h2 (fun e => by rw [h4 e]; rfl) (by omega)
  clear h1 h2 h3 h4 h5 h6 h7
  go_enter Try.func42, Try.ntmps42
  go_wp2_with (go_at_call 57; refine hf.mono ?_; rintro e w2 ⟨v2, rfl, ho, hb⟩)
  go_ret3
  exact ⟨v2, rfl, ho, hb⟩
theorem readUint_bad (po : Option Addr) (c : Nat) (bs : List Nat) (w : World) (h : BL w po bs) (hc : bs.length ≤ c) (hn : bs.length ≤ 100000) (h8 : ∀ x ∈ bs, x < 256) (hq : rdU bs = none) :
    Calls Try.prog 15 #[.slice po bs.length c] w fun e w' => e = .returned (.tuple #[i64 0, .slice none 0 0, i64 4]) ∧ Below w.heap.size w w' := by
  have hro := readerOf_any po c bs w h hc hn h8
  have HQ : Hid ((some bs).bind rdU = none) := hid hq
  clear h h8 hq
  go_enter Try.func15, Try.ntmps15
  go_wp2_with (first
    | (go_at_call 39; refine hro.mono ?_; rintro e w1 ⟨rfl, hr1, hb1⟩; have HB1 := hid hb1; have HR1 := hid hr1; clear hr1 hb1)
    | (go_at_call 41; refine (number_any _ _ _ HR1.out).mono ?_; rintro e w2 ⟨v, rfl, hr2, ho2, _⟩; rw [HQ.out] at hr2; have HR2 := hid hr2; have HO2 := hid ho2; clear hr2 ho2)
    | (go_at_call 40; refine (toldI_bad _ _ _ HR2.out).mono ?_; rintro e w3 ⟨rfl, hb3⟩; have HB3 := hid hb3; clear hb3)) 
  go_ret3
  exact ⟨rfl, below_on (below_tr HB1.out (HO2.out.below HB1.out.size (fun i e => by omega))) HB3.out⟩
def readUintS (w : World) (x : Nat) (r : List Nat) (e : Ending) (w' : World) : Prop := ∃ out, e = .returned (.tuple #[i64 x, out, i64 0]) ∧ OutB w.heap.size w' out r ∧ Below w.heap.size w w'
theorem readUint_ok (po : Option Addr) (c : Nat) (bs : List Nat) (w : World) (h : BL w po bs) (hc : bs.length ≤ c) (hn : bs.length ≤ 100000) (h8 : ∀ x ∈ bs, x < 256) {x : Nat} {r : List Nat} (hq : rdU bs = some (x, r)) :
    Calls Try.prog 15 #[.slice po bs.length c] w (readUintS w x r) := by
  have hro := readerOf_any po c bs w h hc hn h8
  have HQ : Hid ((some bs).bind rdU = some (x, r)) := hid hq
  clear h h8 hq
  go_enter Try.func15, Try.ntmps15
  go_wp2_with (first
    | (go_at_call 39; refine hro.mono ?_; rintro e w1 ⟨rfl, hr1, hb1⟩; have HB1 := hid hb1; have HR1 := hid hr1; clear hr1 hb1)
    | (go_at_call 41; refine (number_any _ _ _ HR1.out).mono ?_; rintro e w2 ⟨v, rfl, hr2, ho2, hv⟩; have hv2 := hv _ _ HQ.out; subst hv2; rw [HQ.out] at hr2; have HR2 := hid hr2; have HO2 := hid ho2; clear hr2 ho2 hv)
    | (go_at_call 40; refine (toldI_ok _ _ r _ HR2.out).mono ?_; rintro e w3 ⟨out, rfl, hout, hb3⟩; have HT := hid hout; have HB3 := hid hb3; clear hout hb3))
  go_ret3
  have h2 := below_tr HB1.out (HO2.out.below HB1.out.size (fun i e => by omega))
  exact ⟨out, rfl, HT.out.base h2.size, below_on h2 HB3.out⟩
theorem readText_bad (po : Option Addr) (c : Nat) (bs : List Nat) (w : World) (h : BL w po bs) (hc : bs.length ≤ c) (hn : bs.length ≤ 100000) (h8 : ∀ x ∈ bs, x < 256) (hq : rdT bs = none) :
    Calls Try.prog 16 #[.slice po bs.length c] w fun e w' => e = .returned (.tuple #[.string ⟨#[]⟩, .slice none 0 0, i64 4]) ∧ Below w.heap.size w w' := by
  have hro := readerOf_any po c bs w h hc hn h8
  have HQ : Hid ((some bs).bind rdT = none) := hid hq
  clear h h8 hq
  go_enter Try.func16, Try.ntmps16
  go_wp2_with (first
    | (go_at_call 39; refine hro.mono ?_; rintro e w1 ⟨rfl, hr1, hb1⟩; have HB1 := hid hb1; have HR1 := hid hr1; clear hr1 hb1)
    | (go_at_call 43; refine (text_any _ _ _ HR1.out).mono ?_; rintro e w2 ⟨v, rfl, hr2, ho2, _⟩; rw [HQ.out] at hr2; have HR2 := hid hr2; have HO2 := hid ho2; clear hr2 ho2)
    | (go_at_call 42; refine (toldT_bad _ _ _ HR2.out).mono ?_; rintro e w3 ⟨rfl, hb3⟩; have HB3 := hid hb3; clear hb3)) 
  go_ret3
  exact ⟨rfl, below_on (below_tr HB1.out (HO2.out.below HB1.out.size (fun i e => by omega))) HB3.out⟩
def readTextS (w : World) (x : List Nat) (r : List Nat) (e : Ending) (w' : World) : Prop := ∃ t : ByteArray, ∃ out, lst t = x ∧ t.size ≤ 65536 ∧ e = .returned (.tuple #[.string t, out, i64 0]) ∧ OutB w.heap.size w' out r ∧ Below w.heap.size w w'
theorem readText_ok (po : Option Addr) (c : Nat) (bs : List Nat) (w : World) (h : BL w po bs) (hc : bs.length ≤ c) (hn : bs.length ≤ 100000) (h8 : ∀ x ∈ bs, x < 256) {x : List Nat} {r : List Nat} (hq : rdT bs = some (x, r)) :
    Calls Try.prog 16 #[.slice po bs.length c] w (readTextS w x r) := by
  have hro := readerOf_any po c bs w h hc hn h8
  have HQ : Hid ((some bs).bind rdT = some (x, r)) := hid hq
  clear h h8 hq
  go_enter Try.func16, Try.ntmps16
  go_wp2_with (first
    | (go_at_call 39; refine hro.mono ?_; rintro e w1 ⟨rfl, hr1, hb1⟩; have HB1 := hid hb1; have HR1 := hid hr1; clear hr1 hb1)
    | (go_at_call 43; refine (text_any _ _ _ HR1.out).mono ?_; rintro e w2 ⟨v, rfl, hr2, ho2, hz, hv⟩; have hv2 := hv _ _ HQ.out; rw [HQ.out] at hr2; have HR2 := hid hr2; have HO2 := hid ho2; clear hr2 ho2 hv)
    | (go_at_call 42; refine (toldT_ok _ _ r _ HR2.out).mono ?_; rintro e w3 ⟨out, rfl, hout, hb3⟩; have HT := hid hout; have HB3 := hid hb3; clear hout hb3))
  go_ret3
  have h2 := below_tr HB1.out (HO2.out.below HB1.out.size (fun i e => by omega))
  exact ⟨v, out, hv2, hz, rfl, HT.out.base h2.size, below_on h2 HB3.out⟩
#print axioms readUint_ok
#print axioms readText_ok
end Go.Proofs.Ytepkpkbgmchioaa

/- Contracts of the document's Uint, Text, ReadUint and ReadText. -/
namespace Go.Proofs.Ytepkpkbgmchioaa
open Go Go.RowKit

theorem Buf.one (w : World) (k : Nat) (B : Nat) (hB : B ≤ w.heap.size) : Buf B (w.alloc (.cells #[u8 k] 5)) (.slice (some ⟨w.heap.size, 0, none⟩) 1 1) [k] :=
  ⟨rfl, Or.inr ⟨w.heap.size, 1, #[u8 k], rfl, hB, at_new _ _, Nat.le_refl _, by unfold maxLen; omega, rfl, rfl⟩⟩
theorem Buf.base {B C : Nat} {w : World} {v : Value} {L : List Nat} (h : Buf B w v L) (hC : C ≤ B) : Buf C w v L := own_base h hC
theorem Buf.capn {B : Nat} {w : World} {n c : Nat} {L : List Nat} (h : Buf B w (.slice none n c) L) : c = 0 := by
  rcases h.2 with ⟨h, _⟩ | ⟨g, _, _, h, _⟩
  · simp at h; exact h.2
  · simp at h
set_option maxRecDepth 100000 in
theorem rUint_k (k : Nat) : ∀ (n : Nat) (w : World), n < 128 ^ (k + 1) → n ≤ 1099511627776 → Calls Try.prog 12 #[i64 n] w (BufS w.heap.size w (nb n)) := by
  induction k with
  | zero =>
    intro n w hk hn
    have hlt : (n : Int) < 128 := by omega
    have HB := hid (Buf.one w n w.heap.size (Nat.le_refl _))
    go_enter Try.func12, Try.ntmps12
    go_wp2_with fail
    go_ret
    rw [nb_lt (by omega)]
    exact ⟨_, rfl, HB.out, below_al _ _⟩
  | succ k ih =>
    intro n w hk hn
    by_cases hlt : (n : Int) < 128
    · have HB := hid (Buf.one w n w.heap.size (Nat.le_refl _))
      go_enter Try.func12, Try.ntmps12
      go_wp2_with fail
      go_ret
      rw [nb_lt (by omega)]
      exact ⟨_, rfl, HB.out, below_al _ _⟩
    · have h128 : n / 128 < 128 ^ (k + 1) := by rw [Nat.pow_succ] at hk; exact Nat.div_lt_of_lt_mul (by rw [Nat.mul_comm]; exact hk)
      have HB := hid (Buf.one w (n % 128 + 128) w.heap.size (Nat.le_refl _))
      have HIH := hid (ih (n / 128) (w.alloc (.cells #[u8 (n % 128 + 128)] 5)) h128 (by omega))
      have hc : (n : Int) % 128 + 128 = ((n % 128 + 128 : Nat) : Int) := by omega
      have hlen := nb_le (n := n / 128) (by omega)
      have e0 : nb n = (n % 128 + 128) :: nb (n / 128) := nb_ge (by omega)
      have HE := hid e0
      generalize hcc : n % 128 + 128 = cc at *
      clear e0 ih h128
      go_enter Try.func12, Try.ntmps12
      go_wp2_with (first
        | (go_at_call 12; refine (HIH.out).mono ?_; rintro e w2 ⟨v2, rfl, hb2, hw2⟩; obtain ⟨po2, c2, rfl⟩ := hb2.form; obtain ⟨v3, w3, hr3, hb3, hg3⟩ := (HB.out.below hw2).app po2 c2 _ hb2.bl (fun e => by subst e; exact hb2.capn) (by simp; omega) (by have := hw2.size; rw [size_al] at this; omega); have HRUN := hid hr3; clear hr3)
        | (at_builtin; refine wpList_append_run _ _ 22 22 rfl rfl _ _ _ rfl rfl HRUN.out ?_))
      go_ret
      rw [HE.out]
      exact ⟨v3, rfl, hb3, below_grown (below_on (below_al _ _) hw2) hg3 (Nat.le_refl _) (fun b hb => by cases hb; exact Nat.le_refl _)⟩
theorem rUint_any (n : Nat) (w : World) (hn : n ≤ 1099511627776) : Calls Try.prog 12 #[i64 n] w (BufS w.heap.size w (nb n)) := rUint_k 5 n w (by omega) hn
theorem rText_any (s : ByteArray) (w : World) (hn : s.size ≤ 65536) : Calls Try.prog 13 #[.string s] w (BufS w.heap.size w (tb (lst s))) := by
  go_enter Try.func13, Try.ntmps13
  go_wp2_with (first
    | (go_at_call 12; refine (rUint_any s.size w (by omega)).mono ?_; rintro e w1 ⟨v1, rfl, hb1, hw1⟩; have hlen := nb_le (n := s.size) (by omega); obtain ⟨v2, w2, hr, hb2, hw2⟩ := hb1.appS s (by omega) hw1.size; have HRUN := hid hr; clear hr)
    | (at_builtin; refine wpList_append_run _ _ 22 9 rfl rfl _ _ _ rfl rfl HRUN.out ?_))
  go_ret
  refine ⟨v2, rfl, ?_, below_tr hw1 hw2⟩
  unfold tb; rw [lst_len]; exact hb2
#print axioms rText_any
end Go.Proofs.Ytepkpkbgmchioaa
