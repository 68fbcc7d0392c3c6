/- Records as bytes: mathematics alone. -/
import Derived.Test.YtepkpkbgmchioaaTa
namespace Go.Proofs.Ytepkpkbgmchioaa

/-- A record. Texts are lists of bytes. -/
structure Rc where
  id : List Nat
  time : Int
  mark : Bool
  size : Int
  etag : List Nat
  k : Int
  m : Int
  data : List Nat
  sum : List Nat
  parts : List (Int × Int)
  up : List Nat
  deriving DecidableEq
def dgt (c : Nat) : Bool := decide (48 ≤ c) && decide (c ≤ 57)
def isOf (last : Nat) (dash : Bool) (c : Nat) : Bool := dgt c || (decide (97 ≤ c) && decide (c ≤ last)) || (dash && decide (c = 45))
def okOf (s : List Nat) (least most last : Nat) (dash : Bool) : Bool := s.all (isOf last dash) && decide (least ≤ s.length) && decide (s.length ≤ most)
def okId (s : List Nat) : Bool := okOf s 1 32 122 false
def okData (s : List Nat) : Bool := okOf s 32 32 102 false
def okTag (s : List Nat) : Bool := okOf s 1 40 102 true
def inR (n least most : Int) : Bool := decide (least ≤ n) && decide (n ≤ most)
def okPs : Int → List (Int × Int) → Bool
  | _, [] => true
  | last, p :: r => decide (last < p.1) && decide (p.1 ≤ 10000) && inR p.2 0 65536 && okPs p.1 r
def sumPs (l : List (Int × Int)) : Int := (l.map (·.2)).sum
def okParts (l : List (Int × Int)) (size : Int) : Bool := decide (l.length ≤ 32) && okPs 0 l && (l.isEmpty || decide (sumPs l = size))
def zeroD : List Nat := List.replicate 32 0
def okRc (r : Rc) : Bool := okId r.id && inR r.time 0 1048576 && (if r.mark then decide (r.size = 0) && r.etag.isEmpty && decide (r.k = 0) && decide (r.m = 0) && r.data.isEmpty && decide (r.sum = zeroD) && r.parts.isEmpty && r.up.isEmpty
  else inR r.size 0 65536 && okTag r.etag && inR r.k 1 15 && inR r.m 1 15 && decide (r.k + r.m ≤ 16) && okData r.data && okParts r.parts r.size && (r.up.isEmpty || okId r.up) && decide (r.sum.length = 32))
def ib (n : Int) : List Nat := nb n.toNat
def psB (l : List (Int × Int)) : List Nat := (l.map fun p => ib p.1 ++ ib p.2).flatten
def rcB (r : Rc) : List Nat := tb r.id ++ ib r.time ++ (if r.mark then [1] else [0] ++ ib r.size ++ tb r.etag ++ ib r.k ++ ib r.m ++ tb r.data ++ r.sum ++ nb r.parts.length ++ psB r.parts ++ tb r.up)
/-- So many pairs of numbers from the front. -/
def rdPs : Nat → List Nat → Option (List (Int × Int) × List Nat)
  | 0, b => some ([], b)
  | n + 1, b => do
    let (x, b) ← rdU b
    let (y, b) ← rdU b
    let (l, b) ← rdPs n b
    return (((x : Int), (y : Int)) :: l, b)
def rdD (id : List Nat) (t : Nat) (b : List Nat) : Option (Rc × List Nat) := do
  let (size, b) ← rdU b
  let (etag, b) ← rdT b
  let (k, b) ← rdU b
  let (m, b) ← rdU b
  let (data, b) ← rdT b
  if b.length < 32 then none else
  let (n, c) ← rdU (b.drop 32)
  if 32 < n then none else
  let (ps, c) ← rdPs n c
  let (up, c) ← rdT c
  return (⟨id, t, false, size, etag, k, m, data, b.take 32, ps, up⟩, c)
def rdAny (b : List Nat) : Option (Rc × List Nat) := do
  let (id, b) ← rdT b
  let (t, b) ← rdU b
  match b with
  | [] => none
  | c :: b => if 1 < c then none else if c = 1 then some (⟨id, t, true, 0, [], 0, 0, [], zeroD, [], []⟩, b) else rdD id t b
def rdR (b : List Nat) : Option (Rc × List Nat) := match rdAny b with
  | some (r, t) => if okRc r then some (r, t) else none
  | none => none
section
variable {b : List Nat}
theorem inR_iff {n least most : Int} : inR n least most = true ↔ least ≤ n ∧ n ≤ most := by simp [inR]
theorem ib_toNat {n : Int} (h : 0 ≤ n) : ((n.toNat : Nat) : Int) = n := Int.toNat_of_nonneg h
theorem okOf_len {s : List Nat} {a m l : Nat} {d : Bool} (h : okOf s a m l d = true) : a ≤ s.length ∧ s.length ≤ m := by simp [okOf] at h; omega
theorem rdPs_psB : ∀ {last : Int} {l : List (Int × Int)} (r : List Nat), 0 ≤ last → okPs last l = true → rdPs l.length (psB l ++ r) = some (l, r)
  | _, [], r, _, _ => by simp [rdPs, psB]
  | last, p :: t, r, h0, h => by
    simp [okPs, inR] at h
    obtain ⟨⟨⟨h1, h2⟩, h3, h4⟩, h5⟩ := h
    have e : psB (p :: t) ++ r = ib p.1 ++ (ib p.2 ++ (psB t ++ r)) := by simp [psB]
    rw [e]
    unfold ib
    show rdPs (t.length + 1) _ = _
    unfold rdPs
    rw [rdU_nb _ (by omega)]
    simp only [Option.bind_eq_bind, Option.bind_some]
    rw [rdU_nb _ (by omega)]
    simp only [Option.bind_some]
    rw [rdPs_psB r (by omega) h5]
    simp only [Option.bind_some, Option.pure_def, Option.some.injEq, Prod.mk.injEq, List.cons.injEq, and_true]
    obtain ⟨x, y⟩ := p
    simp only at *
    rw [ib_toNat (by omega), ib_toNat (by omega)]
theorem rdAny_rcB {r : Rc} (t : List Nat) (h : okRc r = true) : rdAny (rcB r ++ t) = some (r, t) := by
  obtain ⟨id, time, mark, size, etag, k, m, data, sum, parts, up⟩ := r
  cases mark with
  | true =>
    simp [okRc] at h
    obtain ⟨⟨h1, h2⟩, ⟨⟨⟨⟨⟨⟨⟨rfl, rfl⟩, rfl⟩, rfl⟩, rfl⟩, rfl⟩, rfl⟩, rfl⟩⟩ := h
    rw [inR_iff] at h2
    have hl := okOf_len h1
    have e : rcB ⟨id, time, true, 0, [], 0, 0, [], zeroD, [], []⟩ ++ t = tb id ++ (ib time ++ (1 :: t)) := by simp [rcB]
    rw [e]
    unfold rdAny ib
    rw [rdT_tb _ (by omega)]
    simp only [Option.bind_eq_bind, Option.bind_some]
    rw [rdU_nb _ (by omega)]
    simp only [Option.bind_some, ib_toNat h2.1]
    simp
  | false =>
    simp [okRc, okParts, inR_iff] at h
    obtain ⟨⟨h1, h2⟩, ⟨⟨⟨⟨⟨⟨⟨⟨h3, h4⟩, h5⟩, h6⟩, h7⟩, h8⟩, ⟨h9, h10⟩, h11⟩, h12⟩, h13⟩⟩ := h
    have hl := okOf_len h1
    have hl4 := okOf_len h4
    have hl8 := okOf_len h8
    have hl12 : up.length ≤ 65536 := by
      rcases h12 with h | h
      · subst h; simp
      · have := okOf_len h; omega
    have e : rcB ⟨id, time, false, size, etag, k, m, data, sum, parts, up⟩ ++ t = tb id ++ (ib time ++ (0 :: (ib size ++ (tb etag ++ (ib k ++ (ib m ++ (tb data ++ (sum ++ (nb parts.length ++ (psB parts ++ (tb up ++ t))))))))))) := by simp [rcB]
    rw [e]
    unfold rdAny ib
    rw [rdT_tb _ (by omega)]
    simp only [Option.bind_eq_bind, Option.bind_some]
    rw [rdU_nb _ (by omega)]
    simp only [Option.bind_some]
    rw [if_neg (by omega), if_neg (by omega)]
    unfold rdD
    rw [rdU_nb _ (by omega)]
    simp only [Option.bind_eq_bind, Option.bind_some]
    rw [rdT_tb _ (by omega)]
    simp only [Option.bind_some]
    rw [rdU_nb _ (by omega)]
    simp only [Option.bind_some]
    rw [rdU_nb _ (by omega)]
    simp only [Option.bind_some]
    rw [rdT_tb _ (by omega)]
    simp only [Option.bind_some]
    rw [if_neg (by rw [List.length_append]; omega), show 32 = sum.length from h13.symm, List.drop_left, List.take_left, rdU_nb _ (by omega)]
    simp only [Option.bind_some]
    rw [if_neg (by omega), rdPs_psB _ (Int.le_refl 0) h10]
    simp only [Option.bind_some]
    rw [rdT_tb _ hl12]
    simp only [Option.bind_some, Option.pure_def]
    rw [ib_toNat h2.1, ib_toNat h3.1, ib_toNat (by omega), ib_toNat (by omega)]
theorem rdR_rcB {r : Rc} (t : List Nat) (h : okRc r = true) : rdR (rcB r ++ t) = some (r, t) := by
  unfold rdR; rw [rdAny_rcB t h]; simp [h]
theorem sub256 {x y : List Nat} (h : ∀ z ∈ x ++ y, z < 256) : (∀ z ∈ x, z < 256) ∧ ∀ z ∈ y, z < 256 := ⟨fun z hz => h z (List.mem_append_left _ hz), fun z hz => h z (List.mem_append_right _ hz)⟩
theorem rdPs_some : ∀ {n : Nat} {b c : List Nat} {l : List (Int × Int)}, (∀ z ∈ b, z < 256) → rdPs n b = some (l, c) → b = psB l ++ c ∧ l.length = n ∧ ∀ p ∈ l, 0 ≤ p.1 ∧ 0 ≤ p.2
  | 0, b, c, l, _, h => by simp [rdPs] at h; obtain ⟨rfl, rfl⟩ := h; simp [psB]
  | n + 1, b, c, l, hb, h => by
    unfold rdPs at h
    cases h1 : rdU b with
    | none => rw [h1] at h; cases h
    | some p =>
      obtain ⟨x, b1⟩ := p
      rw [h1] at h
      simp only [Option.bind_eq_bind, Option.bind_some] at h
      obtain ⟨e1, k1⟩ := rdU_some hb h1
      subst e1
      have hb1 := (sub256 hb).2
      cases h2 : rdU b1 with
      | none => rw [h2] at h; cases h
      | some p =>
        obtain ⟨y, b2⟩ := p
        rw [h2] at h
        simp only [Option.bind_some] at h
        obtain ⟨e2, k2⟩ := rdU_some hb1 h2
        subst e2
        have hb2 := (sub256 hb1).2
        cases h3 : rdPs n b2 with
        | none => rw [h3] at h; cases h
        | some p =>
          obtain ⟨l', b3⟩ := p
          rw [h3] at h
          simp only [Option.bind_some, Option.pure_def, Option.some.injEq, Prod.mk.injEq] at h
          obtain ⟨rfl, rfl⟩ := h
          obtain ⟨e3, k3, k4⟩ := rdPs_some hb2 h3
          refine ⟨?_, by simp [k3], fun p hp => ?_⟩
          · rw [e3]; simp [psB, ib]
          · rcases List.mem_cons.1 hp with rfl | hp
            · exact ⟨by simp, by simp⟩
            · exact k4 p hp
theorem rdD_some {id : List Nat} {t : Nat} {b c : List Nat} {r : Rc} (hb : ∀ z ∈ b, z < 256) (h : rdD id t b = some (r, c)) : r.id = id ∧ r.time = (t : Int) ∧ r.mark = false ∧ b = ib r.size ++ tb r.etag ++ ib r.k ++ ib r.m ++ tb r.data ++ r.sum ++ nb r.parts.length ++ psB r.parts ++ tb r.up ++ c := by
  unfold rdD at h
  cases h1 : rdU b with
  | none => rw [h1] at h; cases h
  | some p =>
  obtain ⟨size, b1⟩ := p
  rw [h1] at h; simp only [Option.bind_eq_bind, Option.bind_some] at h
  obtain ⟨e1, _⟩ := rdU_some hb h1; subst e1; have hb := (sub256 hb).2
  cases h2 : rdT b1 with
  | none => rw [h2] at h; cases h
  | some p =>
  obtain ⟨etag, b2⟩ := p
  rw [h2] at h; simp only [Option.bind_some] at h
  obtain ⟨e2, _⟩ := rdT_some hb h2; subst e2; have hb := (sub256 hb).2
  cases h3 : rdU b2 with
  | none => rw [h3] at h; cases h
  | some p =>
  obtain ⟨k, b3⟩ := p
  rw [h3] at h; simp only [Option.bind_some] at h
  obtain ⟨e3, _⟩ := rdU_some hb h3; subst e3; have hb := (sub256 hb).2
  cases h4 : rdU b3 with
  | none => rw [h4] at h; cases h
  | some p =>
  obtain ⟨m, b4⟩ := p
  rw [h4] at h; simp only [Option.bind_some] at h
  obtain ⟨e4, _⟩ := rdU_some hb h4; subst e4; have hb := (sub256 hb).2
  cases h5 : rdT b4 with
  | none => rw [h5] at h; cases h
  | some p =>
  obtain ⟨data, b5⟩ := p
  rw [h5] at h; simp only [Option.bind_some] at h
  obtain ⟨e5, _⟩ := rdT_some hb h5; subst e5; have hb := (sub256 hb).2
  by_cases hl : b5.length < 32
  · rw [if_pos hl] at h; cases h
  rw [if_neg hl] at h
  have hb6 : ∀ z ∈ b5.drop 32, z < 256 := fun z hz => hb z (List.mem_of_mem_drop hz)
  cases h6 : rdU (b5.drop 32) with
  | none => rw [h6] at h; cases h
  | some p =>
  obtain ⟨n, b6⟩ := p
  rw [h6] at h; simp only [Option.bind_some] at h
  obtain ⟨e6, _⟩ := rdU_some hb6 h6
  rw [e6] at hb6; have hb6 := (sub256 hb6).2
  by_cases hn : 32 < n
  · rw [if_pos hn] at h; cases h
  rw [if_neg hn] at h
  cases h7 : rdPs n b6 with
  | none => rw [h7] at h; cases h
  | some p =>
  obtain ⟨ps, b7⟩ := p
  rw [h7] at h; simp only [Option.bind_some] at h
  obtain ⟨e7, k7, _⟩ := rdPs_some hb6 h7; subst e7; have hb7 := (sub256 hb6).2
  cases h8 : rdT b7 with
  | none => rw [h8] at h; cases h
  | some p =>
  obtain ⟨up, b8⟩ := p
  rw [h8] at h; simp only [Option.bind_some, Option.pure_def, Option.some.injEq, Prod.mk.injEq] at h
  obtain ⟨e8, _⟩ := rdT_some hb7 h8; subst e8
  obtain ⟨rfl, rfl⟩ := h
  refine ⟨rfl, rfl, rfl, ?_⟩
  have e9 : b5 = b5.take 32 ++ (nb n ++ (psB ps ++ (tb up ++ b8))) := by rw [← e6, List.take_append_drop]
  subst k7
  simp only [ib, Int.toNat_natCast, List.append_assoc]
  rw [← e9]
theorem rdR_some {b c : List Nat} {r : Rc} (hb : ∀ z ∈ b, z < 256) (h : rdR b = some (r, c)) : okRc r = true ∧ b = rcB r ++ c := by
  unfold rdR at h
  cases ha : rdAny b with
  | none => rw [ha] at h; cases h
  | some p =>
  obtain ⟨r', c'⟩ := p
  rw [ha] at h
  by_cases hok : okRc r' = true
  · simp only [hok, if_true, Option.some.injEq, Prod.mk.injEq] at h
    obtain ⟨rfl, rfl⟩ := h
    refine ⟨hok, ?_⟩
    unfold rdAny at ha
    cases h1 : rdT b with
    | none => rw [h1] at ha; cases ha
    | some p =>
    obtain ⟨id, b1⟩ := p
    rw [h1] at ha; simp only [Option.bind_eq_bind, Option.bind_some] at ha
    obtain ⟨e1, _⟩ := rdT_some hb h1; subst e1; have hb := (sub256 hb).2
    cases h2 : rdU b1 with
    | none => rw [h2] at ha; cases ha
    | some p =>
    obtain ⟨t, b2⟩ := p
    rw [h2] at ha; simp only [Option.bind_some] at ha
    obtain ⟨e2, _⟩ := rdU_some hb h2; subst e2; have hb := (sub256 hb).2
    match b2, ha, hb with
    | [], ha, _ => cases ha
    | c0 :: b3, ha, hb =>
      simp only at ha
      by_cases hc : 1 < c0
      · rw [if_pos hc] at ha; cases ha
      rw [if_neg hc] at ha
      by_cases hc1 : c0 = 1
      · rw [if_pos hc1] at ha
        simp only [Option.some.injEq, Prod.mk.injEq] at ha
        obtain ⟨rfl, rfl⟩ := ha
        simp [rcB, ib, hc1]
      · rw [if_neg hc1] at ha
        obtain ⟨k1, k2, k3, k4⟩ := rdD_some (fun z hz => hb z (List.mem_cons_of_mem _ hz)) ha
        have e0 : c0 = 0 := by omega
        subst e0
        unfold rcB
        rw [k1, k2, k3, k4]
        simp [ib]
  · simp [hok] at h
/-- No record's bytes are the beginning of another one's. -/
theorem rcB_pre {a c : Rc} {t : List Nat} (ha : okRc a = true) (hc : okRc c = true) (h : rcB c = rcB a ++ t) : a = c ∧ t = [] := by
  have h1 := rdR_rcB t ha
  have h2 := rdR_rcB [] hc
  rw [List.append_nil, h, h1] at h2
  simp only [Option.some.injEq, Prod.mk.injEq] at h2
  exact h2
theorem rdR_less {a : Rc} (ha : okRc a = true) (hb : ∀ z ∈ rcB a, z < 256) {i : Nat} (hi : i < (rcB a).length) : rdR ((rcB a).take i) = none := by
  cases h : rdR ((rcB a).take i) with
  | none => rfl
  | some p =>
    exfalso
    obtain ⟨r, c⟩ := p
    obtain ⟨hok, e⟩ := rdR_some (fun z hz => hb z (List.mem_of_mem_take hz)) h
    have e2 : rcB a = rcB r ++ (c ++ (rcB a).drop i) := by rw [← List.append_assoc, ← e, List.take_append_drop]
    obtain ⟨_, e3⟩ := rcB_pre hok ha e2
    have e4 := (List.append_eq_nil_iff.1 e3).2
    have : ((rcB a).drop i).length = 0 := by rw [e4]; rfl
    rw [List.length_drop] at this; omega
end
#print axioms rdR_some
#print axioms rdR_less
end Go.Proofs.Ytepkpkbgmchioaa
