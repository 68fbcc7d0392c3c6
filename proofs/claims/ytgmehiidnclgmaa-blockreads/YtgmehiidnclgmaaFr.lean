/- Files of blocks as mathematics: a file is read as its bytes; a file that is read as bytes is theirs; a turned byte is told, and its block. -/
import Derived.Test.YtgmehiidnclgmaaFk
import Derived.Test.YtgmehiidnclgmaaSl
namespace Go.Proofs.Ytgmehiidnclgmaa
open Go Go.RowKit

/-- The byte t of the bytes whose file is y. -/
def dat (y : Nat → Nat) (t : Nat) : Nat := y (288 * (t / 256) + 32 + t % 256)
theorem map_range_add (p q : Nat) (f : Nat → Nat) : (List.range (p + q)).map f = (List.range p).map f ++ (List.range q).map (fun j => f (p + j)) := by
  rw [List.range_add, List.map_append, List.map_map]; rfl
theorem parL_pre (y : Nat → Nat) (n a b : Nat) (hab : a ≤ b) (hbn : b ≤ n) : ∀ k, k ≤ cnt n → (List.range k).flatMap (pcs y n a b) = (List.range (min b (256 * k) - a)).map fun j => dat y (a + j)
  | 0, _ => by simp
  | k + 1, hk => by
    have ih := parL_pre y n a b hab hbn k (by omega)
    rw [List.range_succ, List.flatMap_append, ih]
    simp only [List.flatMap_cons, List.flatMap_nil, List.append_nil]
    have hc : cnt n = (n + 255) / 256 := rfl
    have hq : min b (256 * (k + 1)) - a = (min b (256 * k) - a) + (phi n b k - plo a k) := by unfold phi plo bend; omega
    rw [hq, map_range_add]
    congr 1
    unfold pcs
    apply List.map_congr_left
    intro j hj
    have hj := List.mem_range.1 hj
    show _ = dat y (a + ((min b (256 * k) - a) + j))
    have e : a + ((min b (256 * k) - a) + j) = plo a k + j := by unfold phi plo bend at *; omega
    rw [e]
    unfold dat
    have h1 : (plo a k + j) / 256 = k := by unfold phi plo bend at *; omega
    have h2 : (plo a k + j) % 256 = plo a k - 256 * k + j := by unfold phi plo bend at *; omega
    rw [h1, h2, Nat.add_assoc (288 * k + 32)]
theorem parL_dat (y : Nat → Nat) (n a b : Nat) (hab : a ≤ b) (hbn : b ≤ n) : parL y n a b = (List.range (b - a)).map fun j => dat y (a + j) := by
  have h := parL_pre y n a b hab hbn (cnt n) (Nat.le_refl _)
  have hc : cnt n = (n + 255) / 256 := rfl
  rw [show min b (256 * cnt n) - a = b - a by omega] at h
  exact h
/-- Where blocks are all of one length but the last. -/
theorem flat_at : ∀ (K : Nat) (f : Nat → List Nat) (c : Nat), (∀ i, i + 1 < K → (f i).length = c) → ∀ i, i < K → ∀ j, j < (f i).length → ((List.range K).flatMap f)[c * i + j]? = (f i)[j]?
  | 0, _, _, _, i, hi, _, _ => by omega
  | K + 1, f, c, h, i, hi, j, hj => by
    rw [List.range_succ_eq_map, List.flatMap_cons, List.flatMap_map]
    cases i with
    | zero => rw [Nat.mul_zero, Nat.zero_add, List.getElem?_append_left hj]
    | succ i =>
      have h0 : (f 0).length = c := h 0 (by omega)
      rw [List.getElem?_append_right (by rw [h0, Nat.mul_add]; omega), h0, show c * (i + 1) + j - c = c * i + j by rw [Nat.mul_add]; omega]
      exact flat_at K (fun a => f (a + 1)) c (fun i hi => h (i + 1) (by omega)) i (by omega) j hj
theorem fileL_at (n : Nat) (x : Nat → Nat) (i : Nat) (hi : i < cnt n) (j : Nat) (hj : j < 32 + (bend n i - 256 * i)) : (fileL n x).getD (288 * i + j) 0 = (blkL n x i).getD j 0 := by
  have h := flat_at (cnt n) (blkL n x) 288 (fun k hk => by rw [blkL_len]; have : cnt n = (n + 255) / 256 := rfl; unfold bend; omega) i hi j (by rw [blkL_len]; exact hj)
  rw [List.getD_eq_getElem?_getD, List.getD_eq_getElem?_getD]
  unfold fileL
  rw [h]
theorem blk_dig (n : Nat) (x : Nat → Nat) (i j : Nat) (hj : j < 32) : (blkL n x i).getD j 0 = sha (bend n i - 256 * i) (fun k => x (256 * i + k)) j := by
  unfold blkL
  rw [List.getD_eq_getElem?_getD, List.getElem?_append_left (by simpa using hj)]
  simp [hj]
theorem blk_dat (n : Nat) (x : Nat → Nat) (i j : Nat) (hj : j < bend n i - 256 * i) : (blkL n x i).getD (32 + j) 0 = x (256 * i + j) := by
  unfold blkL
  rw [List.getD_eq_getElem?_getD, List.getElem?_append_right (by simp)]
  simp [hj]
/-- In a file of the right size a block ends where it should. -/
theorem sEnd_full (n i : Nat) (hi : i < cnt n) : sEnd (n + 32 * cnt n) n i - (288 * i + 32) = bend n i - 256 * i ∧ 288 * i + 32 + (bend n i - 256 * i) ≤ n + 32 * cnt n := by
  have hc : cnt n = (n + 255) / 256 := rfl
  unfold sEnd
  split
  · unfold bend at *; omega
  · unfold bend at *; omega
theorem snd_full (y : Nat → Nat) (n i : Nat) (hi : i < cnt n) : snd y (n + 32 * cnt n) n i = eqD 32 (sha (bend n i - 256 * i) (fun j => y (288 * i + 32 + j))) (fun j => y (288 * i + j)) := by
  have h := sEnd_full n i hi
  rw [snd_eq h.2, h.1]
theorem eqD_congr {x x' y y' : Nat → Nat} (h1 : ∀ i, i < 32 → x i = x' i) (h2 : ∀ i, i < 32 → y i = y' i) : eqD 32 x y = eqD 32 x' y' := by
  rw [Bool.eq_iff_iff, eqD_iff, eqD_iff]
  exact ⟨fun h i hi => by rw [← h1 i hi, ← h2 i hi]; exact h i hi, fun h i hi => by rw [h1 i hi, h2 i hi]; exact h i hi⟩
def fil (n : Nat) (x : Nat → Nat) (i : Nat) : Nat := (fileL n x).getD i 0
theorem fil_dig (n : Nat) (x : Nat → Nat) (i : Nat) (hi : i < cnt n) (j : Nat) (hj : j < 32) : fil n x (288 * i + j) = sha (bend n i - 256 * i) (fun k => x (256 * i + k)) j := by
  unfold fil; rw [fileL_at n x i hi j (by omega), blk_dig n x i j hj]
theorem fil_dat (n : Nat) (x : Nat → Nat) (i : Nat) (hi : i < cnt n) (j : Nat) (hj : j < bend n i - 256 * i) : fil n x (288 * i + 32 + j) = x (256 * i + j) := by
  unfold fil; rw [Nat.add_assoc, fileL_at n x i hi (32 + j) (by omega), blk_dat n x i j hj]
theorem dat_fil (n : Nat) (x : Nat → Nat) (t : Nat) (ht : t < n) : dat (fil n x) t = x t := by
  have hc : cnt n = (n + 255) / 256 := rfl
  unfold dat
  rw [fil_dat n x (t / 256) (by omega) (t % 256) (by unfold bend; omega)]
  congr 1; omega
theorem snd_fil (n : Nat) (x : Nat → Nat) (i : Nat) (hi : i < cnt n) : snd (fil n x) (n + 32 * cnt n) n i = true := by
  rw [snd_full _ n i hi, eqD_iff]
  intro j hj
  show _ = fil n x (288 * i + j)
  rw [fil_dig n x i hi j hj]
  exact sha_congr _ (fun k hk => fil_dat n x i hi k hk) j
theorem bad_fil (n : Nat) (x : Nat → Nat) : badL (fil n x) (n + 32 * cnt n) n = [] := by
  unfold badL
  rw [List.filter_eq_nil_iff]
  intro i hi
  rw [snd_fil n x i (List.mem_range.1 hi)]
  simp
theorem parOK_fil (n : Nat) (x : Nat → Nat) (a b : Nat) : parOK (fil n x) (n + 32 * cnt n) n a b = true := by
  unfold parOK
  rw [List.all_eq_true]
  intro i hi
  rw [snd_fil n x i (List.mem_range.1 hi)]
  simp
theorem parL_fil (n : Nat) (x : Nat → Nat) (a b : Nat) (hab : a ≤ b) (hbn : b ≤ n) : parL (fil n x) n a b = (List.range (b - a)).map fun j => x (a + j) := by
  rw [parL_dat _ n a b hab hbn]
  apply List.map_congr_left
  intro j hj
  have := List.mem_range.1 hj
  exact dat_fil n x (a + j) (by omega)
theorem part_fil (n : Nat) (x : Nat → Nat) (hn : n ≤ 65536) (a b : Nat) (hab : a ≤ b) (hbn : b ≤ n) :
    partL (fil n x) (n + 32 * cnt n) n a b = ((List.range (b - a)).map fun j => x (a + j)) ∧ partE (fil n x) (n + 32 * cnt n) n a b = 0 := by
  have hr : rngB (n : Int) a b := ⟨by omega, by omega, by omega, by omega, by omega⟩
  have hm : ((n + 32 * cnt n : Nat) : Int) = szV n := (szV_nat n hn).symm
  have hok := parOK_fil n x a b
  constructor
  · unfold partL
    rw [if_pos ⟨hr, hm, hok⟩]
    exact parL_fil n x a b hab hbn
  · unfold partE
    rw [if_pos hr, if_pos hm]
    exact if_pos hok
/-- A file that is read as bytes is theirs. -/
theorem file_own (y : Nat → Nat) (n : Nat) (h : parOK y (n + 32 * cnt n) n 0 n = true) : fileL n (dat y) = (List.range (n + 32 * cnt n)).map y := by
  have hc : cnt n = (n + 255) / 256 := rfl
  have hs : ∀ i, i < cnt n → snd y (n + 32 * cnt n) n i = true := fun i hi => by
    unfold parOK at h
    rw [List.all_eq_true] at h
    have h1 := h i (List.mem_range.2 hi)
    rw [Bool.or_eq_true, decide_eq_true_eq] at h1
    rcases h1 with h1 | h1
    · unfold phi plo bend at h1; omega
    · exact h1
  have hd : ∀ i, i < cnt n → ∀ j, j < bend n i - 256 * i → dat y (256 * i + j) = y (288 * i + 32 + j) := fun i hi j hj => by
    unfold dat
    rw [show (256 * i + j) / 256 = i by unfold bend at hj; omega, show (256 * i + j) % 256 = j by unfold bend at hj; omega]
  have hb : ∀ i, i < cnt n → blkL n (dat y) i = (List.range (32 + (bend n i - 256 * i))).map fun j => y (288 * i + j) := fun i hi => by
    rw [map_range_add]
    unfold blkL
    congr 1
    · apply List.map_congr_left
      intro j hj
      have hj := List.mem_range.1 hj
      have h2 := hs i hi
      rw [snd_full _ n i hi, eqD_iff] at h2
      rw [← h2 j hj]
      exact sha_congr _ (fun k hk => hd i hi k hk) j
    · apply List.map_congr_left
      intro j hj
      rw [hd i hi j (List.mem_range.1 hj), Nat.add_assoc]
  have key : ∀ k, k ≤ cnt n → (List.range k).flatMap (blkL n (dat y)) = (List.range (32 * k + min n (256 * k))).map y := by
    intro k
    induction k with
    | zero => intro _; simp
    | succ k ih =>
      intro hk
      rw [List.range_succ, List.flatMap_append, ih (by omega)]
      simp only [List.flatMap_cons, List.flatMap_nil, List.append_nil]
      rw [hb k (by omega), show 32 * (k + 1) + min n (256 * (k + 1)) = (32 * k + min n (256 * k)) + (32 + (bend n k - 256 * k)) by unfold bend; omega, map_range_add (32 * k + min n (256 * k)) (32 + (bend n k - 256 * k)) y]
      congr 1
      apply List.map_congr_left
      intro j hj
      have hj := List.mem_range.1 hj
      congr 1
      unfold bend at hj
      omega
  unfold fileL
  rw [key (cnt n) (Nat.le_refl _)]
  congr 2
  omega
/-- Of a file in which one byte of a block is turned that block is not sound, unless its bytes have the digest that they had; all others are. -/
theorem snd_turned (n : Nat) (x : Nat → Nat) (y : Nat → Nat) (at' v : Nat) (hat : at' < n + 32 * cnt n) (hv : v ≠ fil n x at') (hy : ∀ k, k < n + 32 * cnt n → y k = if k = at' then v else fil n x k) (i : Nat) (hi : i < cnt n)
    (hcl : ¬ ((∃ j, j < bend n (at' / 288) - 256 * (at' / 288) ∧ x (256 * (at' / 288) + j) ≠ y (288 * (at' / 288) + 32 + j)) ∧ ∀ j, j < 32 → sha (bend n (at' / 288) - 256 * (at' / 288)) (fun k => x (256 * (at' / 288) + k)) j = sha (bend n (at' / 288) - 256 * (at' / 288)) (fun k => y (288 * (at' / 288) + 32 + k)) j)) :
    snd y (n + 32 * cnt n) n i = !decide (i = at' / 288) := by
  have hc : cnt n = (n + 255) / 256 := rfl
  by_cases e : i = at' / 288
  · rw [decide_eq_true e, Bool.not_true]
    subst e
    generalize hi0 : at' / 288 = i at *
    rw [snd_full _ n i hi, Bool.eq_false_iff]
    intro h
    rw [eqD_iff] at h
    by_cases hp : at' % 288 < 32
    · have e1 : at' = 288 * i + at' % 288 := by omega
      have h1 := h (at' % 288) hp
      rw [← e1, hy at' hat, if_pos rfl] at h1
      have h2 : sha (bend n i - 256 * i) (fun j => y (288 * i + 32 + j)) (at' % 288) = fil n x at' := by
        conv => rhs; rw [e1]
        rw [fil_dig n x i hi _ hp]
        refine sha_congr _ (fun k hk => ?_) _
        rw [hy _ (by unfold bend at hk; omega), if_neg (by omega), fil_dat n x i hi k hk]
      exact hv (h1.symm.trans h2)
    · apply hcl
      have hj : at' % 288 - 32 < bend n i - 256 * i := by unfold bend; omega
      refine ⟨⟨at' % 288 - 32, hj, ?_⟩, fun j hj2 => ?_⟩
      · rw [show 288 * i + 32 + (at' % 288 - 32) = at' by omega, hy at' hat, if_pos rfl, ← fil_dat n x i hi _ hj, show 288 * i + 32 + (at' % 288 - 32) = at' by omega]
        exact fun q => hv q.symm
      · have h1 := h j hj2
        rw [h1, hy _ (by omega), if_neg (by omega), fil_dig n x i hi j hj2]
  · rw [decide_eq_false e, Bool.not_false, ← snd_fil n x i hi, snd_full _ n i hi, snd_full _ n i hi]
    refine eqD_congr (fun j _ => sha_congr _ (fun k hk => ?_) j) (fun j hj => ?_)
    · rw [hy _ (by unfold bend at hk; omega), if_neg (by unfold bend at hk; omega)]
    · show y (288 * i + j) = fil n x (288 * i + j)
      rw [hy _ (by omega), if_neg (by omega)]
end Go.Proofs.Ytgmehiidnclgmaa
