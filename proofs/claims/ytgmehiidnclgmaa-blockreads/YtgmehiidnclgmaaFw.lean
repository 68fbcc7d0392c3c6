/- Contracts of Part and Read of the document's own answer. -/
import Derived.Test.YtgmehiidnclgmaaFv
namespace Go.Proofs.Ytgmehiidnclgmaa
open Go Go.RowKit

theorem pcs_flat_len (y : Nat → Nat) (n a b : Nat) : ∀ k, ((List.range k).flatMap (pcs y n a b)).length ≤ 256 * k
  | 0 => by simp
  | k + 1 => by
    have := pcs_flat_len y n a b k
    have h : (pcs y n a b k).length ≤ 256 := by rw [pcs_len]; unfold phi plo bend; omega
    rw [List.range_succ, List.flatMap_append, List.length_append]
    simp only [List.flatMap_cons, List.flatMap_nil, List.append_nil]
    omega
theorem pcs_flat_succ (y : Nat → Nat) (n a b k : Nat) : (List.range (k + 1)).flatMap (pcs y n a b) = (List.range k).flatMap (pcs y n a b) ++ pcs y n a b k := by
  rw [List.range_succ, List.flatMap_append]; simp
theorem parOK_upto {y : Nat → Nat} {m n a b : Nat} (h : ∀ i, i < cnt n → phi n b i ≤ plo a i ∨ snd y m n i = true) : parOK y m n a b = true := by
  unfold parOK
  rw [List.all_eq_true]
  intro i hi
  have := h i (List.mem_range.1 hi)
  simpa using this
def RPaAt (w : World) (ok : Bool) (L : List Nat) (e : Ending) (w' : World) : Prop := Below w.heap.size w w' ∧ ((ok = true ∧ ∃ v, e = .returned (.tuple #[v, .int .i64 0]) ∧ BufL w.heap.size w' v L) ∨ (ok = false ∧ e = .returned (.tuple #[.slice none 0 0, .int .i64 14])))
theorem block_numsV (n i : Nat) (hi : i < cnt n) : 256 * i < bend n i ∧ bend n i ≤ n ∧ bend n i - 256 * i ≤ 256 := by
  have hc : cnt n = (n + 255) / 256 := rfl
  have hb : bend n i = min (256 * i + 256) n := rfl
  generalize cnt n = C at *
  generalize bend n i = r at *
  refine ⟨by omega, by omega, by omega⟩
theorem piece_nums (n a b i : Nat) (hi : i < cnt n) (hab : a ≤ b) (A Bv Hv : Int) (hA : A = (a : Int) - ((256 * i : Nat) : Int)) (hB : Bv = (b : Int) - ((256 * i : Nat) : Int)) (hH : Hv = if ((bend n i - 256 * i : Nat) : Int) < Bv then ((bend n i - 256 * i : Nat) : Int) else Bv) :
    (if A < 0 then 0 else A) = ((plo a i - 256 * i : Nat) : Int) ∧ (Hv ≤ ((plo a i - 256 * i : Nat) : Int) ↔ phi n b i ≤ plo a i) ∧ (¬ phi n b i ≤ plo a i → Hv = ((phi n b i - 256 * i : Nat) : Int) ∧ plo a i - 256 * i ≤ phi n b i - 256 * i ∧ phi n b i - 256 * i ≤ bend n i - 256 * i ∧ (phi n b i - 256 * i) - (plo a i - 256 * i) = phi n b i - plo a i ∧ phi n b i - plo a i ≤ 256) := by
  have hbk := (block_numsV n i hi)
  generalize cnt n = C at *
  unfold phi plo
  generalize bend n i = r at *
  generalize 256 * i = q at *
  refine ⟨by split <;> omega, ?_, ?_⟩
  · split at hH <;> omega
  · intro h
    split at hH <;> refine ⟨by omega, by omega, by omega, by omega, by omega⟩
set_option maxRecDepth 100000 in
set_option maxHeartbeats 2000000 in
theorem rpart_ok (p : Option Addr) (m c n a b : Nat) (y : Nat → Nat) (w : World) (hn : n ≤ 65536) (hm : m = n + 32 * cnt n) (hab : a ≤ b) (hbn : b ≤ n) (hc : m ≤ c) (hp : p = none → m = 0 ∧ c = 0) (hy : StrAt w p m y) (hb : ∀ i, i < m → y i < 256) :
    Calls Try.prog 21 #[.slice p m c, .int .i64 (n : Int), .int .i64 (a : Int), .int .i64 (b : Int)] w (RPaAt w (parOK y m n a b) (parL y n a b)) := by
  have HY := hid hy
  have HB := hid hb
  have HP := hid hp
  have HM0 := hid hm
  have HAB := hid hab
  have HBN := hid hbn
  have hd : mayB (n : Int) = true := decide_eq_true ⟨by omega, by omega⟩
  have hsz := szV_nat n hn
  have hse := szE_nat n hn
  rw [← hm] at hsz
  have hcn : cnt n ≤ 257 := by unfold cnt; omega
  have hm2 : m ≤ 100000 := by omega
  obtain ⟨C, hC⟩ : ∃ C, cnt n = C := ⟨_, rfl⟩
  have HC := hid hC
  rw [hC] at hcn
  have t1 : ¬ (a : Int) < 0 := by omega
  have t2 : ¬ (b : Int) < (a : Int) := by omega
  have t3 : ¬ (n : Int) < (b : Int) := by omega
  clear hy hb hp hC hm hab hbn
  go_enter Try.func21, Try.ntmps21
  go_wp2_with (first
    | (go_at_call 39; refine (rmay_any _ _).mono ?_; rintro e w5 ⟨rfl, hw⟩; have h3 := hw.symm; subst h3; rw [hd])
    | (go_at_call 13; refine (rsize_any _ _).mono ?_; rintro e w5 ⟨rfl, hw⟩; have h3 := hw.symm; subst h3; rw [hsz, hse]))
  clear t1 t2 t3 hd hsz hse
  go_loopw [12, 13] (fun v i wr => ∃ k : Nat, k ≤ C ∧ i = .int .i64 (k : Int) ∧ RPaM w wr v ((List.range k).flatMap (pcs y n a b)) ∧ ∀ i, i < k → phi n b i ≤ plo a i ∨ snd y m n i = true) (fun _ i _ => (300 - intOf i).toNat)
  case atStart => exact ⟨0, by omega, rfl, ⟨BufL.nil _ _, Below.refl _ _⟩, fun i hi => by omega⟩
  case round =>
    obtain ⟨k, hk, rfl, hM, hS⟩ := hrel
    have HS := hid hS
    clear hS
    by_cases hlt : k < C
    · have hlt' : (k : Int) < (C : Int) := by omega
      have hkc : k < cnt n := by rw [HC.out]; exact hlt
      have HST := hid (fun W' (hW' : Below w.heap.size w W') => rstands_any p m c y n k W' hn hkc hm2 hc HP.out (HY.out.below hW') HB.out)
      have hfull := sEnd_full n k hkc
      rw [← HM0.out] at hfull
      have hne := piece_nums n a b k hkc HAB.out _ _ _ rfl rfl rfl
      have HSU := hid (pcs_flat_succ y n a b k)
      have HLL := hid (pcs_flat_len y n a b k)
      have HPC : Hid (pcs y n a b k = (List.range (phi n b k - plo a k)).map fun j => y (288 * k + 32 + (plo a k - 256 * k) + j)) := rfl
      have HNIL := hid (pcs_nil y n a b k)
      have HOKF := hid (fun h1 h2 => @parOK_false y m n a b k hkc h1 h2)
      have HFU := hid hfull
      obtain ⟨po, k0, cc, hv⟩ := hM.buf.form3
      have HM := hid hM
      subst hv
      clear hM hfull
      obtain ⟨q, hq⟩ : ∃ q, 256 * k = q := ⟨_, rfl⟩
      obtain ⟨l, hl⟩ : ∃ l, bend n k - 256 * k = l := ⟨_, rfl⟩
      obtain ⟨A, hA⟩ : ∃ A, (a : Int) - ((256 * k : Nat) : Int) = A := ⟨_, rfl⟩
      obtain ⟨Bv, hBv⟩ : ∃ Bv, (b : Int) - ((256 * k : Nat) : Int) = Bv := ⟨_, rfl⟩
      obtain ⟨Hv, hHv⟩ : ∃ Hv, (if ((bend n k - 256 * k : Nat) : Int) < Bv then ((bend n k - 256 * k : Nat) : Int) else Bv) = Hv := ⟨_, rfl⟩
      rw [hA, hBv, hHv] at hne
      rw [hq] at hA hBv
      rw [hl] at hHv
      have e0 : IntKind.i64.wrap ((k : Int) * 256) = (q : Int) := by rw [IntWalk.i64_in _ ⟨by omega, by omega⟩]; omega
      have e1 : IntKind.i64.wrap ((a : Int) - (q : Int)) = A := by have := HAB.out; have := HBN.out; rw [IntWalk.i64_in _ ⟨by omega, by omega⟩]; exact hA
      have e2 : IntKind.i64.wrap ((b : Int) - (q : Int)) = Bv := by have := HBN.out; rw [IntWalk.i64_in _ ⟨by omega, by omega⟩]; exact hBv
      have e3 := hne.1
      obtain ⟨la, hla⟩ : ∃ la, plo a k - 256 * k = la := ⟨_, rfl⟩
      rw [hla] at e3
      have e4 : IntKind.i64.wrap ((k : Int) + 1) = (k : Int) + 1 := IntWalk.i64_in _ ⟨by omega, by omega⟩
      have HNE := hid hne
      have HLA := hid hla
      have HQ := hid hq
      have HL := hid hl
      clear hne hla hq hl hA hBv
      go_upto_region 11 with (first
        | (go_at_call 37; refine (rblocks_any n (by omega) _).mono ?_; rintro e w5 ⟨rfl, hw⟩; have h3 := hw.symm; subst h3; rw [HC.out])
        | (go_at_call 42; refine (HST.out _ HM.out.below).mono ?_; rintro e w5 ⟨p2, k2, c2, rfl, hbw, hx2⟩; have HB5 := hid hbw; have HX2 := hid hx2; clear hbw hx2))
      obtain ⟨hk2, hstr, hkc2, hpn⟩ := HX2.out HFU.out.2
      have hk2' : k2 = l := by rw [hk2, HFU.out.1, HL.out]
      subst hk2'
      have HM5 : Hid (RPaM w w5 (.slice po k0 cc) ((List.range k).flatMap (pcs y n a b))) := ⟨HM.out.buf.below HB5.out, HM.out.below.trans (HB5.out.mono HM.out.below.size)⟩
      have HSTR := hid (hstr w5 HB5.out)
      have HPN := hid hpn
      clear hstr hpn hk2 HX2 HST
      obtain ⟨s, hs⟩ : ∃ s, snd y m n k = s := ⟨_, rfl⟩
      have HSS := hid hs
      rw [hs] at HOKF ⊢
      clear hs
      by_cases h5 : phi n b k ≤ plo a k
      · have t5 : Hv ≤ (la : Int) := by rw [← HLA.out]; exact HNE.out.2.1.2 h5
        go_wp2
        go_roundw
        case rel => exact ⟨k + 1, by omega, by go_num, by rw [HSU.out, HNIL.out h5, List.append_nil]; exact HM5.out, fun j hj => by
          by_cases e : j < k
          · exact HS.out j e
          · rw [show j = k by omega]; exact .inl h5⟩
        case measure => simp [intOf]; omega
      · have t5 : ¬ Hv ≤ (la : Int) := by rw [← HLA.out]; exact fun h => h5 (HNE.out.2.1.1 h)
        cases s with
        | false =>
          go_wp2
          go_ret2
          exact ⟨HM5.out.below, .inr ⟨HOKF.out (by omega) (by first | rfl | trivial), rfl⟩⟩
        | true =>
          obtain ⟨n1, n2, n3, n4, n5⟩ := HNE.out.2.2 h5
          obtain ⟨hb', hhb⟩ : ∃ hb', phi n b k - 256 * k = hb' := ⟨_, rfl⟩
          obtain ⟨u, hu⟩ : ∃ u, phi n b k - plo a k = u := ⟨_, rfl⟩
          rw [hhb] at n1 n2 n3 n4
          rw [HLA.out] at n2 n4
          rw [hu] at n4 n5
          rw [HL.out] at n3
          obtain ⟨p3, hcut, hp3, hp4⟩ := run_cut p2 k2 c2 la hb' n2 (by omega)
          rw [n4] at hcut
          have hs3 := HSTR.out.cut (h := hb') hkc2 n3 hp3
          rw [n4] at hs3
          have HPC2 := HPC.out
          rw [hu, HLA.out] at HPC2
          obtain ⟨v7, W7, r7, f7, g7, _⟩ := HM5.out.buf.app p3 u (c2 - la) (fun j => y (288 * k + 32 + (la + j))) hs3 (fun h => by have := HPN.out (hp4 h); omega) (by have := HLL.out; omega) HM5.out.below.size
          have f7' : BufL w.heap.size W7 v7 ((List.range k).flatMap (pcs y n a b) ++ pcs y n a b k) := by
            rw [HPC2]
            simpa [Nat.add_assoc] using f7
          have hb7 := HM5.out.below.grown g7 HM5.out.below.size (fun j e => (HM5.out.buf.ge j e).1)
          obtain ⟨po7, k7, cc7, rfl⟩ := f7.form3
          have HM7 : Hid (RPaM w W7 (.slice po7 k7 cc7) ((List.range k).flatMap (pcs y n a b) ++ pcs y n a b k)) := ⟨f7', hb7⟩
          have HR7 := hid r7
          have n2' : (la : Int) ≤ (hb' : Int) := by omega
          rw [n1] at hHv t5
          clear n1 n3 n4 n5 hp3 hp4 hs3 HPC2 r7 f7 g7 f7' hb7 hhb hu
          go_wp2_with (refine wpList_append_eq rfl _ _ 22 rfl _ _ rfl rfl _ _ HR7.out ?_)
          go_roundw
          case rel => exact ⟨k + 1, by omega, by go_num, by rw [HSU.out]; exact HM7.out, fun j hj => by
            by_cases e : j < k
            · exact HS.out j e
            · rw [show j = k by omega]; exact .inr HSS.out⟩
          case measure => simp [intOf]; omega
    · have hlt' : ¬ (k : Int) < (C : Int) := by omega
      have hkC : k = C := by omega
      have HM := hid hM
      clear hM
      go_wp2_with (go_at_call 37; refine (rblocks_any n (by omega) _).mono ?_; rintro e w5 ⟨rfl, hw⟩; have h3 := hw.symm; subst h3; rw [HC.out])
      go_ret2
      refine ⟨HM.out.below, .inl ⟨parOK_upto (fun i hi => HS.out i (by rw [HC.out] at hi; omega)), _, rfl, ?_⟩⟩
      unfold parL; rw [HC.out, ← hkC]; exact HM.out.buf
end Go.Proofs.Ytgmehiidnclgmaa
