/- Texts laid into one: the remark ahead of each part says what is proved there. -/
import Derived.Test.YtepkpkbgmchioaaGa
import Derived.Lib.ConvBytes
/- Contracts of the document's ReadUint and ReadText. (The rounds of the loop are written by tools/gen_Vg.py.) -/
namespace Go.Proofs.Ytepkpkbgmchioaa
open Go Go.RowKit

/-- A slice leads to these bytes. -/
def SL (w : World) (v : Value) (r : List Nat) : Prop := ∃ po c, v = .slice po r.length c ∧ BL w po r ∧ r.length ≤ c
theorem SL.below {w w' : World} {v : Value} {r : List Nat} (h : SL w v r) (hb : Below w.heap.size w w') : SL w' v r := by
  obtain ⟨po, c, h1, h2, h3⟩ := h; exact ⟨po, c, h1, h2.below hb, h3⟩
def RuS (w : World) (q : Option (Nat × List Nat)) (e : Ending) (w' : World) : Prop := Below w.heap.size w w' ∧ match q with
  | none => e = .returned (.tuple #[i64 0, .slice none 0 0, .bool false])
  | some (n, r) => ∃ v, e = .returned (.tuple #[i64 n, v, .bool true]) ∧ SL w' v r
theorem BL.from8 {w : World} {po : Option Addr} {bs : List Nat} (h : BL w po bs) (c l : Nat) (hl : l ≤ bs.length) (hc : bs.length ≤ c) : ∃ p2 : Option Addr, (∀ w : World, (Instr.slice 22 (.slice po bs.length c) (some (.int .i64 (l : Int))) none none).run Try.prog w = .ok (.slice p2 (bs.length - l) (c - l)) w) ∧ SL w (.slice p2 (bs.length - l) (c - l)) (bs.drop l) := by
  obtain ⟨p2, h1, h2, _, _⟩ := run_from8 po bs.length c l hl hc
  refine ⟨p2, h1, p2, c - l, by rw [List.length_drop], ?_, by rw [List.length_drop]; omega⟩
  rcases Nat.lt_or_ge l bs.length with hlt | hge
  · rcases h with e | ⟨b, o, hpo, hc⟩
    · subst e; simp at hlt
    · rw [h2 b o hpo hlt]
      exact BL.drop (Or.inr ⟨b, o, rfl, hc⟩) l
  · exact Or.inl (List.drop_eq_nil_of_le hge)
theorem drop_cons {bs : List Nat} {i : Nat} (h : i < bs.length) : bs.drop i = bs.getD i 0 :: bs.drop (i + 1) := by
  rw [List.drop_eq_getElem_cons h]; simp [List.getD, h]
set_option maxRecDepth 100000 in
set_option maxHeartbeats 4000000 in
theorem rReadUint_any (po : Option Addr) (c0 : Nat) (bs : List Nat) (w : World) (h : BL w po bs) (hc0 : bs.length ≤ c0) (hn : bs.length ≤ 100000) (h8 : ∀ x ∈ bs, x < 256) :
    Calls Try.prog 17 #[.slice po bs.length c0] w (RuS w (rdU bs)) := by
  have H := hid h
  have H8 := hid h8
  clear h h8
  go_enter Try.func17, Try.ntmps17
  go_wp2
  go_loopw [5, 6, 7] (fun nv uv iv wr => ∃ (i acc : Nat), i ≤ 6 ∧ i ≤ bs.length ∧ nv = i64 acc ∧ uv = i64 ((128 ^ i : Nat) : Int) ∧ iv = i64 i ∧ Acc bs i acc (bs.drop i) ∧ w = wr) (fun _ _ iv _ => (7 - intOf iv).toNat)
  case atStart => exact ⟨0, 0, by omega, by omega, rfl, rfl, rfl, by simpa using Acc.start bs, rfl⟩
  case round =>
    obtain ⟨i, acc, hi, hib, rfl, rfl, rfl, ha, hw⟩ := hrel
    subst hw
    have HA := hid ha
    clear ha
    have hi6 : i = 0 ∨ i = 1 ∨ i = 2 ∨ i = 3 ∨ i = 4 ∨ i = 5 ∨ i = 6 := by omega
    rcases hi6 with rfl | rfl | rfl | rfl | rfl | rfl | rfl
    · by_cases hlt : 0 < bs.length
      · have hlt' : (0 : Int) < (bs.length : Int) := by omega
        have hd := drop_cons hlt
        have hcb : bs.getD 0 0 < 256 := H8.out _ (by rw [List.getD_eq_getElem?_getD, List.getElem?_eq_getElem hlt]; exact List.getElem_mem hlt)
        have hat : ∃ b o, po = some ⟨b, o, none⟩ ∧ w.cell? ⟨b, o + 0, none⟩ = some (.int .u8 ((bs.getD 0 0 : Nat) : Int)) := by
          rcases H.out with e | ⟨b, o, e, hcell⟩
          · subst e; simp at hlt
          · exact ⟨b, o, e, hcell 0 hlt⟩
        obtain ⟨b, o, rfl, hcell⟩ := hat
        simp only [Nat.add_zero] at hcell
        rw [hd] at HA
        generalize bs.getD 0 0 = c at hcell HA hcb hd
        have HD := hid hd
        clear hd
        have hacc : acc < 1 := HA.out.1
        simp only [Nat.reducePow]
        by_cases hc : c < 128
        · have hc' : (c : Int) % 128 = (c : Int) := by omega
          have HU := hid (HA.out.last (by omega) hc)
          simp only [Nat.reducePow] at HU
          obtain rfl : acc = 0 := by omega
          have HU2 : Hid (rdG 6 bs = some (c, bs.drop 1)) := hid (by rw [HU.out]; simp)
          have HUN : Hid (rdU bs = some (c, bs.drop 1)) := hid (by rw [rdU_at HU2.out, if_pos (by omega)])
          obtain ⟨p2, hsl0, hS⟩ := H.out.from8 c0 1 (by omega) hc0
          have hsl : ∀ w : World, (Instr.slice 22 (.slice (some ⟨b, o, none⟩) bs.length c0) (some (.int .i64 1)) none none).run Try.prog w = .ok (.slice p2 (bs.length - 1) (c0 - 1)) w := hsl0
          have HS := hid hS
          clear hS HU HU2 hsl0 HA hacc
          by_cases hz : c = 0
          · subst hz
            go_wp2
            go_region
            go_wp2
            go_ret3
            exact ⟨(Below.refl _ _).drew, by rw [HUN.out]; exact ⟨_, rfl, HS.out.below (Below.refl _ _).drew⟩⟩
          · go_wp2
            go_region
            go_wp2
            go_ret3
            exact ⟨(Below.refl _ _).drew, by rw [HUN.out]; exact ⟨_, rfl, HS.out.below (Below.refl _ _).drew⟩⟩
        · have HM := hid (HA.out.more (by omega) (by omega) hcb)
          simp only [Nat.reducePow] at HM
          have hsum : (acc : Int) + (c : Int) % 128 = ((acc + 1 * (c % 128) : Nat) : Int) := by omega
          have hNb : acc + 1 * (c % 128) < 128 := by omega
          generalize acc + 1 * (c % 128) = N at hsum HM hNb
          clear HA hacc
          go_wp2
          exact ⟨⟨1, N, by omega, by omega, rfl, rfl, rfl, HM.out, by trivial⟩, by simp [intOf]⟩
      · have hlt' : ¬ (0 : Int) < (bs.length : Int) := by omega
        have e : bs.drop 0 = [] := List.drop_eq_nil_of_le (by omega)
        rw [e] at HA
        have HU := hid (rdU_none (HA.out.short (by omega)))
        clear HA e
        go_wp2
        go_ret3
        exact ⟨Below.refl _ _, by rw [HU.out]; rfl⟩
    · by_cases hlt : 1 < bs.length
      · have hlt' : (1 : Int) < (bs.length : Int) := by omega
        have hd := drop_cons hlt
        have hcb : bs.getD 1 0 < 256 := H8.out _ (by rw [List.getD_eq_getElem?_getD, List.getElem?_eq_getElem hlt]; exact List.getElem_mem hlt)
        have hat : ∃ b o, po = some ⟨b, o, none⟩ ∧ w.cell? ⟨b, o + 1, none⟩ = some (.int .u8 ((bs.getD 1 0 : Nat) : Int)) := by
          rcases H.out with e | ⟨b, o, e, hcell⟩
          · subst e; simp at hlt
          · exact ⟨b, o, e, hcell 1 hlt⟩
        obtain ⟨b, o, rfl, hcell⟩ := hat
        skip
        rw [hd] at HA
        generalize bs.getD 1 0 = c at hcell HA hcb hd
        have HD := hid hd
        clear hd
        have hacc : acc < 128 := HA.out.1
        simp only [Nat.reducePow]
        by_cases hc : c < 128
        · have hc' : (c : Int) % 128 = (c : Int) := by omega
          have HU := hid (HA.out.last (by omega) hc)
          simp only [Nat.reducePow] at HU
          have hsum : (acc : Int) + (c : Int) * 128 = ((acc + 128 * c : Nat) : Int) := by omega
          have hNb : acc + 128 * c < 16384 := by omega
          generalize acc + 128 * c = N at hsum HU hNb
          clear HA hacc
          by_cases hz : (c : Int) = 0
          · have HUN : Hid (rdU bs = none) := hid (rdU_none (by rw [HU.out]; simp; omega))
            clear HU
            have hc0' : c = 0 := by omega
            subst hc0'
            have hsum0 : (acc : Int) = (N : Int) := by omega
            go_wp2
            go_ret3
            exact ⟨Below.refl _ _, by rw [HUN.out]; rfl⟩
          · have HU2 : Hid (rdG 6 bs = some (N, bs.drop 2)) := hid (by rw [HU.out, if_neg (by omega)])
            by_cases hbig : 1099511627776 < (N : Int)
            · exfalso; omega
            · have HUN : Hid (rdU bs = some (N, bs.drop 2)) := hid (by rw [rdU_at HU2.out, if_pos (by omega)])
              obtain ⟨p2, hsl0, hS⟩ := H.out.from8 c0 2 (by omega) hc0
              have hsl : ∀ w : World, (Instr.slice 22 (.slice (some ⟨b, o, none⟩) bs.length c0) (some (.int .i64 2)) none none).run Try.prog w = .ok (.slice p2 (bs.length - 2) (c0 - 2)) w := hsl0
              clear hsl0
              have HS := hid hS
              clear hS HU HU2
              go_wp2
              go_region
              go_wp2
              go_ret3
              exact ⟨(Below.refl _ _).drew, by rw [HUN.out]; exact ⟨_, rfl, HS.out.below (Below.refl _ _).drew⟩⟩
        · have HM := hid (HA.out.more (by omega) (by omega) hcb)
          simp only [Nat.reducePow] at HM
          have hsum : (acc : Int) + (c : Int) % 128 * 128 = ((acc + 128 * (c % 128) : Nat) : Int) := by omega
          have hNb : acc + 128 * (c % 128) < 16384 := by omega
          generalize acc + 128 * (c % 128) = N at hsum HM hNb
          clear HA hacc
          go_wp2
          exact ⟨⟨2, N, by omega, by omega, rfl, rfl, rfl, HM.out, by trivial⟩, by simp [intOf]⟩
      · have hlt' : ¬ (1 : Int) < (bs.length : Int) := by omega
        have e : bs.drop 1 = [] := List.drop_eq_nil_of_le (by omega)
        rw [e] at HA
        have HU := hid (rdU_none (HA.out.short (by omega)))
        clear HA e
        go_wp2
        go_ret3
        exact ⟨Below.refl _ _, by rw [HU.out]; rfl⟩
    · by_cases hlt : 2 < bs.length
      · have hlt' : (2 : Int) < (bs.length : Int) := by omega
        have hd := drop_cons hlt
        have hcb : bs.getD 2 0 < 256 := H8.out _ (by rw [List.getD_eq_getElem?_getD, List.getElem?_eq_getElem hlt]; exact List.getElem_mem hlt)
        have hat : ∃ b o, po = some ⟨b, o, none⟩ ∧ w.cell? ⟨b, o + 2, none⟩ = some (.int .u8 ((bs.getD 2 0 : Nat) : Int)) := by
          rcases H.out with e | ⟨b, o, e, hcell⟩
          · subst e; simp at hlt
          · exact ⟨b, o, e, hcell 2 hlt⟩
        obtain ⟨b, o, rfl, hcell⟩ := hat
        skip
        rw [hd] at HA
        generalize bs.getD 2 0 = c at hcell HA hcb hd
        have HD := hid hd
        clear hd
        have hacc : acc < 16384 := HA.out.1
        simp only [Nat.reducePow]
        by_cases hc : c < 128
        · have hc' : (c : Int) % 128 = (c : Int) := by omega
          have HU := hid (HA.out.last (by omega) hc)
          simp only [Nat.reducePow] at HU
          have hsum : (acc : Int) + (c : Int) * 16384 = ((acc + 16384 * c : Nat) : Int) := by omega
          have hNb : acc + 16384 * c < 2097152 := by omega
          generalize acc + 16384 * c = N at hsum HU hNb
          clear HA hacc
          by_cases hz : (c : Int) = 0
          · have HUN : Hid (rdU bs = none) := hid (rdU_none (by rw [HU.out]; simp; omega))
            clear HU
            have hc0' : c = 0 := by omega
            subst hc0'
            have hsum0 : (acc : Int) = (N : Int) := by omega
            go_wp2
            go_ret3
            exact ⟨Below.refl _ _, by rw [HUN.out]; rfl⟩
          · have HU2 : Hid (rdG 6 bs = some (N, bs.drop 3)) := hid (by rw [HU.out, if_neg (by omega)])
            by_cases hbig : 1099511627776 < (N : Int)
            · exfalso; omega
            · have HUN : Hid (rdU bs = some (N, bs.drop 3)) := hid (by rw [rdU_at HU2.out, if_pos (by omega)])
              obtain ⟨p2, hsl0, hS⟩ := H.out.from8 c0 3 (by omega) hc0
              have hsl : ∀ w : World, (Instr.slice 22 (.slice (some ⟨b, o, none⟩) bs.length c0) (some (.int .i64 3)) none none).run Try.prog w = .ok (.slice p2 (bs.length - 3) (c0 - 3)) w := hsl0
              clear hsl0
              have HS := hid hS
              clear hS HU HU2
              go_wp2
              go_region
              go_wp2
              go_ret3
              exact ⟨(Below.refl _ _).drew, by rw [HUN.out]; exact ⟨_, rfl, HS.out.below (Below.refl _ _).drew⟩⟩
        · have HM := hid (HA.out.more (by omega) (by omega) hcb)
          simp only [Nat.reducePow] at HM
          have hsum : (acc : Int) + (c : Int) % 128 * 16384 = ((acc + 16384 * (c % 128) : Nat) : Int) := by omega
          have hNb : acc + 16384 * (c % 128) < 2097152 := by omega
          generalize acc + 16384 * (c % 128) = N at hsum HM hNb
          clear HA hacc
          go_wp2
          exact ⟨⟨3, N, by omega, by omega, rfl, rfl, rfl, HM.out, by trivial⟩, by simp [intOf]⟩
      · have hlt' : ¬ (2 : Int) < (bs.length : Int) := by omega
        have e : bs.drop 2 = [] := List.drop_eq_nil_of_le (by omega)
        rw [e] at HA
        have HU := hid (rdU_none (HA.out.short (by omega)))
        clear HA e
        go_wp2
        go_ret3
        exact ⟨Below.refl _ _, by rw [HU.out]; rfl⟩
    · by_cases hlt : 3 < bs.length
      · have hlt' : (3 : Int) < (bs.length : Int) := by omega
        have hd := drop_cons hlt
        have hcb : bs.getD 3 0 < 256 := H8.out _ (by rw [List.getD_eq_getElem?_getD, List.getElem?_eq_getElem hlt]; exact List.getElem_mem hlt)
        have hat : ∃ b o, po = some ⟨b, o, none⟩ ∧ w.cell? ⟨b, o + 3, none⟩ = some (.int .u8 ((bs.getD 3 0 : Nat) : Int)) := by
          rcases H.out with e | ⟨b, o, e, hcell⟩
          · subst e; simp at hlt
          · exact ⟨b, o, e, hcell 3 hlt⟩
        obtain ⟨b, o, rfl, hcell⟩ := hat
        skip
        rw [hd] at HA
        generalize bs.getD 3 0 = c at hcell HA hcb hd
        have HD := hid hd
        clear hd
        have hacc : acc < 2097152 := HA.out.1
        simp only [Nat.reducePow]
        by_cases hc : c < 128
        · have hc' : (c : Int) % 128 = (c : Int) := by omega
          have HU := hid (HA.out.last (by omega) hc)
          simp only [Nat.reducePow] at HU
          have hsum : (acc : Int) + (c : Int) * 2097152 = ((acc + 2097152 * c : Nat) : Int) := by omega
          have hNb : acc + 2097152 * c < 268435456 := by omega
          generalize acc + 2097152 * c = N at hsum HU hNb
          clear HA hacc
          by_cases hz : (c : Int) = 0
          · have HUN : Hid (rdU bs = none) := hid (rdU_none (by rw [HU.out]; simp; omega))
            clear HU
            have hc0' : c = 0 := by omega
            subst hc0'
            have hsum0 : (acc : Int) = (N : Int) := by omega
            go_wp2
            go_ret3
            exact ⟨Below.refl _ _, by rw [HUN.out]; rfl⟩
          · have HU2 : Hid (rdG 6 bs = some (N, bs.drop 4)) := hid (by rw [HU.out, if_neg (by omega)])
            by_cases hbig : 1099511627776 < (N : Int)
            · exfalso; omega
            · have HUN : Hid (rdU bs = some (N, bs.drop 4)) := hid (by rw [rdU_at HU2.out, if_pos (by omega)])
              obtain ⟨p2, hsl0, hS⟩ := H.out.from8 c0 4 (by omega) hc0
              have hsl : ∀ w : World, (Instr.slice 22 (.slice (some ⟨b, o, none⟩) bs.length c0) (some (.int .i64 4)) none none).run Try.prog w = .ok (.slice p2 (bs.length - 4) (c0 - 4)) w := hsl0
              clear hsl0
              have HS := hid hS
              clear hS HU HU2
              go_wp2
              go_region
              go_wp2
              go_ret3
              exact ⟨(Below.refl _ _).drew, by rw [HUN.out]; exact ⟨_, rfl, HS.out.below (Below.refl _ _).drew⟩⟩
        · have HM := hid (HA.out.more (by omega) (by omega) hcb)
          simp only [Nat.reducePow] at HM
          have hsum : (acc : Int) + (c : Int) % 128 * 2097152 = ((acc + 2097152 * (c % 128) : Nat) : Int) := by omega
          have hNb : acc + 2097152 * (c % 128) < 268435456 := by omega
          generalize acc + 2097152 * (c % 128) = N at hsum HM hNb
          clear HA hacc
          go_wp2
          exact ⟨⟨4, N, by omega, by omega, rfl, rfl, rfl, HM.out, by trivial⟩, by simp [intOf]⟩
      · have hlt' : ¬ (3 : Int) < (bs.length : Int) := by omega
        have e : bs.drop 3 = [] := List.drop_eq_nil_of_le (by omega)
        rw [e] at HA
        have HU := hid (rdU_none (HA.out.short (by omega)))
        clear HA e
        go_wp2
        go_ret3
        exact ⟨Below.refl _ _, by rw [HU.out]; rfl⟩
    · by_cases hlt : 4 < bs.length
      · have hlt' : (4 : Int) < (bs.length : Int) := by omega
        have hd := drop_cons hlt
        have hcb : bs.getD 4 0 < 256 := H8.out _ (by rw [List.getD_eq_getElem?_getD, List.getElem?_eq_getElem hlt]; exact List.getElem_mem hlt)
        have hat : ∃ b o, po = some ⟨b, o, none⟩ ∧ w.cell? ⟨b, o + 4, none⟩ = some (.int .u8 ((bs.getD 4 0 : Nat) : Int)) := by
          rcases H.out with e | ⟨b, o, e, hcell⟩
          · subst e; simp at hlt
          · exact ⟨b, o, e, hcell 4 hlt⟩
        obtain ⟨b, o, rfl, hcell⟩ := hat
        skip
        rw [hd] at HA
        generalize bs.getD 4 0 = c at hcell HA hcb hd
        have HD := hid hd
        clear hd
        have hacc : acc < 268435456 := HA.out.1
        simp only [Nat.reducePow]
        by_cases hc : c < 128
        · have hc' : (c : Int) % 128 = (c : Int) := by omega
          have HU := hid (HA.out.last (by omega) hc)
          simp only [Nat.reducePow] at HU
          have hsum : (acc : Int) + (c : Int) * 268435456 = ((acc + 268435456 * c : Nat) : Int) := by omega
          have hNb : acc + 268435456 * c < 34359738368 := by omega
          generalize acc + 268435456 * c = N at hsum HU hNb
          clear HA hacc
          by_cases hz : (c : Int) = 0
          · have HUN : Hid (rdU bs = none) := hid (rdU_none (by rw [HU.out]; simp; omega))
            clear HU
            have hc0' : c = 0 := by omega
            subst hc0'
            have hsum0 : (acc : Int) = (N : Int) := by omega
            go_wp2
            go_ret3
            exact ⟨Below.refl _ _, by rw [HUN.out]; rfl⟩
          · have HU2 : Hid (rdG 6 bs = some (N, bs.drop 5)) := hid (by rw [HU.out, if_neg (by omega)])
            by_cases hbig : 1099511627776 < (N : Int)
            · exfalso; omega
            · have HUN : Hid (rdU bs = some (N, bs.drop 5)) := hid (by rw [rdU_at HU2.out, if_pos (by omega)])
              obtain ⟨p2, hsl0, hS⟩ := H.out.from8 c0 5 (by omega) hc0
              have hsl : ∀ w : World, (Instr.slice 22 (.slice (some ⟨b, o, none⟩) bs.length c0) (some (.int .i64 5)) none none).run Try.prog w = .ok (.slice p2 (bs.length - 5) (c0 - 5)) w := hsl0
              clear hsl0
              have HS := hid hS
              clear hS HU HU2
              go_wp2
              go_region
              go_wp2
              go_ret3
              exact ⟨(Below.refl _ _).drew, by rw [HUN.out]; exact ⟨_, rfl, HS.out.below (Below.refl _ _).drew⟩⟩
        · have HM := hid (HA.out.more (by omega) (by omega) hcb)
          simp only [Nat.reducePow] at HM
          have hsum : (acc : Int) + (c : Int) % 128 * 268435456 = ((acc + 268435456 * (c % 128) : Nat) : Int) := by omega
          have hNb : acc + 268435456 * (c % 128) < 34359738368 := by omega
          generalize acc + 268435456 * (c % 128) = N at hsum HM hNb
          clear HA hacc
          go_wp2
          exact ⟨⟨5, N, by omega, by omega, rfl, rfl, rfl, HM.out, by trivial⟩, by simp [intOf]⟩
      · have hlt' : ¬ (4 : Int) < (bs.length : Int) := by omega
        have e : bs.drop 4 = [] := List.drop_eq_nil_of_le (by omega)
        rw [e] at HA
        have HU := hid (rdU_none (HA.out.short (by omega)))
        clear HA e
        go_wp2
        go_ret3
        exact ⟨Below.refl _ _, by rw [HU.out]; rfl⟩
    · by_cases hlt : 5 < bs.length
      · have hlt' : (5 : Int) < (bs.length : Int) := by omega
        have hd := drop_cons hlt
        have hcb : bs.getD 5 0 < 256 := H8.out _ (by rw [List.getD_eq_getElem?_getD, List.getElem?_eq_getElem hlt]; exact List.getElem_mem hlt)
        have hat : ∃ b o, po = some ⟨b, o, none⟩ ∧ w.cell? ⟨b, o + 5, none⟩ = some (.int .u8 ((bs.getD 5 0 : Nat) : Int)) := by
          rcases H.out with e | ⟨b, o, e, hcell⟩
          · subst e; simp at hlt
          · exact ⟨b, o, e, hcell 5 hlt⟩
        obtain ⟨b, o, rfl, hcell⟩ := hat
        skip
        rw [hd] at HA
        generalize bs.getD 5 0 = c at hcell HA hcb hd
        have HD := hid hd
        clear hd
        have hacc : acc < 34359738368 := HA.out.1
        simp only [Nat.reducePow]
        by_cases hc : c < 128
        · have hc' : (c : Int) % 128 = (c : Int) := by omega
          have HU := hid (HA.out.last (by omega) hc)
          simp only [Nat.reducePow] at HU
          have hsum : (acc : Int) + (c : Int) * 34359738368 = ((acc + 34359738368 * c : Nat) : Int) := by omega
          have hNb : acc + 34359738368 * c < 4398046511104 := by omega
          generalize acc + 34359738368 * c = N at hsum HU hNb
          clear HA hacc
          by_cases hz : (c : Int) = 0
          · have HUN : Hid (rdU bs = none) := hid (rdU_none (by rw [HU.out]; simp; omega))
            clear HU
            have hc0' : c = 0 := by omega
            subst hc0'
            have hsum0 : (acc : Int) = (N : Int) := by omega
            go_wp2
            go_ret3
            exact ⟨Below.refl _ _, by rw [HUN.out]; rfl⟩
          · have HU2 : Hid (rdG 6 bs = some (N, bs.drop 6)) := hid (by rw [HU.out, if_neg (by omega)])
            by_cases hbig : 1099511627776 < (N : Int)
            · have HUN : Hid (rdU bs = none) := hid (by rw [rdU_at HU2.out, if_neg (by omega)])
              clear HU HU2
              go_wp2
              go_ret3
              exact ⟨Below.refl _ _, by rw [HUN.out]; rfl⟩
            · have HUN : Hid (rdU bs = some (N, bs.drop 6)) := hid (by rw [rdU_at HU2.out, if_pos (by omega)])
              obtain ⟨p2, hsl0, hS⟩ := H.out.from8 c0 6 (by omega) hc0
              have hsl : ∀ w : World, (Instr.slice 22 (.slice (some ⟨b, o, none⟩) bs.length c0) (some (.int .i64 6)) none none).run Try.prog w = .ok (.slice p2 (bs.length - 6) (c0 - 6)) w := hsl0
              clear hsl0
              have HS := hid hS
              clear hS HU HU2
              go_wp2
              go_region
              go_wp2
              go_ret3
              exact ⟨(Below.refl _ _).drew, by rw [HUN.out]; exact ⟨_, rfl, HS.out.below (Below.refl _ _).drew⟩⟩
        · have HM := hid (HA.out.more (by omega) (by omega) hcb)
          simp only [Nat.reducePow] at HM
          have hsum : (acc : Int) + (c : Int) % 128 * 34359738368 = ((acc + 34359738368 * (c % 128) : Nat) : Int) := by omega
          have hNb : acc + 34359738368 * (c % 128) < 4398046511104 := by omega
          generalize acc + 34359738368 * (c % 128) = N at hsum HM hNb
          clear HA hacc
          go_wp2
          exact ⟨⟨6, N, by omega, by omega, rfl, rfl, rfl, HM.out, by trivial⟩, by simp [intOf]⟩
      · have hlt' : ¬ (5 : Int) < (bs.length : Int) := by omega
        have e : bs.drop 5 = [] := List.drop_eq_nil_of_le (by omega)
        rw [e] at HA
        have HU := hid (rdU_none (HA.out.short (by omega)))
        clear HA e
        go_wp2
        go_ret3
        exact ⟨Below.refl _ _, by rw [HU.out]; rfl⟩
    · have HU := hid (rdU_none HA.out.long)
      clear HA
      by_cases hlt : (6 : Int) < (bs.length : Int) <;>
      · go_wp2
        go_ret3
        exact ⟨Below.refl _ _, by rw [HU.out]; rfl⟩
/- behind rReadUint_any -/
end Go.Proofs.Ytepkpkbgmchioaa

/- Contracts of the document's ReadText; of SameBytes and CopyBytes of the statements' kit. -/
namespace Go.Proofs.Ytepkpkbgmchioaa
open Go Go.RowKit

def RtS (w : World) (q : Option (List Nat × List Nat)) (e : Ending) (w' : World) : Prop := Below w.heap.size w w' ∧ match q with
  | none => e = .returned (.tuple #[.string ⟨#[]⟩, .slice none 0 0, .bool false])
  | some (x, r) => ∃ t v, e = .returned (.tuple #[.string t, v, .bool true]) ∧ lst t = x ∧ SL w' v r
theorem run_h8 (po : Option Addr) (n c h : Nat) (hh : h ≤ c) (w : World) : (Instr.slice 22 (.slice po n c) none (some (.int .i64 (h : Int))) none).run Try.prog w = .ok (.slice po h c) w := by
  rw [run_slice_h (P := Try.prog) w 22 po n c underE8 .i64 (h : Int) (by omega) (by omega), elem8]
  cases po with
  | none => simp [Result.andThen, sliced]
  | some a =>
    by_cases h0 : c = 0
    · simp [Result.andThen, sliced, h0]
    · simp [Result.andThen, sliced, h0, add_zero']
theorem rdU_less {bs : List Nat} (h8 : ∀ x ∈ bs, x < 256) {n : Nat} {r : List Nat} (h : rdU bs = some (n, r)) : r.length ≤ bs.length ∧ (∀ x ∈ r, x < 256) ∧ n ≤ 1099511627776 := by
  obtain ⟨e, hn⟩ := rdU_some h8 h
  rw [e] at h8 ⊢
  exact ⟨by simp, (sub256 h8).2, hn⟩
set_option maxRecDepth 100000 in
set_option maxHeartbeats 1000000 in
theorem rReadText_any (po : Option Addr) (c0 : Nat) (bs : List Nat) (w : World) (h : BL w po bs) (hc0 : bs.length ≤ c0) (hn : bs.length ≤ 100000) (h8 : ∀ x ∈ bs, x < 256) :
    Calls Try.prog 18 #[.slice po bs.length c0] w (RtS w (rdT bs)) := by
  have hu := rReadUint_any po c0 bs w h hc0 hn h8
  cases hq : rdU bs with
  | none =>
    rw [hq] at hu
    have HT : Hid (rdT bs = none) := hid (by unfold rdT; rw [hq])
    clear hq h h8
    go_enter Try.func18, Try.ntmps18
    go_wp2_with (go_at_call 17; refine hu.mono ?_; rintro e w1 ⟨hb1, he⟩; simp only at he; subst he)
    go_ret3
    exact ⟨hb1, by rw [HT.out]; rfl⟩
  | some q =>
    obtain ⟨n, r⟩ := q
    rw [hq] at hu
    have HL := hid (rdU_less h8 hq)
    have HT : Hid (rdT bs = if n ≤ 65536 ∧ n ≤ r.length then some (r.take n, r.drop n) else none) := hid (by unfold rdT; rw [hq])
    clear hq h h8
    by_cases h1 : n ≤ 65536
    · by_cases h2 : n ≤ r.length
      · have h1' : ¬ 65536 < (n : Int) := by omega
        have h2' : ¬ (r.length : Int) < (n : Int) := by omega
        go_enter Try.func18, Try.ntmps18
        go_wp2_with (go_at_call 17; refine hu.mono ?_; rintro e w1 ⟨hb1, v1, he, hs⟩; subst he; obtain ⟨po1, c1, rfl, hbl, hcc⟩ := hs; have hhead := run_h8 po1 r.length c1 n (by omega); obtain ⟨p2, hfrom, hS⟩ := hbl.from8 c1 n h2 hcc; have HS := hid hS; have hcv := ((hbl.take n).below (Below.refl w1.heap.size w1).drew).conv c1; rw [show (r.take n).length = n by rw [List.length_take]; omega] at hcv; have HB1 := hid hb1; clear hS hb1 hbl)
        go_region
        go_wp2
        go_ret3
        refine ⟨HB1.out.drew, ?_⟩
        rw [HT.out, if_pos ⟨h1, h2⟩]
        exact ⟨_, _, rfl, lst_ba fun x hx => HL.out.2.1 x (List.mem_of_mem_take hx), HS.out.below (Below.refl _ _).drew⟩
      · have h1' : ¬ 65536 < (n : Int) := by omega
        have h2' : (r.length : Int) < (n : Int) := by omega
        go_enter Try.func18, Try.ntmps18
        go_wp2_with (go_at_call 17; refine hu.mono ?_; rintro e w1 ⟨hb1, v1, he, hs⟩; subst he; obtain ⟨po1, c1, rfl, hbl, hcc⟩ := hs; have HB1 := hid hb1; clear hb1 hbl)
        go_ret3
        exact ⟨HB1.out, by rw [HT.out, if_neg (fun h => h2 h.2)]; rfl⟩
    · have h1' : 65536 < (n : Int) := by omega
      go_enter Try.func18, Try.ntmps18
      go_wp2_with (go_at_call 17; refine hu.mono ?_; rintro e w1 ⟨hb1, v1, he, hs⟩; subst he; obtain ⟨po1, c1, rfl, hbl, hcc⟩ := hs; have HB1 := hid hb1; clear hb1 hbl)
      go_ret3
      exact ⟨HB1.out, by rw [HT.out, if_neg (fun h => h1 h.1)]; rfl⟩
theorem sameB_any {w : World} {u v : Value} {x y : List Nat} (hu : SL w u x) (hv : SL w v y) (hx : ∀ z ∈ x, z < 256) (hy : ∀ z ∈ y, z < 256) :
    Calls Try.prog 11 #[u, v] w fun e w' => e = .returned (.bool (decide (x = y))) ∧ w' = w := by
  obtain ⟨p, c, rfl, hp, _⟩ := hu
  obtain ⟨q, d, rfl, hq, _⟩ := hv
  have h1 := hp.conv c
  have h2 := hq.conv d
  have h3 := lst_beq (ba x) (ba y)
  rw [lst_ba hx, lst_ba hy] at h3
  generalize ba x = X at *
  generalize ba y = Y at *
  clear hp hq hx hy
  go_enter Try.func11, Try.ntmps11
  go_wp2
  go_ret
  exact ⟨by first | rfl | (rw [h3]; rfl) | simp [h3], rfl⟩
theorem OutB.sl {B : Nat} {w : World} {v : Value} {bs : List Nat} (h : OutB B w v bs) : SL w v bs := by
  obtain ⟨po, h1, h2, _⟩ := h.form; exact ⟨po, _, h1, h2, Nat.le_refl _⟩
theorem Buf.sl {B : Nat} {w : World} {v : Value} {bs : List Nat} (h : Buf B w v bs) : SL w v bs := by
  obtain ⟨po, c, rfl⟩ := h.form; exact ⟨po, c, rfl, h.bl, h.cap.2⟩
theorem Buf.made0 (w : World) (B : Nat) (hB : B ≤ w.heap.size) : Buf B (w.alloc (.cells #[] 5)) (.slice (some ⟨w.heap.size, 0, none⟩) 0 0) [] := World.ownsRow_made w #[] 0 hB (by unfold maxLen; omega) (by simp)
theorem copyB_any {w : World} {v : Value} {x : List Nat} (hv : SL w v x) (hn : x.length ≤ 1000000) (hnil : ∀ n c, v = .slice none n c → c = 0) : Calls Try.prog 33 #[v] w (BufS w.heap.size w x) := by
  obtain ⟨p, c, rfl, hp, _⟩ := hv
  obtain ⟨v', w', hr, hb, hg⟩ := (Buf.made0 w w.heap.size (Nat.le_refl _)).app p c x (hp.below (below_al _ _)) (fun e => by subst e; exact hnil _ _ rfl) (by simp; omega) (by rw [size_al]; omega)
  have HRUN := hid hr
  clear hr
  go_enter Try.func33, Try.ntmps33
  go_wp2_with (at_builtin; refine wpList_append_run _ _ 22 22 rfl rfl _ _ _ rfl rfl HRUN.out ?_)
  go_ret
  exact ⟨v', rfl, by simpa using hb, below_grown (below_al _ _) hg (Nat.le_refl _) (fun b hb => by cases hb; exact Nat.le_refl _)⟩
#print axioms rReadText_any
#print axioms copyB_any
end Go.Proofs.Ytepkpkbgmchioaa

/- Contracts of LentBytes, KeptBytes and OverBytes of the statements' kit. -/
namespace Go.Proofs.Ytepkpkbgmchioaa
open Go.RowKit

/-- A row of n bytes lies at block b from o on. -/
def RowAt (w : World) (b o n : Nat) (x : Nat → Nat) : Prop := ∀ i, i < n → w.cell? ⟨b, o + i, none⟩ = some (.int .u8 (x i : Nat))
/-- The world w has one block more than w0 has: n bytes, x, which may be written; what was there is as it was. -/
structure NewRow (w0 w : World) (n : Nat) (x : Nat → Nat) : Prop where
  size : w.heap.size = w0.heap.size + 1
  below : Below w0.heap.size w0 w
  cells : ∀ i, i < n → w.cell? ⟨w0.heap.size, i, none⟩ = some (.int .u8 (x i : Nat))
  free : ∀ i, w.frozen? ⟨w0.heap.size, i, none⟩ = false

theorem madeCells_get (z : Value) (n i : Nat) (h : i < n) : (madeCells #[z] n)[i]? = some z := by
  simp [madeCells, h, Nat.mod_one]
theorem run_make_u8 (n : Nat) (hn : n ≤ 70003) (w : World) :
    (Instr.makeSlice 22 (.int .i64 (n : Int)) (.int .i64 (n : Int))).run Try.prog w = .ok (.slice (some ⟨w.heap.size, 0, none⟩) n n) (w.alloc (.cells (madeCells #[.int .u8 0] n) 5)) := by
  obtain ⟨i0, hi, hz0, hz1, hz2⟩ := info_parts Try.info5
  have h := run_make (P := Try.prog) w 22 5 i0 (.int .u8 0) Try.underlying22 hi hz0 .i64 .i64 n n (by omega) (Int.le_refl _) (by rw [hz2]; omega) (by omega)
  rw [hz1] at h
  simpa [Value.cells] using h

theorem NewRow.made (w : World) (n : Nat) : NewRow w (w.alloc (.cells (madeCells #[.int .u8 0] n) 5)) n (fun _ => 0) where
  size := by simp
  below := (Below.refl _ _).alloc (Nat.le_refl _) _
  cells := fun i h => by rw [World.cell?_alloc_new, madeCells_get _ _ _ h]; rfl
  free := fun i => World.frozen?_alloc_new _ _ _ _
theorem NewRow.set {w0 w : World} {n : Nat} {x : Nat → Nat} (h : NewRow w0 w n x) (k : Nat) (v : Nat) (hk : k < n) :
    NewRow w0 (w.setCell ⟨w0.heap.size, k, none⟩ (.int .u8 (v : Nat))) n (fun i => if i = k then v else x i) where
  size := by simp [h.size]
  below := h.below.setCell (Nat.le_refl _) _
  cells := fun i hi => by
    by_cases e : i = k
    · subst e
      rw [World.cell?_setCell_same _ _ _ (h.cells i hi)]; simp
    · rw [World.cell?_setCell_other _ _ _ _ (by intro h2; cases h2; exact e rfl), h.cells i hi]; simp [e]
  free := fun i => by rw [World.frozen?_setCell]; exact h.free i
theorem NewRow.congr {w0 w : World} {n : Nat} {x y : Nat → Nat} (h : NewRow w0 w n x) (e : ∀ i, i < n → x i = y i) : NewRow w0 w n y where
  size := h.size
  below := h.below
  cells := fun i hi => by rw [h.cells i hi, e i hi]
  free := h.free

theorem upto_step (f : Nat → Nat) (k i : Nat) : (if i = k then f k else if i < k then f i else 0) = if i < k + 1 then f i else 0 := by
  by_cases e : i = k
  · subst e; rw [if_pos rfl, if_pos (by omega)]
  · rw [if_neg e]
    by_cases h : i < k
    · rw [if_pos h, if_pos (by omega)]
    · rw [if_neg h, if_neg (by omega)]

end Go.Proofs.Ytepkpkbgmchioaa

/- Contract of SameBytes of the statements' kit: of two slices that read alike it returns true, and leaves the world as it was. -/
namespace Go.Proofs.Ytepkpkbgmchioaa
open Go.RowKit

/-- The slice's value leads to n bytes x; one of no byte may lead anywhere. -/
def StrAt (w : World) (p : Option Addr) (n : Nat) (x : Nat → Nat) : Prop := n = 0 ∨ ∃ b o, p = some ⟨b, o, none⟩ ∧ RowAt w b o n x
def strN (n : Nat) (x : Nat → Nat) : ByteArray := strOfNums ((List.range n).map fun i => (x i : Int))
theorem conv_str (w : World) (p : Option Addr) (n c : Nat) (x : Nat → Nat) (h : StrAt w p n x) :
    (convert 22 9 (.slice p n c)).run Try.prog w = .ok (.string (strN n x)) w := by
  rcases h with rfl | ⟨b, o, rfl, h⟩
  · rw [run_convert_bytes_string w 22 9 5 _ 0 c Try.underlying22 Try.underlying5 Try.underlying9]
    cases p <;> simp [Conv.bytesToString, loadCells, strN]
    all_goals rfl
  · exact run_convert_bytes_arg w 22 5 Try.underlying22 Try.underlying5 b o n c _ (by simp) (fun i hi => by rw [h i hi]; simp [List.getD, hi]) 9 Try.underlying9

set_option maxHeartbeats 400000 in
theorem same_true (p q : Option Addr) (n c d : Nat) (x : Nat → Nat) (w : World) (hp : StrAt w p n x) (hq : StrAt w q n x) :
    Calls Try.prog 11 #[.slice p n c, .slice q n d] w fun e w' => e = .returned (.bool true) ∧ w' = w := by
  have h1 := conv_str w p n c x hp
  have h2 := conv_str w q n d x hq
  go_enter Try.func11, Try.ntmps11
  go_wp2
  go_ret
  exact ⟨rfl, rfl⟩
end Go.Proofs.Ytepkpkbgmchioaa

/- Contract of LentBytes of the statements' kit: a copy of the bytes lies in a new block, with three marked bytes of spare room behind it; what was there is as it was. -/
namespace Go.Proofs.Ytepkpkbgmchioaa
open Go.RowKit

theorem size_setCells (b : Nat) : ∀ (vs : List Value) (o : Nat) (w : World), (w.setCells b o vs).heap.size = w.heap.size
  | [], _, _ => rfl
  | v :: r, o, w => by rw [World.setCells, size_setCells b r, World.size_setCell]
theorem below_setCells (b B : Nat) (hB : B ≤ b) : ∀ (vs : List Value) (o : Nat) (w0 w : World), Below B w0 w → Below B w0 (w.setCells b o vs)
  | [], _, _, _, h => h
  | v :: r, o, w0, w, h => by rw [World.setCells]; exact below_setCells b B hB r (o + 1) w0 _ (h.setCell hB _)

/-- n bytes as values. -/
def valN (n : Nat) (x : Nat → Nat) : List Value := (List.range n).map fun i => .int .u8 (x i : Nat)
theorem valN_len (n : Nat) (x : Nat → Nat) : (valN n x).length = n := by simp [valN]
theorem valN_get (n : Nat) (x : Nat → Nat) (i : Nat) (h : i < n) : (valN n x)[i]? = some (.int .u8 (x i : Nat)) := by simp [valN, h]

theorem NewRow.copied {w0 w : World} {n : Nat} {x : Nat → Nat} (h : NewRow w0 w n x) (m : Nat) (y : Nat → Nat) (hm : m ≤ n) :
    NewRow w0 (w.setCells w0.heap.size 0 (valN m y)) n (fun i => if i < m then y i else x i) where
  size := by rw [size_setCells, h.size]
  below := below_setCells _ _ (Nat.le_refl _) _ _ _ _ h.below
  cells := fun i hi => by
    by_cases e : i < m
    · have hin := World.cell?_setCells_in w0.heap.size (valN m y) 0 w (fun j hj => by
        rw [valN_len] at hj
        rw [Nat.zero_add, h.cells j (by omega)]; rfl) i (by rw [valN_len]; exact e)
      rw [Nat.zero_add] at hin
      rw [hin, if_pos e]
      have g := valN_get m y i e
      rw [List.getElem?_eq_getElem (by rw [valN_len]; exact e)] at g
      exact g
    · rw [World.cell?_setCells_out _ _ _ _ _ (fun _ _ => by rw [valN_len]; right; simp; omega), if_neg e, h.cells i hi]
  free := fun i => by rw [World.frozen?_setCells]; exact h.free i

theorem run_copy_u8 (w : World) (b o n c g dl dc : Nat) (x y : Nat → Nat) (w0 : World) (hg : g = w0.heap.size) (h : NewRow w0 w dl y) (hx : RowAt w b o n x) (hn : n ≤ dl) (ty : TypeId) :
    (Builtin.copy_ #[22, 22] ty #[.slice (some ⟨g, 0, none⟩) dl dc, .slice (some ⟨b, o, none⟩) n c]).run Try.prog w = .ok (goInt n) (w.setCells g 0 (valN n x)) := by
  subst hg
  have := run_copy_cells (P := Try.prog) w 22 22 ty 5 w0.heap.size 0 dl dc ⟨b, o, none⟩ n c (valN n x) Try.underlying22 (by kernel_rfl) (by rw [valN_len]; exact (Nat.min_eq_left hn).symm)
    (fun j v hj => by
      have hjn : j < n := by
        rcases Nat.lt_or_ge j n with q | q
        · exact q
        · rw [List.getElem?_eq_none (by rw [valN_len]; exact q)] at hj; cases hj
      rw [valN_get n x j hjn] at hj
      cases hj
      have hadd : (⟨b, o, none⟩ : Addr).add j = ⟨b, o + j, none⟩ := by unfold Addr.add; split <;> simp_all
      rw [hadd]; exact hx j hjn)
    (fun j hj => by rw [valN_len] at hj; rw [Nat.zero_add, h.cells j (by omega)]; rfl)
    (fun j _ => by rw [Nat.zero_add]; exact h.free j)
    (fun v hv => by unfold valN at hv; obtain ⟨i, _, rfl⟩ := List.mem_map.1 hv; rfl)
  rw [valN_len] at this
  exact this

/-- What a lent list reads as, its spare room with it. -/
def lentN (n : Nat) (x : Nat → Nat) (i : Nat) : Nat := if i < n then x i else 160 + i % 90

theorem byte_mark (k : Nat) : ((160 + k % 90 : Nat) : Int) = 160 + (k : Int) % 90 := by omega

set_option maxRecDepth 100000 in
set_option maxHeartbeats 1000000 in
theorem lent_core (p : Option Addr) (n c : Nat) (x : Nat → Nat) (w w1 : World) (hn : n ≤ 70000)
    (hcp : ∀ ty, (Builtin.copy_ #[22, 22] ty #[.slice (some ⟨w.heap.size, 0, none⟩) (n + 3) (n + 3), .slice p n c]).run Try.prog (w.alloc (.cells (madeCells #[.int .u8 0] (n + 3)) 5)) = .ok (goInt n) w1)
    (hrow : NewRow w w1 (n + 3) (fun i => if i < n then x i else 0)) :
    Calls Try.prog 14 #[.slice p n c] w fun e w' => e = .returned (.slice (some ⟨w.heap.size, 0, none⟩) n (n + 3)) ∧ NewRow w w' (n + 3) (lentN n x) := by
  have hmk := run_make_u8 (n + 3) (by omega) w
  rw [show ((n + 3 : Nat) : Int) = (n : Int) + 3 from by omega] at hmk
  have HR := hid hrow
  clear hrow
  go_enter Try.func14, Try.ntmps14
  go_wp2
  clear hmk hcp
  go_loopw [4] (fun i wr => ∃ k : Nat, n ≤ k ∧ k ≤ n + 3 ∧ i = .int .i64 k ∧ NewRow w wr (n + 3) (fun i => if i < k then lentN n x i else 0)) (fun i _ => (n + 3 - intOf i).toNat)
  case atStart => exact ⟨n, by omega, by omega, rfl, HR.out.congr (fun i _ => by by_cases e : i < n <;> simp [lentN, e])⟩
  case round =>
    obtain ⟨k, hk1, hk2, rfl, hrow⟩ := hrel
    clear HR
    by_cases hlt : k < n + 3
    · have c3 : wr.cell? ⟨w.heap.size, k, none⟩ = some (.int .u8 0) := by rw [hrow.cells k hlt]; simp
      have c4 := hrow.free k
      have HR := hid (hrow.set k (lentN n x k) hlt)
      have HL : Hid (lentN n x k = 160 + k % 90) := if_neg (by omega)
      clear hrow
      go_wp2
      go_roundw
      case rel =>
        refine ⟨k + 1, by omega, by omega, by go_num, ?_⟩
        rw [HL.out] at HR
        have := HR.out.congr (y := fun i => if i < k + 1 then lentN n x i else 0) (fun i _ => by rw [← HL.out]; exact upto_step _ k i)
        rw [byte_mark] at this
        exact this
      case measure => simp [intOf]; omega
    · have e : k = n + 3 := by omega
      have E := hid (hrow.congr (y := lentN n x) (fun i hi => by rw [if_pos (by omega)]))
      clear e hrow
      go_wp2
      go_ret
      exact ⟨rfl, E.out⟩

theorem lent_any (p : Option Addr) (n c : Nat) (x : Nat → Nat) (w : World) (hn : n ≤ 70000) (hx : StrAt w p n x) :
    Calls Try.prog 14 #[.slice p n c] w fun e w' => e = .returned (.slice (some ⟨w.heap.size, 0, none⟩) n (n + 3)) ∧ NewRow w w' (n + 3) (lentN n x) := by
  have hrow := NewRow.made w (n + 3)
  by_cases h0 : n = 0
  · subst h0
    refine lent_core p 0 c x w _ hn (fun ty => ?_) (hrow.congr (fun i _ => by simp))
    exact run_copy_none (P := Try.prog) _ 22 22 ty 5 _ _ _ _ _ _ Try.underlying22 (by kernel_rfl) (by simp)
  · rcases hx with e | ⟨b, o, rfl, hx⟩
    · exact absurd e h0
    · have hb : b < w.heap.size := World.block_lt_of_cell? w _ (hx 0 (by omega))
      have hx1 : RowAt (w.alloc (.cells (madeCells #[.int .u8 0] (n + 3)) 5)) b o n x := fun i hi => by rw [World.cell?_alloc_lt _ _ _ hb]; exact hx i hi
      exact lent_core _ n c x w _ hn (fun ty => run_copy_u8 _ b o n c w.heap.size (n + 3) (n + 3) x (fun _ => 0) w rfl hrow hx1 (by omega) ty) (hrow.copied n x (by omega))
end Go.Proofs.Ytepkpkbgmchioaa

/- Contract of KeptBytes of the statements' kit: it returns true of a lent list that reads as it was lent. -/
namespace Go.Proofs.Ytepkpkbgmchioaa
open Go.RowKit

theorem RowAt.below {B : Nat} {w w' : World} {b o n : Nat} {x : Nat → Nat} (h : RowAt w b o n x) (hb : Below B w w') (hlt : b < B) : RowAt w' b o n x :=
  fun i hi => (hb.cell (p := ⟨b, o + i, none⟩) hlt).trans (h i hi)
theorem NewRow.row {w0 w : World} {n : Nat} {x : Nat → Nat} (h : NewRow w0 w n x) : RowAt w w0.heap.size 0 n x :=
  fun i hi => by rw [Nat.zero_add]; exact h.cells i hi

set_option maxRecDepth 100000 in
set_option maxHeartbeats 1000000 in
theorem kept_any (g n c : Nat) (p : Option Addr) (x : Nat → Nat) (w : World) (hn : n ≤ 70000) (hg : g < w.heap.size) (hr : RowAt w g 0 (n + 3) (lentN n x)) (hx : StrAt w p n x) :
    Calls Try.prog 20 #[.slice (some ⟨g, 0, none⟩) n (n + 3), .slice p n c] w fun e w' => e = .returned (.bool true) ∧ Below w.heap.size w w' := by
  have hrd : RowAt w.drew g 0 (n + 3) (lentN n x) := hr
  have h3 : (0 : Int) ≤ (n : Int) + 3 := by omega
  have hw3 : IntKind.i64.wrap ((n : Int) + 3) = (n : Int) + 3 := by rw [IntKind.wrap_i64]; omega
  go_enter Try.func20, Try.ntmps20
  go_wp2_with fail
  go_region_held3 (fun w' => True) (trivial) (first | (go_at_call 14; refine (lent_any p n c x _ hn (by exact hx)).mono ?_; rintro e w1 ⟨rfl, hnew⟩) | (go_at_call 11; refine (same_true _ _ (n + 3) _ _ (lentN n x) _ (.inr ⟨_, _, rfl, by exact hrd.below hnew.below hg⟩) (.inr ⟨_, _, rfl, by exact hnew.row⟩)).mono ?_; rintro e w2 ⟨rfl, rfl⟩))
  go_wp2
  go_ret
  exact ⟨rfl, (Below.refl _ _).drew.trans hnew.below⟩

theorem BL.strAt {w : World} {po : Option Addr} {bs : List Nat} (h : BL w po bs) : StrAt w po bs.length (fun i => bs.getD i 0) := by
  rcases h with rfl | ⟨b, o, rfl, h⟩
  · exact .inl rfl
  · exact .inr ⟨b, o, rfl, h⟩
/-- Bytes that were lent. -/
structure Lent (w : World) (g : Nat) (bs : List Nat) : Prop where
  lt : g < w.heap.size
  row : RowAt w g 0 (bs.length + 3) (lentN bs.length fun i => bs.getD i 0)
theorem Lent.below {w w' : World} {g : Nat} {bs : List Nat} (h : Lent w g bs) (hb : Below w.heap.size w w') : Lent w' g bs := ⟨Nat.lt_of_lt_of_le h.lt hb.size, h.row.below hb h.lt⟩
theorem Lent.only {w w' : World} {g : Nat} {bs : List Nat} {S : Nat → Prop} (h : Lent w g bs) (ho : Only S w w') (hS : ¬ S g) : Lent w' g bs :=
  ⟨Nat.lt_of_lt_of_le h.lt ho.size, fun i hi => (World.cell?_of_block (ho.block g h.lt hS)).trans (h.row i hi)⟩
theorem Lent.bl {w : World} {g : Nat} {bs : List Nat} (h : Lent w g bs) : BL w (some ⟨g, 0, none⟩) bs := Or.inr ⟨g, 0, rfl, fun i hi => by
  have := h.row i (by omega)
  unfold lentN at this
  rw [if_pos hi] at this; exact this⟩
theorem lentB_any (po : Option Addr) (c : Nat) (bs : List Nat) (w : World) (hn : bs.length ≤ 70000) (h : BL w po bs) :
    Calls Try.prog 14 #[.slice po bs.length c] w fun e w' => e = .returned (.slice (some ⟨w.heap.size, 0, none⟩) bs.length (bs.length + 3)) ∧ Lent w' w.heap.size bs ∧ Below w.heap.size w w' :=
  (lent_any po bs.length c _ w hn h.strAt).mono fun e w' ⟨h1, h2⟩ => ⟨h1, ⟨by rw [h2.size]; omega, h2.row⟩, h2.below⟩
theorem keptB_any (g : Nat) (po : Option Addr) (c : Nat) (bs : List Nat) (w : World) (hn : bs.length ≤ 70000) (hl : Lent w g bs) (h : BL w po bs) :
    Calls Try.prog 20 #[.slice (some ⟨g, 0, none⟩) bs.length (bs.length + 3), .slice po bs.length c] w fun e w' => e = .returned (.bool true) ∧ Below w.heap.size w w' :=
  kept_any g bs.length c po _ w hn hl.lt hl.row h.strAt
/-- c cells of a block, each a byte, that may be written. -/
structure CellsU (w : World) (g c : Nat) : Prop where
  c : ∀ i, i < c → ∃ z : Nat, z < 256 ∧ w.cell? ⟨g, i, none⟩ = some (.int .u8 (z : Int))
  f : ∀ i, w.frozen? ⟨g, i, none⟩ = false
theorem CellsU.set {w : World} {g c : Nat} (h : CellsU w g c) (k z : Nat) (hz : z < 256) : CellsU (w.setCell ⟨g, k, none⟩ (.int .u8 (z : Int))) g c :=
  ⟨fun i hi => by
    obtain ⟨x, hx, hc⟩ := h.c i hi
    by_cases e : i = k
    · subst e; exact ⟨z, hz, World.cell?_setCell_same _ _ _ hc⟩
    · exact ⟨x, hx, by rw [World.cell?_setCell_other _ _ _ _ (by intro h2; cases h2; exact e rfl)]; exact hc⟩, fun i => by rw [World.frozen?_setCell]; exact h.f i⟩
theorem run_cap8 (g n c : Nat) (w : World) : (Instr.slice 22 (.slice (some ⟨g, 0, none⟩) n c) none (some (.int .i64 (c : Int))) none).run Try.prog w = .ok (.slice (some ⟨g, 0, none⟩) c c) w := by
  rw [run_slice_h (P := Try.prog) w 22 _ n c underE8 .i64 (c : Int) (by omega) (by omega), elem8]
  by_cases h0 : c = 0
  · simp [Result.andThen, sliced, h0]
  · simp [Result.andThen, sliced, h0, Addr.add]
theorem xor_lt {a b : Nat} (ha : a < 256) (hb : b < 256) : a ^^^ b < 256 := Nat.xor_lt_two_pow (n := 8) ha hb
set_option maxRecDepth 100000 in
set_option maxHeartbeats 1000000 in
theorem over2_any (g n c : Nat) (w : World) (hn : c ≤ maxLen) (h : CellsU w g c) :
    Calls Try.prog 19 #[.slice (some ⟨g, 0, none⟩) n c] w fun e w' => e = .returned (.tuple #[]) ∧ Only (fun b => b = g) w w' := by
  have hs := run_cap8 g n c
  have H := hid h
  have hn' : c ≤ 9223372036854775807 := hn
  clear h hn
  go_enter Try.func19, Try.ntmps19
  go_wp2
  clear hs
  go_loopw [3] (fun i wr => ∃ k : Nat, k ≤ c ∧ i = .int .i64 k ∧ Only (fun b => b = g) w wr ∧ CellsU wr g c) (fun i _ => (c - intOf i).toNat)
  case atStart => exact ⟨0, by omega, rfl, Only.refl _ _, H.out⟩
  case round =>
    clear H
    obtain ⟨k, hk, rfl, ho, hr⟩ := hrel
    by_cases hlt : k < c
    · have hlt' : (k : Int) < (c : Int) := by omega
      obtain ⟨z, hz, hcz⟩ := hr.c k hlt
      have hfz := hr.f k
      have hx : bits BinOp.xor IntKind.u8 (z : Int) 90 = ((z ^^^ 90 : Nat) : Int) := u8_xor_nat z 90 hz (by decide)
      have HO := hid (ho.trans (Only.set (S := fun b => b = g) wr ⟨g, k, none⟩ (.int .u8 ((z ^^^ 90 : Nat) : Int)) rfl))
      have HR := hid (hr.set k (z ^^^ 90) (xor_lt hz (by decide)))
      clear hr ho
      generalize z ^^^ 90 = y at *
      go_wp2
      go_roundw
      case rel => exact ⟨k + 1, by omega, by go_num, HO.out, HR.out⟩
      case measure => simp [intOf]; omega
    · have hlt' : ¬ (k : Int) < (c : Int) := by omega
      have HO := hid ho
      clear hr ho
      go_wp2
      go_end0
      exact ⟨rfl, HO.out⟩
theorem over2_nil (w : World) : Calls Try.prog 19 #[.slice none 0 0] w fun e w' => e = .returned (.tuple #[]) ∧ w' = w := by
  go_enter Try.func19, Try.ntmps19
  go_wp2
  refine wp_loop_rounds 1 ?_
  rw [rounds_succ]
  go_wp2
  go_end0
  exact ⟨rfl, rfl⟩
theorem over_out {w : World} {B : Nat} {v : Value} {bs : List Nat} (h : OutB B w v bs) (h8 : ∀ x ∈ bs, x < 256) (hn : bs.length ≤ 1000000) : Calls Try.prog 19 #[v] w fun e w' => e = .returned (.tuple #[]) ∧ Only (fun b => v.ownBlock = some b ∧ B ≤ b) w w' := by
  rcases h with ⟨rfl, _⟩ | ⟨g, rfl, hB, _, hc, hf⟩
  · exact (over2_nil w).mono fun e w' ⟨h1, h2⟩ => ⟨h1, by rw [h2]; exact Only.refl _ _⟩
  · refine (over2_any g bs.length bs.length w (by unfold maxLen; omega) ⟨fun i hi => ⟨bs.getD i 0, h8 _ ?_, hc i hi⟩, hf⟩).mono fun e w' ⟨h1, h2⟩ => ⟨h1, h2.mono fun b (e : b = g) => (by rw [e]; exact ⟨rfl, hB⟩)⟩
    rw [List.getD_eq_getElem?_getD, List.getElem?_eq_getElem hi]; exact List.getElem_mem hi
#print axioms over_out
#print axioms keptB_any
end Go.Proofs.Ytepkpkbgmchioaa

/- The walk of RecordNumbers. (Written by tools/gen_Vj.py.) -/
namespace Go.Proofs.Ytepkpkbgmchioaa
open Go Go.RowKit

theorem SL.nil (w : World) : SL w (.slice none 0 0) [] := ⟨none, 0, rfl, Or.inl rfl, Nat.le_refl _⟩
theorem OutB.blk {B : Nat} {w : World} {v : Value} {bs : List Nat} (h : OutB B w v bs) : ∀ b, v.ownBlock = some b → B ≤ b ∧ b < w.heap.size := fun b hb => by
  rcases h with ⟨rfl, _⟩ | ⟨g, rfl, h1, h2, _⟩
  · cases hb
  · cases hb; exact ⟨h1, h2⟩
theorem OutB.only {B : Nat} {w w' : World} {v : Value} {bs : List Nat} {S : Nat → Prop} (h : OutB B w v bs) (ho : Only S w w') (hS : ∀ b, v.ownBlock = some b → ¬ S b) : OutB B w' v bs := by
  rcases h with h | ⟨g, h1, h2, h3, h4, h5⟩
  · exact Or.inl h
  · have e := ho.block g h3 (hS g (by rw [h1]; rfl))
    exact Or.inr ⟨g, h1, h2, by have := ho.size; omega, fun i hi => (World.cell?_of_block e).trans (h4 i hi), fun i => by have := h5 i; unfold World.frozen? at this ⊢; rw [e]; exact this⟩
theorem rdT_less {bs : List Nat} (h8 : ∀ x ∈ bs, x < 256) {x r : List Nat} (h : rdT bs = some (x, r)) : r.length ≤ bs.length ∧ (∀ z ∈ r, z < 256) ∧ (∀ z ∈ x, z < 256) := by
  obtain ⟨e, hn⟩ := rdT_some h8 h
  rw [e] at h8 ⊢
  refine ⟨by simp, (sub256 h8).2, fun z hz => (sub256 h8).1 z ?_⟩
  unfold tb; exact List.mem_append_right _ hz
theorem tb_lt (s : ByteArray) : ∀ z ∈ tb (lst s), z < 256 := fun z hz => by
  unfold tb at hz
  rcases List.mem_append.1 hz with h | h
  · exact nb_byte _ z h
  · exact lst_lt s z h
theorem sameB_true {w : World} {u v : Value} {x : List Nat} (hu : SL w u x) (hv : SL w v x) (hx : ∀ z ∈ x, z < 256) : Calls Try.prog 11 #[u, v] w fun e w' => e = .returned (.bool true) ∧ w' = w :=
  (sameB_any hu hv hx hx).mono fun e w' ⟨h1, h2⟩ => ⟨by rw [h1]; simp, h2⟩
theorem nil_lt : ∀ z ∈ ([] : List Nat), z < 256 := by simp
end Go.Proofs.Ytepkpkbgmchioaa

/- Which texts may be IDs, tags, data names, by the program and by the document. (Written by tools/gen_Vk.py.) -/
namespace Go.Proofs.Ytepkpkbgmchioaa
open Go Go.RowKit

theorem toBytes (s : ByteArray) (w : World) : ∃ c w1, (convert 9 22 (.string s)).run Try.prog w = .ok (.slice (some ⟨w.heap.size, 0, none⟩) s.size c) w1 ∧ Below w.heap.size w w1 ∧ BL w1 (some ⟨w.heap.size, 0, none⟩) (lst s) ∧ s.size ≤ c := by
  refine ⟨_, _, Lib.run_convert_string_bytes (P := Try.prog) w 9 22 5 s Try.underlying9 Try.underlying22 Try.underlying5, ⟨rfl, rfl, rfl, by rw [Lib.bytesWorld_size]; omega, fun k hk => Lib.bytesWorld_at_old w 5 s k hk⟩, Or.inr ⟨_, 0, rfl, fun i hi => ?_⟩, by have := grownCap_ge w s.size 0 5; omega⟩
  rw [lst_len] at hi
  rw [Nat.zero_add, Lib.bytesWorld_cell w 5 s i hi]
  have h2 : i < s.data.toList.length := by rw [Array.length_toList]; exact hi
  unfold lst u8
  rw [List.getD_eq_getElem?_getD, List.getD_eq_getElem?_getD, List.getElem?_map, List.getElem?_eq_getElem h2]
  rfl
theorem getD_all {l : List Nat} {f : Nat → Bool} : l.all f = true ↔ ∀ i, i < l.length → f (l.getD i 0) = true := by
  rw [List.all_eq_true]
  constructor
  · intro h i hi
    rw [List.getD_eq_getElem?_getD, List.getElem?_eq_getElem hi]
    exact h _ (List.getElem_mem hi)
  · intro h x hx
    obtain ⟨i, hi, rfl⟩ := List.mem_iff_getElem.1 hx
    have := h i hi
    rwa [List.getD_eq_getElem?_getD, List.getElem?_eq_getElem hi] at this
theorem all_not {l : List Nat} {last : Nat} {dash : Bool} {k : Nat} (hk : k < l.length) (h : isOf last dash (l.getD k 0) = false) : l.all (isOf last dash) = false := by
  cases e : l.all (isOf last dash)
  · rfl
  · have := getD_all.1 e k hk; rw [h] at this; cases this
theorem okOf_not {l : List Nat} {least most last : Nat} {dash : Bool} {k : Nat} (hk : k < l.length) (h : isOf last dash (l.getD k 0) = false) : okOf l least most last dash = false := by
  unfold okOf; rw [all_not hk h]; rfl
theorem lst_getD (s : ByteArray) (i : Nat) : (lst s).getD i 0 < 256 := by
  by_cases hi : i < (lst s).length
  · rw [List.getD_eq_getElem?_getD, List.getElem?_eq_getElem hi]; exact lst_lt s _ (List.getElem_mem hi)
  · rw [List.getD_eq_getElem?_getD, List.getElem?_eq_none (by omega)]; decide
set_option maxRecDepth 100000 in
set_option maxHeartbeats 2000000 in
theorem allOf_any (s : ByteArray) (last : Nat) (dash : Bool) (w : World) (hs : s.size ≤ 1000000) : Calls Try.prog 61 #[.string s, .int .u8 (last : Int), .bool dash] w fun e w' => e = .returned (.bool ((lst s).all (isOf last dash))) ∧ Below w.heap.size w w' := by
  obtain ⟨cc, w1, hconv, hb, hbl, _⟩ := toBytes s w
  have HB := hid hb
  have HBL := hid hbl
  have HZ := hid (lst_len s)
  clear hb hbl
  go_enter Try.func61, Try.ntmps61
  go_wp2
  clear hconv
  go_loopw [14] (fun v wr => ∃ k : Nat, k ≤ s.size ∧ v = .int .i64 (k : Int) ∧ w1 = wr ∧ ∀ i, i < k → isOf last dash ((lst s).getD i 0) = true) (fun v _ => (s.size - intOf v).toNat)
  case atStart => exact ⟨0, by omega, rfl, rfl, fun i hi => by omega⟩
  case round =>
    obtain ⟨k, hk, rfl, hw, hok⟩ := hrel
    have HOK := hid hok
    subst hw
    clear hok
    by_cases hlt0 : k < s.size
    · have hlt : k < (lst s).length := by rw [lst_len]; exact hlt0
      have hlt' : (k : Int) < (s.size : Int) := by omega
      have hcell : w1.cell? ⟨w.heap.size, k, none⟩ = some (.int .u8 (((lst s).getD k 0 : Nat) : Int)) := by
        rcases HBL.out with h | ⟨b, o, e, h⟩
        · rw [h] at hlt; simp at hlt
        · cases e; have := h k hlt; rwa [Nat.zero_add] at this
      have hc8 := lst_getD s k
      generalize hc : (lst s).getD k 0 = c at hcell hc8
      have HC := hid hc
      clear hc
      by_cases hd : 48 ≤ c ∧ c ≤ 57
      · have hok : isOf last dash c = true := by simp [isOf, dgt, hd]
        obtain ⟨hd1, hd2⟩ := hd
        go_wp2
        go_roundw
        case rel => exact ⟨k + 1, by omega, by go_num, by trivial, fun i hi => (by
            by_cases e : i = k
            · rw [e, HC.out]; exact hok
            · exact HOK.out i (by omega))⟩
        case measure => simp [intOf]; omega
      by_cases hl : 97 ≤ c ∧ c ≤ last
      · have hok : isOf last dash c = true := by simp [isOf, hl]
        obtain ⟨hl1, hl2⟩ := hl
        have h5 : ¬ (c : Int) ≤ 57 := by omega
        go_wp2
        go_roundw
        case rel => exact ⟨k + 1, by omega, by go_num, by trivial, fun i hi => (by
            by_cases e : i = k
            · rw [e, HC.out]; exact hok
            · exact HOK.out i (by omega))⟩
        case measure => simp [intOf]; omega
      have h3 : c < 48 ∨ (57 < c ∧ c < 97) ∨ (97 ≤ c ∧ last < c) := by omega
      cases dash with
      | false =>
        have hok : isOf last false c = false := by simp [isOf, dgt]; omega
        rcases h3 with h3 | ⟨h3, h4⟩ | ⟨h3, h4⟩
        · clear hd hl
          go_wp2
          go_ret
          exact ⟨by rw [all_not (last := last) hlt (by rw [HC.out]; exact hok)]; rfl, HB.out⟩
        · have h5 : ¬ (c : Int) ≤ 57 := by omega
          clear hd hl
          go_wp2
          go_ret
          exact ⟨by rw [all_not (last := last) hlt (by rw [HC.out]; exact hok)]; rfl, HB.out⟩
        · have h5 : ¬ (c : Int) ≤ 57 := by omega
          have h6 : ¬ (c : Int) ≤ (last : Int) := by omega
          clear hd hl
          go_wp2
          go_ret
          exact ⟨by rw [all_not (last := last) hlt (by rw [HC.out]; exact hok)]; rfl, HB.out⟩
      | true =>
        by_cases h45 : c = 45
        · have hok : isOf last true c = true := by simp [isOf, h45]
          subst h45
          clear hd hl h3
          go_wp2
          go_roundw
          case rel => exact ⟨k + 1, by omega, by go_num, by trivial, fun i hi => (by
              by_cases e : i = k
              · rw [e, HC.out]; exact hok
              · exact HOK.out i (by omega))⟩
          case measure => simp [intOf]; omega
        · have hok : isOf last true c = false := by simp [isOf, dgt]; omega
          have h45' : ((c : Int) == 45) = false := by simp; omega
          rcases h3 with h3 | ⟨h3, h4⟩ | ⟨h3, h4⟩
          · clear hd hl
            go_wp2
            go_ret
            exact ⟨by rw [all_not (last := last) hlt (by rw [HC.out]; exact hok)]; rfl, HB.out⟩
          · have h5 : ¬ (c : Int) ≤ 57 := by omega
            clear hd hl
            go_wp2
            go_ret
            exact ⟨by rw [all_not (last := last) hlt (by rw [HC.out]; exact hok)]; rfl, HB.out⟩
          · have h5 : ¬ (c : Int) ≤ 57 := by omega
            have h6 : ¬ (c : Int) ≤ (last : Int) := by omega
            clear hd hl
            go_wp2
            go_ret
            exact ⟨by rw [all_not (last := last) hlt (by rw [HC.out]; exact hok)]; rfl, HB.out⟩
    · have hlt' : ¬ (k : Int) < (s.size : Int) := by omega
      have e : Hid ((lst s).all (isOf last dash) = true) := getD_all.2 fun i hi => HOK.out i (by rw [lst_len] at hi; omega)
      go_wp2
      go_ret
      exact ⟨by rw [e.out]; rfl, HB.out⟩
theorem from_any (n a b : Int) (w : World) : Calls Try.prog 48 #[i64 n, i64 a, i64 b] w fun e w' => e = .returned (.bool (inR n a b)) ∧ w' = w := by
  by_cases h1 : a ≤ n
  · by_cases h2 : n ≤ b
    · have e : inR n a b = true := inR_iff.2 ⟨h1, h2⟩
      rw [e]
      go_enter Try.func48, Try.ntmps48
      go_wp2
      go_ret
      simp
    · have e : inR n a b = false := by simp [inR, h2]
      rw [e]
      go_enter Try.func48, Try.ntmps48
      go_wp2
      go_ret
      simp
  · have e : inR n a b = false := by simp [inR, h1]
    rw [e]
    go_enter Try.func48, Try.ntmps48
    go_wp2
    go_ret
    simp
theorem idx_lst (s : ByteArray) (i : Nat) (hi : i < s.size) (w : World) : (Instr.index 9 (.string s) (.int .i64 (i : Int))).run Try.prog w = .ok (.int .u8 (((lst s).getD i 0 : Nat) : Int)) w := by
  rw [run_index_string w 9 s .i64 (i : Int) under9, dif_pos ⟨by omega, by omega⟩]
  congr 3
  have h2 : i < s.data.toList.length := by rw [Array.length_toList]; exact hi
  unfold lst
  rw [List.getD_eq_getElem?_getD, List.getElem?_map, List.getElem?_eq_getElem h2]
  simp [ByteArray.getElem_eq_getElem_data]
theorem okOf_all {l : List Nat} {least most last : Nat} {dash : Bool} (h : l.all (isOf last dash) = true) : okOf l least most last dash = inR (l.length : Int) (least : Int) (most : Int) := by
  unfold okOf inR; rw [h]
  simp only [Bool.true_and]
  congr 1 <;> simp
set_option maxRecDepth 100000 in
set_option maxHeartbeats 2000000 in
theorem of_any (s : ByteArray) (least most last : Nat) (dash : Bool) (w : World) (hs : s.size ≤ 1000000) : Calls Try.prog 65 #[.string s, i64 least, i64 most, .int .u8 (last : Int), .bool dash] w fun e w' => e = .returned (.bool (okOf (lst s) least most last dash)) ∧ w' = w := by
  have HX := hid (idx_lst s)
  have HZ := hid (lst_len s)
  go_enter Try.func65, Try.ntmps65
  go_wp2
  go_loopw [11] (fun v wr => ∃ k : Nat, k ≤ s.size ∧ v = .int .i64 (k : Int) ∧ w = wr ∧ ∀ i, i < k → isOf last dash ((lst s).getD i 0) = true) (fun v _ => (s.size - intOf v).toNat)
  case atStart => exact ⟨0, by omega, rfl, rfl, fun i hi => by omega⟩
  case round =>
    obtain ⟨k, hk, rfl, hw, hok⟩ := hrel
    have HOK := hid hok
    subst hw
    clear hok
    by_cases hlt0 : k < s.size
    · have hlt : k < (lst s).length := by rw [lst_len]; exact hlt0
      have hlt' : (k : Int) < (s.size : Int) := by omega
      have hx := HX.out k hlt0
      have hc8 := lst_getD s k
      generalize hc : (lst s).getD k 0 = c at hx hc8
      have HC := hid hc
      clear hc
      by_cases hd : 48 ≤ c ∧ c ≤ 57
      · have hok : isOf last dash c = true := by simp [isOf, dgt, hd]
        obtain ⟨hd1, hd2⟩ := hd
        go_wp2
        go_roundw
        case rel => exact ⟨k + 1, by omega, by go_num, by trivial, fun i hi => (by
            by_cases e : i = k
            · rw [e, HC.out]; exact hok
            · exact HOK.out i (by omega))⟩
        case measure => simp [intOf]; omega
      by_cases hl : 97 ≤ c ∧ c ≤ last
      · have hok : isOf last dash c = true := by simp [isOf, hl]
        obtain ⟨hl1, hl2⟩ := hl
        have h5 : ¬ (c : Int) ≤ 57 := by omega
        go_wp2
        go_roundw
        case rel => exact ⟨k + 1, by omega, by go_num, by trivial, fun i hi => (by
            by_cases e : i = k
            · rw [e, HC.out]; exact hok
            · exact HOK.out i (by omega))⟩
        case measure => simp [intOf]; omega
      have h3 : c < 48 ∨ (57 < c ∧ c < 97) ∨ (97 ≤ c ∧ last < c) := by omega
      cases dash with
      | false =>
        have hok : isOf last false c = false := by simp [isOf, dgt]; omega
        rcases h3 with h3 | ⟨h3, h4⟩ | ⟨h3, h4⟩
        · clear hd hl
          go_wp2
          go_ret
          exact ⟨by rw [okOf_not (least := least) (most := most) (last := last) hlt (by rw [HC.out]; exact hok)]; rfl, by trivial⟩
        · have h5 : ¬ (c : Int) ≤ 57 := by omega
          clear hd hl
          go_wp2
          go_ret
          exact ⟨by rw [okOf_not (least := least) (most := most) (last := last) hlt (by rw [HC.out]; exact hok)]; rfl, by trivial⟩
        · have h5 : ¬ (c : Int) ≤ 57 := by omega
          have h6 : ¬ (c : Int) ≤ (last : Int) := by omega
          clear hd hl
          go_wp2
          go_ret
          exact ⟨by rw [okOf_not (least := least) (most := most) (last := last) hlt (by rw [HC.out]; exact hok)]; rfl, by trivial⟩
      | true =>
        by_cases h45 : c = 45
        · have hok : isOf last true c = true := by simp [isOf, h45]
          subst h45
          clear hd hl h3
          go_wp2
          go_roundw
          case rel => exact ⟨k + 1, by omega, by go_num, by trivial, fun i hi => (by
              by_cases e : i = k
              · rw [e, HC.out]; exact hok
              · exact HOK.out i (by omega))⟩
          case measure => simp [intOf]; omega
        · have hok : isOf last true c = false := by simp [isOf, dgt]; omega
          have h45' : ((c : Int) == 45) = false := by simp; omega
          rcases h3 with h3 | ⟨h3, h4⟩ | ⟨h3, h4⟩
          · clear hd hl
            go_wp2
            go_ret
            exact ⟨by rw [okOf_not (least := least) (most := most) (last := last) hlt (by rw [HC.out]; exact hok)]; rfl, by trivial⟩
          · have h5 : ¬ (c : Int) ≤ 57 := by omega
            clear hd hl
            go_wp2
            go_ret
            exact ⟨by rw [okOf_not (least := least) (most := most) (last := last) hlt (by rw [HC.out]; exact hok)]; rfl, by trivial⟩
          · have h5 : ¬ (c : Int) ≤ 57 := by omega
            have h6 : ¬ (c : Int) ≤ (last : Int) := by omega
            clear hd hl
            go_wp2
            go_ret
            exact ⟨by rw [okOf_not (least := least) (most := most) (last := last) hlt (by rw [HC.out]; exact hok)]; rfl, by trivial⟩
    · have hlt' : ¬ (k : Int) < (s.size : Int) := by omega
      have HE := hid (okOf_all (least := least) (most := most) (getD_all.2 fun i hi => HOK.out i (by rw [lst_len] at hi; omega)) : okOf (lst s) least most last dash = _)
      go_wp2_with (go_at_call 48; refine (from_any _ _ _ _).mono ?_; rintro e w' ⟨rfl, hw'⟩; have hw2 := hw'.symm; subst hw2)
      go_ret
      exact ⟨by rw [HE.out, HZ.out]; rfl, by trivial⟩
theorem okOf_in (l : List Nat) (least most last : Nat) (dash : Bool) : okOf l least most last dash = (inR (l.length : Int) (least : Int) (most : Int) && l.all (isOf last dash)) := by
  cases h : l.all (isOf last dash)
  · unfold okOf; rw [h]; simp
  · rw [okOf_all h]; simp
theorem isID_any (s : ByteArray) (w : World) (hs : s.size ≤ 1000000) : Calls Try.prog 44 #[.string s] w fun e w' => e = .returned (.bool (okId (lst s))) ∧ Below w.heap.size w w' := by
  have hal := allOf_any s 122 false w hs
  have hle : okId (lst s) = (inR (s.size : Int) 1 32 && (lst s).all (isOf 122 false)) := by unfold okId; rw [okOf_in, lst_len]; rfl
  rw [hle]
  clear hle
  generalize (lst s).all (isOf 122 false) = bb at *
  cases hin : inR (s.size : Int) 1 32
  · go_enter Try.func44, Try.ntmps44
    go_wp2_with (go_at_call 35; refine (between_any _ _ _ _).mono ?_; rintro e w' ⟨rfl, hw'⟩; rw [hin]; have hw2 := hw'.symm; subst hw2)
    go_ret
    exact ⟨rfl, Below.refl _ _⟩
  · go_enter Try.func44, Try.ntmps44
    go_wp2_with (first
      | (go_at_call 35; refine (between_any _ _ _ _).mono ?_; rintro e w' ⟨rfl, hw'⟩; rw [hin]; have hw2 := hw'.symm; subst hw2)
      | (go_at_call 61; refine hal.mono ?_; rintro e w1 ⟨rfl, hb⟩))
    go_ret
    exact ⟨by simp, hb⟩
theorem isTag_any (s : ByteArray) (w : World) (hs : s.size ≤ 1000000) : Calls Try.prog 62 #[.string s] w fun e w' => e = .returned (.bool (okTag (lst s))) ∧ Below w.heap.size w w' := by
  have hal := allOf_any s 102 true w hs
  have hle : okTag (lst s) = (inR (s.size : Int) 1 40 && (lst s).all (isOf 102 true)) := by unfold okTag; rw [okOf_in, lst_len]; rfl
  rw [hle]
  clear hle
  generalize (lst s).all (isOf 102 true) = bb at *
  cases hin : inR (s.size : Int) 1 40
  · go_enter Try.func62, Try.ntmps62
    go_wp2_with (go_at_call 35; refine (between_any _ _ _ _).mono ?_; rintro e w' ⟨rfl, hw'⟩; rw [hin]; have hw2 := hw'.symm; subst hw2)
    go_ret
    exact ⟨rfl, Below.refl _ _⟩
  · go_enter Try.func62, Try.ntmps62
    go_wp2_with (first
      | (go_at_call 35; refine (between_any _ _ _ _).mono ?_; rintro e w' ⟨rfl, hw'⟩; rw [hin]; have hw2 := hw'.symm; subst hw2)
      | (go_at_call 61; refine hal.mono ?_; rintro e w1 ⟨rfl, hb⟩))
    go_ret
    exact ⟨by simp, hb⟩
theorem isDataName_any (s : ByteArray) (w : World) (hs : s.size ≤ 1000000) : Calls Try.prog 63 #[.string s] w fun e w' => e = .returned (.bool (okData (lst s))) ∧ Below w.heap.size w w' := by
  have hal := allOf_any s 102 false w hs
  have hle : okData (lst s) = (inR (s.size : Int) 32 32 && (lst s).all (isOf 102 false)) := by unfold okData; rw [okOf_in, lst_len]; rfl
  rw [hle]
  clear hle
  generalize (lst s).all (isOf 102 false) = bb at *
  by_cases hin : (s.size : Int) = 32
  · have hi : inR (s.size : Int) 32 32 = true := inR_iff.2 (by omega)
    rw [hi]
    have hin' : ((s.size : Int) == 32) = true := by simpa using hin
    go_enter Try.func63, Try.ntmps63
    go_wp2_with (go_at_call 61; refine hal.mono ?_; rintro e w1 ⟨rfl, hb⟩)
    go_ret
    exact ⟨by simp, hb⟩
  · have hi : inR (s.size : Int) 32 32 = false := by simp [inR]; omega
    rw [hi]
    have hin' : ((s.size : Int) == 32) = false := by simpa using hin
    go_enter Try.func63, Try.ntmps63
    go_wp2_with fail
    go_ret
    exact ⟨rfl, Below.refl _ _⟩
theorem rID_any (s : ByteArray) (w : World) (hs : s.size ≤ 1000000) : Calls Try.prog 47 #[.string s] w fun e w' => e = .returned (.bool (okId (lst s))) ∧ w' = w := by
  have hal := of_any s 1 32 122 false w hs
  unfold okId
  generalize okOf (lst s) 1 32 122 false = bb at *
  go_enter Try.func47, Try.ntmps47
  go_wp2_with (go_at_call 65; refine hal.mono ?_; rintro e w1 ⟨rfl, hw'⟩; have hw2 := hw'.symm; subst hw2)
  go_ret
  exact ⟨rfl, by trivial⟩
theorem rTag_any (s : ByteArray) (w : World) (hs : s.size ≤ 1000000) : Calls Try.prog 49 #[.string s] w fun e w' => e = .returned (.bool (okTag (lst s))) ∧ w' = w := by
  have hal := of_any s 1 40 102 true w hs
  unfold okTag
  generalize okOf (lst s) 1 40 102 true = bb at *
  go_enter Try.func49, Try.ntmps49
  go_wp2_with (go_at_call 65; refine hal.mono ?_; rintro e w1 ⟨rfl, hw'⟩; have hw2 := hw'.symm; subst hw2)
  go_ret
  exact ⟨rfl, by trivial⟩
theorem rData_any (s : ByteArray) (w : World) (hs : s.size ≤ 1000000) : Calls Try.prog 50 #[.string s] w fun e w' => e = .returned (.bool (okData (lst s))) ∧ w' = w := by
  have hal := of_any s 32 32 102 false w hs
  unfold okData
  generalize okOf (lst s) 32 32 102 false = bb at *
  go_enter Try.func50, Try.ntmps50
  go_wp2_with (go_at_call 65; refine hal.mono ?_; rintro e w1 ⟨rfl, hw'⟩; have hw2 := hw'.symm; subst hw2)
  go_ret
  exact ⟨rfl, by trivial⟩
#print axioms isDataName_any
#print axioms rData_any
end Go.Proofs.Ytepkpkbgmchioaa

/- Records and their parts in memory. Contracts of slices.Equal over parts. -/
namespace Go.Proofs.Ytepkpkbgmchioaa
open Go Go.RowKit

theorem run_loadVar_at (w : World) (g off : Nat) (ty : TypeId) (cs : Array Value) (d : TypeDesc) (hc : ∀ j v, cs[j]? = some v → w.cell? ⟨g, off + j, none⟩ = some v)
    (hu : Try.prog.underlying ty = some d) (hd : (match d with | .struct _ | .array _ _ => true | _ => false) = true) (hi : (Try.prog.info? ty).map (·.size) = some cs.size) :
    (loadVar ty ⟨g, off, none⟩).run Try.prog w = .ok (.agg cs) w := by
  have hl : (loadCells ⟨g, off, none⟩ cs.toList.length).run Try.prog w = .ok cs.toList.toArray w :=
    run_loadCells_list (P := Try.prog) w ⟨g, off, none⟩ cs.toList (fun j v hv => by
      rw [add_none]; exact hc j v (by simpa using hv))
  cases hq : Try.prog.info? ty with
  | none => simp [hq] at hi
  | some i =>
    have hs : i.size = cs.size := by simpa [hq] using hi
    have hagg : (isAgg ty).run Try.prog w = .ok true w := by
      unfold isAgg
      rw [Sem.run_bind, run_underlying hu w]
      cases d <;> simp_all
    simp only [Array.length_toList, Array.toArray_toList] at hl
    simp [loadVar, Sem.run_bind, hagg, sizeOf, typeInfo, hq, hs, hl]
theorem wpList_load_at {ops : Array Oper} {rest : List Oper} {o : Oper} {a : Act} {w : World} {Q : Exit → Act → World → Prop} (ty : TypeId) (x : Operand) (ho : o.op = .load ty x) (hw : Region.wanted o (yielded ops a.tmps) = true)
    (g off : Nat) (hx : a.eval x = .pointer (some ⟨g, off, none⟩)) (cs : Array Value) (d : TypeDesc) (hc : ∀ j v, cs[j]? = some v → w.cell? ⟨g, off + j, none⟩ = some v)
    (hu : Try.prog.underlying ty = some d) (hd : (match d with | .struct _ | .array _ _ => true | _ => false) = true) (hi : (Try.prog.info? ty).map (·.size) = some cs.size)
    (h : wpList Try.prog ops Q rest (a.put o.dst (.agg cs)) w) : wpList Try.prog ops Q (o :: rest) a w := by
  refine BigFrame.wpList_want hw fun K hK => ?_
  unfold Oper.wp execOp
  simp only [ho, hx, Instr.loadAt, Instr.sureAddr, Sem.run_bind, Sem.run_pure, Result.andThen_ok, run_loadVar_at w g off ty cs d hc hu hd hi]
  exact hK _ _ h
/-- Parts of a version. -/
abbrev Ps := List (Int × Int)
def PCells (w : World) (b o : Nat) (ps : Ps) : Prop := ∀ i, i < ps.length → w.cell? ⟨b, o + i * 2, none⟩ = some (i64 (ps.getD i (0, 0)).1) ∧ w.cell? ⟨b, o + i * 2 + 1, none⟩ = some (i64 (ps.getD i (0, 0)).2)
def PL (w : World) (v : Value) (ps : Ps) : Prop := ∃ po c, v = .slice po ps.length c ∧ ps.length ≤ c ∧ ps.length ≤ 100000 ∧ (ps = [] ∨ ∃ b o, po = some ⟨b, o, none⟩ ∧ PCells w b o ps)
theorem PL.keep {w w' : World} {v : Value} {ps : Ps} (h : PL w v ps) (hk : ∀ a, w.cell? a ≠ none → w'.cell? a = w.cell? a) : PL w' v ps := by
  obtain ⟨po, c, h1, h2, h3, h⟩ := h
  refine ⟨po, c, h1, h2, h3, ?_⟩
  rcases h with h | ⟨b, o, hp, h⟩
  · exact Or.inl h
  · exact Or.inr ⟨b, o, hp, fun i hi => ⟨(hk _ (by rw [(h i hi).1]; simp)).trans (h i hi).1, (hk _ (by rw [(h i hi).2]; simp)).trans (h i hi).2⟩⟩
theorem PL.below {w w' : World} {v : Value} {ps : Ps} (h : PL w v ps) (hb : Below w.heap.size w w') : PL w' v ps :=
  h.keep fun a ha => World.cell?_of_block (hb.block a.block (cell_lt' ha))
set_option maxRecDepth 100000 in
set_option maxHeartbeats 1000000 in
theorem equal_any (u v : Value) (ps qs : Ps) (w : World) (hu : PL w u ps) (hv : PL w v qs) : Calls Try.prog 52 #[u, v] w fun e w' => e = .returned (.bool (decide (ps = qs))) ∧ Below w.heap.size w w' := by
  obtain ⟨p, c, rfl, hc, hl, hp⟩ := hu
  obtain ⟨q, d, rfl, hd, hl2, hq⟩ := hv
  by_cases hlen : ps.length = qs.length
  · have hlen' : (ps.length : Int) = (qs.length : Int) := by omega
    have HP := hid hp
    have HQ := hid hq
    have HE := hid hlen
    rw [← hlen] at hl2 hd ⊢
    clear hp hq hlen'
    go_enter Try.func52, Try.ntmps52
    go_wp2
    go_loopw [13] (fun v wr => ∃ k : Nat, k ≤ ps.length ∧ v = .int .i64 (k : Int) ∧ Below w.heap.size w wr ∧ ∀ i, i < k → ps.getD i (0, 0) = qs.getD i (0, 0)) (fun v _ => (ps.length - intOf v).toNat)
    case atStart => exact ⟨0, by omega, rfl, Below.refl _ _, fun i hi => by omega⟩
    case round =>
      obtain ⟨k, hk, rfl, hw, hok⟩ := hrel
      have HOK := hid hok
      have HW := hid hw
      clear hok hw
      by_cases hlt : k < ps.length
      · have hlt' : (k : Int) < (ps.length : Int) := by omega
        have hx : ∃ b o, p = some ⟨b, o, none⟩ ∧ wr.cell? ⟨b, o + k * 2, none⟩ = some (i64 (ps.getD k (0, 0)).1) ∧ wr.cell? ⟨b, o + k * 2 + 1, none⟩ = some (i64 (ps.getD k (0, 0)).2) := by
          rcases HP.out with h | ⟨b, o, h, hc⟩
          · rw [h] at hlt; simp at hlt
          · obtain ⟨h1, h2⟩ := hc k hlt
            exact ⟨b, o, h, (World.cell?_of_block (HW.out.block b (cell_lt' (a := ⟨b, o + k * 2, none⟩) (by rw [h1]; simp)))).trans h1, (World.cell?_of_block (HW.out.block b (cell_lt' (a := ⟨b, o + k * 2, none⟩) (by rw [h1]; simp)))).trans h2⟩
        have hy : ∃ b o, q = some ⟨b, o, none⟩ ∧ wr.cell? ⟨b, o + k * 2, none⟩ = some (i64 (qs.getD k (0, 0)).1) ∧ wr.cell? ⟨b, o + k * 2 + 1, none⟩ = some (i64 (qs.getD k (0, 0)).2) := by
          rcases HQ.out with h | ⟨b, o, h, hc⟩
          · have := HE.out; rw [h] at this; simp at this; subst this; simp at hlt
          · obtain ⟨h1, h2⟩ := hc k (by have := HE.out; omega)
            exact ⟨b, o, h, (World.cell?_of_block (HW.out.block b (cell_lt' (a := ⟨b, o + k * 2, none⟩) (by rw [h1]; simp)))).trans h1, (World.cell?_of_block (HW.out.block b (cell_lt' (a := ⟨b, o + k * 2, none⟩) (by rw [h1]; simp)))).trans h2⟩
        obtain ⟨b, o, rfl, x1, x2⟩ := hx
        obtain ⟨b', o', rfl, y1, y2⟩ := hy
        by_cases hX : (ps.getD k (0, 0)).1 = (qs.getD k (0, 0)).1
        · by_cases hY : (ps.getD k (0, 0)).2 = (qs.getD k (0, 0)).2
          · have HXY : Hid (ps.getD k (0, 0) = qs.getD k (0, 0)) := Prod.ext hX hY
            rw [← hX] at y1
            rw [← hY] at y2
            clear hX hY
            generalize (ps.getD k (0, 0)).1 = X1 at *
            generalize (ps.getD k (0, 0)).2 = X2 at *
            go_wp2
            go_region
            go_wp2
            exact ⟨⟨k + 1, by omega, by simp, HW.out.drew, fun i hi => (by
              by_cases e : i = k
              · rw [e]; exact HXY.out
              · exact HOK.out i (by omega))⟩, by simp [intOf]; omega⟩
          · have e : Hid (decide (ps = qs) = false) := decide_eq_false fun e => hY (by rw [e])
            rw [← hX] at y1
            clear hX
            generalize (ps.getD k (0, 0)).1 = X1 at *
            generalize (ps.getD k (0, 0)).2 = X2 at *
            generalize (qs.getD k (0, 0)).2 = Y2 at *
            go_wp2
            go_region
            go_wp2
            go_ret
            exact ⟨by rw [e.out]; rfl, HW.out.drew⟩
        · have e : Hid (decide (ps = qs) = false) := decide_eq_false fun e => hX (by rw [e])
          generalize (ps.getD k (0, 0)).1 = X1 at *
          generalize (ps.getD k (0, 0)).2 = X2 at *
          generalize (qs.getD k (0, 0)).1 = Y1 at *
          generalize (qs.getD k (0, 0)).2 = Y2 at *
          go_wp2
          go_region
          go_wp2
          go_ret
          exact ⟨by rw [e.out]; rfl, HW.out.drew⟩
      · have hlt' : ¬ (k : Int) < (ps.length : Int) := by omega
        have e : Hid (decide (ps = qs) = true) := decide_eq_true (List.ext_getElem HE.out fun i h1 h2 => by
          have := HOK.out i (by omega)
          simpa [List.getD, h1, h2] using this)
        go_wp2
        go_ret
        exact ⟨by rw [e.out]; rfl, HW.out⟩
  · have hlen' : ((ps.length : Int) == (qs.length : Int)) = false := by simp; omega
    have e : decide (ps = qs) = false := decide_eq_false fun e => hlen (by rw [e])
    rw [e]
    go_enter Try.func52, Try.ntmps52
    go_wp2
    go_ret
    exact ⟨rfl, Below.refl _ _⟩
end Go.Proofs.Ytepkpkbgmchioaa

/- Records in memory. -/
namespace Go.Proofs.Ytepkpkbgmchioaa
open Go Go.RowKit

/-- A record as a value: texts, numbers, and the slice that leads to its parts. -/
structure Rv where
  id : ByteArray
  time : Int
  mark : Bool
  size : Int
  etag : ByteArray
  k : Int
  m : Int
  data : ByteArray
  sum : List Nat
  pv : Value
  up : ByteArray
def sumC (x : List Nat) : Array Value := (x.map u8).toArray
def Rv.cs (r : Rv) : Array Value := #[.string r.id, i64 r.time, .bool r.mark, i64 r.size, .string r.etag, i64 r.k, i64 r.m, .string r.data] ++ (sumC r.sum ++ #[r.pv, .string r.up])
def Rv.rc (r : Rv) (ps : Ps) : Rc := ⟨lst r.id, r.time, r.mark, r.size, lst r.etag, r.k, r.m, lst r.data, r.sum, ps, lst r.up⟩
structure Rv.ok (r : Rv) : Prop where
  sl : r.sum.length = 32
  s8 : ∀ x ∈ r.sum, x < 256
  i : r.id.size ≤ 100000
  e : r.etag.size ≤ 100000
  d : r.data.size ≤ 100000
  u : r.up.size ≤ 100000
theorem sumC_size (x : List Nat) : (sumC x).size = x.length := by simp [sumC]
theorem sumC_get {x : List Nat} {j : Nat} (h : j < x.length) : (sumC x)[j]? = some (u8 (x.getD j 0)) := by simp [sumC, h, List.getD]
section
variable {r : Rv} (h : r.ok)
include h
theorem Rv.ok.size : r.cs.size = 42 := by simp [Rv.cs, sumC_size, h.sl]
theorem Rv.ok.sum {j : Nat} (hj : j < 32) : r.cs[8 + j]? = some (u8 (r.sum.getD j 0)) := by
  unfold Rv.cs
  rw [Array.getElem?_append_right (by simp), Array.getElem?_append_left (by rw [sumC_size, h.sl]; simp; omega)]
  rw [show 8 + j - #[Value.string r.id, i64 r.time, .bool r.mark, i64 r.size, .string r.etag, i64 r.k, i64 r.m, .string r.data].size = j by simp]
  exact sumC_get (by rw [h.sl]; exact hj)
theorem Rv.ok.pv : r.cs[40]? = some r.pv := by
  unfold Rv.cs
  rw [Array.getElem?_append_right (by simp), Array.getElem?_append_right (by rw [sumC_size, h.sl]; simp), sumC_size, h.sl]
  rfl
theorem Rv.ok.up : r.cs[41]? = some (.string r.up) := by
  unfold Rv.cs
  rw [Array.getElem?_append_right (by simp), Array.getElem?_append_right (by rw [sumC_size, h.sl]; simp), sumC_size, h.sl]
  rfl
end
theorem Rv.get8 (r : Rv) (j : Nat) (hj : j < 8) : r.cs[j]? = #[Value.string r.id, i64 r.time, .bool r.mark, i64 r.size, .string r.etag, i64 r.k, i64 r.m, .string r.data][j]? := by
  unfold Rv.cs; rw [Array.getElem?_append_left (by simpa using hj)]
/-- What the cells of a record's block are. -/
structure RBox (w : World) (g : Nat) (r : Rv) : Prop where
  at_ : CAt w g r.cs 45
  c0 : w.cell? ⟨g, 0, none⟩ = some (.string r.id)
  c1 : w.cell? ⟨g, 1, none⟩ = some (i64 r.time)
  c2 : w.cell? ⟨g, 2, none⟩ = some (.bool r.mark)
  c3 : w.cell? ⟨g, 3, none⟩ = some (i64 r.size)
  c4 : w.cell? ⟨g, 4, none⟩ = some (.string r.etag)
  c5 : w.cell? ⟨g, 5, none⟩ = some (i64 r.k)
  c6 : w.cell? ⟨g, 6, none⟩ = some (i64 r.m)
  c7 : w.cell? ⟨g, 7, none⟩ = some (.string r.data)
  cs : ∀ j v, (sumC r.sum)[j]? = some v → w.cell? ⟨g, 8 + j, none⟩ = some v
  c40 : w.cell? ⟨g, 40, none⟩ = some r.pv
  c41 : w.cell? ⟨g, 41, none⟩ = some (.string r.up)
  free : ∀ i, w.frozen? ⟨g, i, none⟩ = false
theorem RBox.mk' {w : World} {g : Nat} {r : Rv} (h : r.ok) (hc : CAt w g r.cs 45) : RBox w g r where
  at_ := hc
  c0 := by rw [hc.cell, r.get8 0 (by omega)]; rfl
  c1 := by rw [hc.cell, r.get8 1 (by omega)]; rfl
  c2 := by rw [hc.cell, r.get8 2 (by omega)]; rfl
  c3 := by rw [hc.cell, r.get8 3 (by omega)]; rfl
  c4 := by rw [hc.cell, r.get8 4 (by omega)]; rfl
  c5 := by rw [hc.cell, r.get8 5 (by omega)]; rfl
  c6 := by rw [hc.cell, r.get8 6 (by omega)]; rfl
  c7 := by rw [hc.cell, r.get8 7 (by omega)]; rfl
  cs := fun j v hv => by
    have hj : j < 32 := by
      rcases Nat.lt_or_ge j 32 with q | q
      · exact q
      · rw [Array.getElem?_eq_none (by rw [sumC_size, h.sl]; exact q)] at hv; cases hv
    rw [hc.cell, h.sum hj, ← hv, sumC_get (by rw [h.sl]; exact hj)]
  c40 := by rw [hc.cell, h.pv]
  c41 := by rw [hc.cell, h.up]
  free := fun i => hc.free i
theorem RBox.below {w w' : World} {g : Nat} {r : Rv} (h : RBox w g r) (ho : r.ok) (hb : Below w.heap.size w w') : RBox w' g r := RBox.mk' ho (h.at_.below hb)
theorem underR : Try.prog.underlying 45 = Try.prog.underlying 45 := rfl
theorem sizeR : (Try.prog.info? 45).map (·.size) = some 42 := by kernel_rfl
theorem sizeD : (Try.prog.info? 42).map (·.size) = some 32 := by kernel_rfl
theorem wpList_boxR {ops : Array Oper} {rest : List Oper} {o : Oper} {a : Act} {w : World} {Q : Exit → Act → World → Prop} (hg : o.guard = none) (x : Operand) (ho : o.op = .box 45 x) (cs : Array Value) (hx : a.eval x = .agg cs)
    (h : ∀ w1 g, CAt w1 g cs 45 → Below w.heap.size w w1 → w.heap.size ≤ g → wpList Try.prog ops Q rest (a.put o.dst (ptr g)) w1) : wpList Try.prog ops Q (o :: rest) a w := by
  refine wpList_plain hg fun K hK => ?_
  unfold Oper.wp execOp
  simp only [ho, Instr.box, newVar, newRow, hx, Value.cells, Sem.run_bind]
  simp
  exact hK _ _ (h _ _ (CAt.made _ _ _) (below_al _ _) (Nat.le_refl _))
/-- Digests are the same, if their bytes are. -/
theorem part5 {x : List Nat} {i : Nat} (hi : i < x.length) (w : World) : (part 5 (sumC x) (i * 1)).run Try.prog w = .ok (u8 (x.getD i 0)) w := by
  have h5 : (isAgg 5).run Try.prog w = .ok false w := by kernel_rfl
  unfold part
  rw [Sem.run_bind, h5]
  simp only [Result.andThen_ok, Bool.false_eq_true, if_false, Nat.mul_one, sumC_get hi]
  rfl
theorem eqSum_in {x y : List Nat} (hx : x.length = 32) (hy : y.length = 32) (d : Nat) (he : ∀ (a b : Nat) (w : World), (Op.equalIn d 5 (u8 a) (u8 b)).run Try.prog w = .ok (a == b) w) (w : World) :
    (Op.equalIn (d + 1) 42 (.agg (sumC x)) (.agg (sumC y))).run Try.prog w = .ok (decide (x = y)) w := by
  have hu : Try.prog.underlying 42 = some (.array 32 5) := by kernel_rfl
  have hs : (sizeOf 5).run Try.prog w = .ok 1 w := by kernel_rfl
  simp only [Op.equalIn, Sem.run_bind, run_underlying hu, Result.andThen_ok, hs]
  rw [Std.Legacy.Range.forIn_eq_forIn_range']
  have hloop : ∀ (n s : Nat), s + n ≤ 32 → (forIn (m := Sem) (List.range' s n) ((none : Option Bool), ()) fun i (_ : Option Bool × Unit) => do
        let a ← part 5 (sumC x) (i * 1)
        let b ← part 5 (sumC y) (i * 1)
        let r ← Op.equalIn d 5 a b
        if (!r) = true then pure (ForInStep.done (some false, ())) else pure (ForInStep.yield (none, ()))).run Try.prog w =
      .ok (if (List.range' s n).all (fun i => x.getD i 0 == y.getD i 0) = true then (none, ()) else (some false, ())) w := fun n => by
    induction n with
    | zero => intro s _; simp
    | succ n ih =>
      intro s hs
      rw [List.range'_succ, List.forIn_cons, List.all_cons]
      simp only [Sem.run_bind, part5 (x := x) (i := s) (by omega), part5 (x := y) (i := s) (by omega), Result.andThen_ok, he]
      cases e : (x.getD s 0 == y.getD s 0)
      · simp only [Bool.not_false, if_true, Sem.run_pure, Result.andThen_ok, Bool.false_and, Bool.false_eq_true, if_false]
      · simp only [Bool.not_true, Bool.false_eq_true, if_false, Sem.run_pure, Result.andThen_ok, Bool.true_and]
        exact ih (s + 1) (by omega)
  have h32 := hloop 32 0 (by omega)
  simp only [Std.Legacy.Range.size, Nat.sub_zero, Nat.add_one_sub_one, Nat.div_one]
  rw [h32]
  have hall : (List.range' 0 32).all (fun i => x.getD i 0 == y.getD i 0) = decide (x = y) := by
    rw [Bool.eq_iff_iff, List.all_eq_true, decide_eq_true_eq]
    constructor
    · intro h
      refine List.ext_getElem (by omega) fun i h1 h2 => ?_
      have := h i (by simp; omega)
      simpa [List.getD, h1, h2] using this
    · intro h i _; rw [h]; simp
  rw [hall]
  cases decide (x = y) <;> simp
theorem eqSum {x y : List Nat} (hx : x.length = 32) (hy : y.length = 32) (w : World) : (binOp .eql 42 (.agg (sumC x)) (.agg (sumC y))).run Try.prog w = .ok (.bool (decide (x = y))) w := by
  rw [run_eql_struct, eqSum_in hx hy 9999 (fun a b w => by
    have := run_equalIn_int (P := Try.prog) w 9998 5 .u8 .u8 (a : Int) (b : Int) Try.underlying5
    unfold u8
    rw [this]
    congr 1
    rw [Bool.eq_iff_iff]; simp; omega) w]
  rfl
#print axioms eqSum
end Go.Proofs.Ytepkpkbgmchioaa

/- Which parts may be: contracts of partsMake of package record and of the document's parts. -/
namespace Go.Proofs.Ytepkpkbgmchioaa
open Go Go.RowKit

def mkP : Int → Int → Ps → Bool
  | _, left, [] => decide (left = 0)
  | last, left, p :: r => inR p.1 (last + 1) 10000 && (inR p.2 0 left && mkP p.1 (left - p.2) r)
theorem okPs_sum : ∀ {last : Int} {ps : Ps}, okPs last ps = true → 0 ≤ sumPs ps ∧ sumPs ps ≤ 65536 * ps.length
  | _, [], _ => by simp [sumPs]
  | last, p :: r, h => by
    simp [okPs, inR] at h
    have := okPs_sum h.2
    unfold sumPs at this ⊢
    simp only [List.map_cons, List.sum_cons, List.length_cons]
    omega
theorem mkP_eq : ∀ (ps : Ps) (last left : Int), 0 ≤ left → left ≤ 65536 → mkP last left ps = (okPs last ps && decide (sumPs ps = left))
  | [], last, left, h0, h1 => by simp [mkP, okPs, sumPs, eq_comm]
  | p :: r, last, left, h0, h1 => by
    have hs : sumPs (p :: r) = p.2 + sumPs r := by simp [sumPs]
    by_cases hb : 0 ≤ p.2 ∧ p.2 ≤ left
    · have ih := mkP_eq r p.1 (left - p.2) (by omega) (by omega)
      have e1 : inR p.2 0 left = true := inR_iff.2 hb
      have e2 : inR p.2 0 65536 = true := inR_iff.2 (by omega)
      have e3 : decide (sumPs r = left - p.2) = decide (sumPs (p :: r) = left) := by rw [hs]; congr 1; rw [eq_iff_iff]; omega
      have e4 : inR p.1 (last + 1) 10000 = (decide (last < p.1) && decide (p.1 ≤ 10000)) := by unfold inR; congr 1
      unfold mkP okPs
      rw [e1, e2, ih, e3, e4]
      simp only [Bool.true_and, Bool.and_true, Bool.and_assoc]
    · have e1 : inR p.2 0 left = false := by unfold inR; simp; omega
      have e5 : (okPs last (p :: r) && decide (sumPs (p :: r) = left)) = false := by
        cases h : okPs last (p :: r)
        · rfl
        · have h2 := h
          simp [okPs, inR] at h2
          have := okPs_sum h2.2
          simp only [Bool.true_and]
          exact decide_eq_false (by rw [hs]; omega)
      rw [e5]; unfold mkP; rw [e1]; simp
theorem okParts_mk {ps : Ps} {size : Int} (h0 : 0 ≤ size) (h1 : size ≤ 65536) (hne : ps ≠ []) (hl : ps.length ≤ 32) : okParts ps size = mkP 0 size ps := by
  rw [mkP_eq ps 0 size h0 h1]
  unfold okParts
  have : ps.isEmpty = false := by cases ps <;> simp_all
  simp [hl, this]
theorem PL.at {w : World} {po : Option Addr} {n c : Nat} {ps : Ps} (h : PL w (.slice po n c) ps) {k : Nat} (hk : k < ps.length) : ∃ b o, po = some ⟨b, o, none⟩ ∧ w.cell? ⟨b, o + k * 2, none⟩ = some (i64 (ps.getD k (0, 0)).1) ∧ w.cell? ⟨b, o + k * 2 + 1, none⟩ = some (i64 (ps.getD k (0, 0)).2) := by
  obtain ⟨po', c', e, _, _, h⟩ := h
  cases e
  rcases h with h | ⟨b, o, hp, h⟩
  · subst h; simp at hk
  · exact ⟨b, o, hp, h k hk⟩
theorem drop_consP {ps : Ps} {i : Nat} (h : i < ps.length) : ps.drop i = ps.getD i (0, 0) :: ps.drop (i + 1) := by
  rw [List.drop_eq_getElem_cons h]; simp [List.getD, h]
theorem mkB {w w1 : World} (h : Below w.heap.size w w1) {o : Obj} : Below w.heap.size w (w1.alloc o) := h.alloc h.size _
set_option maxRecDepth 100000 in
set_option maxHeartbeats 1000000 in
theorem partsMake_any (v : Value) (ps : Ps) (size : Int) (w : World) (hv : PL w v ps) (h0 : 0 ≤ size) (h1 : size ≤ 65536) : Calls Try.prog 64 #[v, i64 size] w fun e w' => e = .returned (.bool (okParts ps size)) ∧ Below w.heap.size w w' := by
  have HV := hid hv
  obtain ⟨po, c, rfl, hc, hl, _⟩ := hv
  by_cases hne : ps = []
  · subst hne
    go_enter Try.func64, Try.ntmps64
    go_wp2
    go_ret
    exact ⟨by simp [okParts, okPs], Below.refl _ _⟩
  have hpos : 0 < ps.length := List.length_pos_iff.2 hne
  have hz : ((ps.length : Int) == 0) = false := by simp; omega
  by_cases hbig : 32 < ps.length
  · have hbig' : 32 < (ps.length : Int) := by omega
    have e : Hid (okParts ps size = false) := by unfold okParts Hid; simp; omega
    go_enter Try.func64, Try.ntmps64
    go_wp2
    go_ret
    exact ⟨by rw [e.out]; rfl, Below.refl _ _⟩
  have hsm : ¬ 32 < (ps.length : Int) := by omega
  have HE := hid (okParts_mk h0 h1 hne (by omega))
  clear hz
  have hz : ¬ (ps.length : Int) = 0 := by omega
  generalize okParts ps size = R at *
  go_enter Try.func64, Try.ntmps64
  go_wp2
  go_loopw [5, 6, 18] (fun lv fv iv wr => ∃ (k : Nat) (last left : Int), k ≤ ps.length ∧ lv = i64 last ∧ fv = i64 left ∧ iv = i64 k ∧ 0 ≤ last ∧ last ≤ 10000 ∧ 0 ≤ left ∧ left ≤ 65536 ∧ R = mkP last left (ps.drop k) ∧ Below w.heap.size w wr) (fun _ _ iv _ => (ps.length - intOf iv).toNat)
  case atStart => exact ⟨0, 0, size, by omega, rfl, rfl, rfl, by omega, by omega, h0, h1, HE.out, Below.refl _ _⟩
  case round =>
    clear HE hz hsm
    obtain ⟨k, last, left, hk, rfl, rfl, rfl, hl0, hl1, hf0, hf1, hR, hw⟩ := hrel
    have HW := hid hw
    by_cases hlt : k < ps.length
    · have hlt' : (k : Int) < (ps.length : Int) := by omega
      rw [drop_consP hlt, mkP] at hR
      obtain ⟨b, o, hpo, x1, x2⟩ := (HV.out.below hw).at hlt
      subst hpo
      have HR := hid hR
      clear hR hw
      generalize hX1 : (ps.getD k (0, 0)).1 = X1 at *
      generalize hX2 : (ps.getD k (0, 0)).2 = X2 at *
      clear hX1 hX2
      cases i1 : inR X1 (last + 1) 10000
      · rw [i1] at HR
        go_wp2_with (go_at_call 35; refine (between_any _ _ _ _).mono ?_; rintro e w' ⟨rfl, hw'⟩; rw [i1]; have hw2 := hw'.symm; subst hw2)
        go_ret
        exact ⟨by rw [HR.out]; rfl, mkB HW.out⟩
      · rw [i1] at HR
        have hr1 := inR_iff.1 i1
        cases i2 : inR X2 0 left
        · rw [i2] at HR
          go_wp2_with (go_at_call 35; refine (between_any _ _ _ _).mono ?_; rintro e w' ⟨rfl, hw'⟩; first | rw [i1] | rw [i2]; have hw2 := hw'.symm; subst hw2)
          go_ret
          exact ⟨by rw [HR.out]; rfl, mkB HW.out⟩
        · rw [i2] at HR
          have hr2 := inR_iff.1 i2
          go_wp2_with (go_at_call 35; refine (between_any _ _ _ _).mono ?_; rintro e w' ⟨rfl, hw'⟩; first | rw [i1] | rw [i2]; have hw2 := hw'.symm; subst hw2)
          go_region
          go_wp2
          exact ⟨⟨k + 1, X1, left - X2, by omega, rfl, rfl, by simp, by omega, by omega, by omega, by omega, by rw [HR.out]; rfl, (mkB HW.out).drew⟩, by simp [intOf]; omega⟩
    · have hlt' : ¬ (k : Int) < (ps.length : Int) := by omega
      rw [List.drop_eq_nil_of_le (by omega), mkP] at hR
      have HR := hid hR
      clear hR hw
      go_wp2
      go_ret
      exact ⟨by rw [HR.out]; rfl, HW.out⟩
end Go.Proofs.Ytepkpkbgmchioaa

/- Contracts of isVersion and Check of package record. (Written by tools/gen_Vs.py.) -/
namespace Go.Proofs.Ytepkpkbgmchioaa
open Go Go.RowKit

def upOk (u : ByteArray) : Bool := u.toList.isEmpty || okId (lst u)
def versOk (r : Rv) (ps : Ps) : Bool := inR r.size 0 65536 && (okTag (lst r.etag) && (inR r.k 1 16 && (inR r.m 1 (16 - r.k) && (okData (lst r.data) && (okParts ps r.size && upOk r.up)))))
set_option maxRecDepth 100000 in
set_option maxHeartbeats 1000000 in
theorem vers_0 (r : Rv) (hr : r.ok) (ps : Ps) (w : World) (hp : PL w r.pv ps)  (h0 : inR r.size 0 65536 = false) : Calls Try.prog 45 #[.agg r.cs] w fun e w' => e = .returned (.bool false) ∧ Below w.heap.size w w' := by
  have HR := hid hr
  have HP := hid hp
  have H0 := hid h0
  clear hr hp h0
  go_enter Try.func45, Try.ntmps45
  go_wp2_with (first
    | ((with_reducible refine wpList_boxR rfl _ rfl r.cs ?_ ?_); exact rfl; intro w1 g1 hc1 hb1 hg1; have HA := hid (RBox.mk' HR.out hc1); have HB := hid hb1; have HP1 := hid (HP.out.below hb1); have c3 := HA.out.c3; have c4 := HA.out.c4; have c5 := HA.out.c5; have c6 := HA.out.c6; have c7 := HA.out.c7; have c40 := HA.out.c40; have c41 := HA.out.c41; clear hc1 hb1)
    | (go_at_call 35; refine (between_any _ _ _ _).mono ?_; rintro e w' ⟨rfl, hw'⟩; (first | rw [H0.out]); have hw2 := hw'.symm; subst hw2))
  go_ret
  exact ⟨rfl, HB.out⟩
set_option maxRecDepth 100000 in
set_option maxHeartbeats 1000000 in
theorem vers_1 (r : Rv) (hr : r.ok) (ps : Ps) (w : World) (hp : PL w r.pv ps) (h0 : inR r.size 0 65536 = true) (h1 : okTag (lst r.etag) = false) : Calls Try.prog 45 #[.agg r.cs] w fun e w' => e = .returned (.bool false) ∧ Below w.heap.size w w' := by
  have HR := hid hr
  have HP := hid hp
  have H0 := hid h0
  have H1 := hid h1
  clear hr hp h0 h1
  go_enter Try.func45, Try.ntmps45
  go_wp2_with (first
    | ((with_reducible refine wpList_boxR rfl _ rfl r.cs ?_ ?_); exact rfl; intro w1 g1 hc1 hb1 hg1; have HA := hid (RBox.mk' HR.out hc1); have HB := hid hb1; have HP1 := hid (HP.out.below hb1); have c3 := HA.out.c3; have c4 := HA.out.c4; have c5 := HA.out.c5; have c6 := HA.out.c6; have c7 := HA.out.c7; have c40 := HA.out.c40; have c41 := HA.out.c41; clear hc1 hb1)
    | (go_at_call 35; refine (between_any _ _ _ _).mono ?_; rintro e w' ⟨rfl, hw'⟩; (first | rw [H0.out]); have hw2 := hw'.symm; subst hw2)
    | (go_at_call 62; refine (isTag_any _ _ (by have := HR.out.e; omega)).mono ?_; rintro e w2 ⟨rfl, hb2⟩; rw [H1.out]; replace HA := hid (HA.out.below HR.out hb2); replace HP1 := hid (HP1.out.below hb2); replace HB := hid (below_on HB.out hb2); clear c3 c4 c5 c6 c7 c40 c41; have c3 := HA.out.c3; have c4 := HA.out.c4; have c5 := HA.out.c5; have c6 := HA.out.c6; have c7 := HA.out.c7; have c40 := HA.out.c40; have c41 := HA.out.c41; clear hb2))
  go_ret
  exact ⟨rfl, HB.out⟩
set_option maxRecDepth 100000 in
set_option maxHeartbeats 1000000 in
theorem vers_2 (r : Rv) (hr : r.ok) (ps : Ps) (w : World) (hp : PL w r.pv ps) (h0 : inR r.size 0 65536 = true) (h1 : okTag (lst r.etag) = true) (h2 : inR r.k 1 16 = false) : Calls Try.prog 45 #[.agg r.cs] w fun e w' => e = .returned (.bool false) ∧ Below w.heap.size w w' := by
  have HR := hid hr
  have HP := hid hp
  have H0 := hid h0
  have H1 := hid h1
  have H2 := hid h2
  clear hr hp h0 h1 h2
  go_enter Try.func45, Try.ntmps45
  go_wp2_with (first
    | ((with_reducible refine wpList_boxR rfl _ rfl r.cs ?_ ?_); exact rfl; intro w1 g1 hc1 hb1 hg1; have HA := hid (RBox.mk' HR.out hc1); have HB := hid hb1; have HP1 := hid (HP.out.below hb1); have c3 := HA.out.c3; have c4 := HA.out.c4; have c5 := HA.out.c5; have c6 := HA.out.c6; have c7 := HA.out.c7; have c40 := HA.out.c40; have c41 := HA.out.c41; clear hc1 hb1)
    | (go_at_call 35; refine (between_any _ _ _ _).mono ?_; rintro e w' ⟨rfl, hw'⟩; (first | rw [H0.out] | rw [H2.out]); have hw2 := hw'.symm; subst hw2)
    | (go_at_call 62; refine (isTag_any _ _ (by have := HR.out.e; omega)).mono ?_; rintro e w2 ⟨rfl, hb2⟩; rw [H1.out]; replace HA := hid (HA.out.below HR.out hb2); replace HP1 := hid (HP1.out.below hb2); replace HB := hid (below_on HB.out hb2); clear c3 c4 c5 c6 c7 c40 c41; have c3 := HA.out.c3; have c4 := HA.out.c4; have c5 := HA.out.c5; have c6 := HA.out.c6; have c7 := HA.out.c7; have c40 := HA.out.c40; have c41 := HA.out.c41; clear hb2))
  go_ret
  exact ⟨rfl, HB.out⟩
set_option maxRecDepth 100000 in
set_option maxHeartbeats 1000000 in
theorem vers_3 (r : Rv) (hr : r.ok) (ps : Ps) (w : World) (hp : PL w r.pv ps) (h0 : inR r.size 0 65536 = true) (h1 : okTag (lst r.etag) = true) (h2 : inR r.k 1 16 = true) (h3 : inR r.m 1 (16 - r.k) = false) : Calls Try.prog 45 #[.agg r.cs] w fun e w' => e = .returned (.bool false) ∧ Below w.heap.size w w' := by
  have HR := hid hr
  have HP := hid hp
  have H0 := hid h0
  have H1 := hid h1
  have H2 := hid h2
  have H3 := hid h3
  have hk := inR_iff.1 h2
  have hk1 := hk.1
  have hk2 := hk.2
  clear hk
  clear hr hp h0 h1 h2 h3
  go_enter Try.func45, Try.ntmps45
  go_wp2_with (first
    | ((with_reducible refine wpList_boxR rfl _ rfl r.cs ?_ ?_); exact rfl; intro w1 g1 hc1 hb1 hg1; have HA := hid (RBox.mk' HR.out hc1); have HB := hid hb1; have HP1 := hid (HP.out.below hb1); have c3 := HA.out.c3; have c4 := HA.out.c4; have c5 := HA.out.c5; have c6 := HA.out.c6; have c7 := HA.out.c7; have c40 := HA.out.c40; have c41 := HA.out.c41; clear hc1 hb1)
    | (go_at_call 35; refine (between_any _ _ _ _).mono ?_; rintro e w' ⟨rfl, hw'⟩; (first | rw [H0.out] | rw [H2.out] | rw [H3.out]); have hw2 := hw'.symm; subst hw2)
    | (go_at_call 62; refine (isTag_any _ _ (by have := HR.out.e; omega)).mono ?_; rintro e w2 ⟨rfl, hb2⟩; rw [H1.out]; replace HA := hid (HA.out.below HR.out hb2); replace HP1 := hid (HP1.out.below hb2); replace HB := hid (below_on HB.out hb2); clear c3 c4 c5 c6 c7 c40 c41; have c3 := HA.out.c3; have c4 := HA.out.c4; have c5 := HA.out.c5; have c6 := HA.out.c6; have c7 := HA.out.c7; have c40 := HA.out.c40; have c41 := HA.out.c41; clear hb2))
  go_ret
  exact ⟨rfl, HB.out⟩
set_option maxRecDepth 100000 in
set_option maxHeartbeats 1000000 in
theorem vers_4 (r : Rv) (hr : r.ok) (ps : Ps) (w : World) (hp : PL w r.pv ps) (h0 : inR r.size 0 65536 = true) (h1 : okTag (lst r.etag) = true) (h2 : inR r.k 1 16 = true) (h3 : inR r.m 1 (16 - r.k) = true) (h4 : okData (lst r.data) = false) : Calls Try.prog 45 #[.agg r.cs] w fun e w' => e = .returned (.bool false) ∧ Below w.heap.size w w' := by
  have HR := hid hr
  have HP := hid hp
  have H0 := hid h0
  have H1 := hid h1
  have H2 := hid h2
  have H3 := hid h3
  have H4 := hid h4
  have hk := inR_iff.1 h2
  have hk1 := hk.1
  have hk2 := hk.2
  clear hk
  clear hr hp h0 h1 h2 h3 h4
  go_enter Try.func45, Try.ntmps45
  go_wp2_with (first
    | ((with_reducible refine wpList_boxR rfl _ rfl r.cs ?_ ?_); exact rfl; intro w1 g1 hc1 hb1 hg1; have HA := hid (RBox.mk' HR.out hc1); have HB := hid hb1; have HP1 := hid (HP.out.below hb1); have c3 := HA.out.c3; have c4 := HA.out.c4; have c5 := HA.out.c5; have c6 := HA.out.c6; have c7 := HA.out.c7; have c40 := HA.out.c40; have c41 := HA.out.c41; clear hc1 hb1)
    | (go_at_call 35; refine (between_any _ _ _ _).mono ?_; rintro e w' ⟨rfl, hw'⟩; (first | rw [H0.out] | rw [H2.out] | rw [H3.out]); have hw2 := hw'.symm; subst hw2)
    | (go_at_call 62; refine (isTag_any _ _ (by have := HR.out.e; omega)).mono ?_; rintro e w2 ⟨rfl, hb2⟩; rw [H1.out]; replace HA := hid (HA.out.below HR.out hb2); replace HP1 := hid (HP1.out.below hb2); replace HB := hid (below_on HB.out hb2); clear c3 c4 c5 c6 c7 c40 c41; have c3 := HA.out.c3; have c4 := HA.out.c4; have c5 := HA.out.c5; have c6 := HA.out.c6; have c7 := HA.out.c7; have c40 := HA.out.c40; have c41 := HA.out.c41; clear hb2)
    | (go_at_call 63; refine (isDataName_any _ _ (by have := HR.out.d; omega)).mono ?_; rintro e w3 ⟨rfl, hb3⟩; rw [H4.out]; replace HA := hid (HA.out.below HR.out hb3); replace HP1 := hid (HP1.out.below hb3); replace HB := hid (below_on HB.out hb3); clear c3 c4 c5 c6 c7 c40 c41; have c3 := HA.out.c3; have c4 := HA.out.c4; have c5 := HA.out.c5; have c6 := HA.out.c6; have c7 := HA.out.c7; have c40 := HA.out.c40; have c41 := HA.out.c41; clear hb3))
  go_ret
  exact ⟨rfl, HB.out⟩
set_option maxRecDepth 100000 in
set_option maxHeartbeats 1000000 in
theorem vers_5 (r : Rv) (hr : r.ok) (ps : Ps) (w : World) (hp : PL w r.pv ps) (h0 : inR r.size 0 65536 = true) (h1 : okTag (lst r.etag) = true) (h2 : inR r.k 1 16 = true) (h3 : inR r.m 1 (16 - r.k) = true) (h4 : okData (lst r.data) = true) (h5 : okParts ps r.size = false) : Calls Try.prog 45 #[.agg r.cs] w fun e w' => e = .returned (.bool false) ∧ Below w.heap.size w w' := by
  have HR := hid hr
  have HP := hid hp
  have H0 := hid h0
  have H1 := hid h1
  have H2 := hid h2
  have H3 := hid h3
  have H4 := hid h4
  have H5 := hid h5
  have hk := inR_iff.1 h2
  have hk1 := hk.1
  have hk2 := hk.2
  clear hk
  have hz := inR_iff.1 h0
  have hz1 := hz.1
  have hz2 := hz.2
  clear hz
  clear hr hp h0 h1 h2 h3 h4 h5
  go_enter Try.func45, Try.ntmps45
  go_wp2_with (first
    | ((with_reducible refine wpList_boxR rfl _ rfl r.cs ?_ ?_); exact rfl; intro w1 g1 hc1 hb1 hg1; have HA := hid (RBox.mk' HR.out hc1); have HB := hid hb1; have HP1 := hid (HP.out.below hb1); have c3 := HA.out.c3; have c4 := HA.out.c4; have c5 := HA.out.c5; have c6 := HA.out.c6; have c7 := HA.out.c7; have c40 := HA.out.c40; have c41 := HA.out.c41; clear hc1 hb1)
    | (go_at_call 35; refine (between_any _ _ _ _).mono ?_; rintro e w' ⟨rfl, hw'⟩; (first | rw [H0.out] | rw [H2.out] | rw [H3.out]); have hw2 := hw'.symm; subst hw2)
    | (go_at_call 62; refine (isTag_any _ _ (by have := HR.out.e; omega)).mono ?_; rintro e w2 ⟨rfl, hb2⟩; rw [H1.out]; replace HA := hid (HA.out.below HR.out hb2); replace HP1 := hid (HP1.out.below hb2); replace HB := hid (below_on HB.out hb2); clear c3 c4 c5 c6 c7 c40 c41; have c3 := HA.out.c3; have c4 := HA.out.c4; have c5 := HA.out.c5; have c6 := HA.out.c6; have c7 := HA.out.c7; have c40 := HA.out.c40; have c41 := HA.out.c41; clear hb2)
    | (go_at_call 63; refine (isDataName_any _ _ (by have := HR.out.d; omega)).mono ?_; rintro e w3 ⟨rfl, hb3⟩; rw [H4.out]; replace HA := hid (HA.out.below HR.out hb3); replace HP1 := hid (HP1.out.below hb3); replace HB := hid (below_on HB.out hb3); clear c3 c4 c5 c6 c7 c40 c41; have c3 := HA.out.c3; have c4 := HA.out.c4; have c5 := HA.out.c5; have c6 := HA.out.c6; have c7 := HA.out.c7; have c40 := HA.out.c40; have c41 := HA.out.c41; clear hb3)
    | (go_at_call 64; refine (partsMake_any _ ps _ _ HP1.out hz1 hz2).mono ?_; rintro e w4 ⟨rfl, hb4⟩; rw [H5.out]; replace HA := hid (HA.out.below HR.out hb4); replace HP1 := hid (HP1.out.below hb4); replace HB := hid (below_on HB.out hb4); clear c3 c4 c5 c6 c7 c40 c41; have c3 := HA.out.c3; have c4 := HA.out.c4; have c5 := HA.out.c5; have c6 := HA.out.c6; have c7 := HA.out.c7; have c40 := HA.out.c40; have c41 := HA.out.c41; clear hb4))
  go_ret
  exact ⟨rfl, HB.out⟩
set_option maxRecDepth 100000 in
set_option maxHeartbeats 1000000 in
theorem vers_6a (r : Rv) (hr : r.ok) (ps : Ps) (w : World) (hp : PL w r.pv ps) (h0 : inR r.size 0 65536 = true) (h1 : okTag (lst r.etag) = true) (h2 : inR r.k 1 16 = true) (h3 : inR r.m 1 (16 - r.k) = true) (h4 : okData (lst r.data) = true) (h5 : okParts ps r.size = true) (h6 : r.up.toList.isEmpty = true) : Calls Try.prog 45 #[.agg r.cs] w fun e w' => e = .returned (.bool true) ∧ Below w.heap.size w w' := by
  have HR := hid hr
  have HP := hid hp
  have H0 := hid h0
  have H1 := hid h1
  have H2 := hid h2
  have H3 := hid h3
  have H4 := hid h4
  have H5 := hid h5
  have hk := inR_iff.1 h2
  have hk1 := hk.1
  have hk2 := hk.2
  clear hk
  have hz := inR_iff.1 h0
  have hz1 := hz.1
  have hz2 := hz.2
  clear hz
  clear hr hp h0 h1 h2 h3 h4 h5
  go_enter Try.func45, Try.ntmps45
  go_wp2_with (first
    | ((with_reducible refine wpList_boxR rfl _ rfl r.cs ?_ ?_); exact rfl; intro w1 g1 hc1 hb1 hg1; have HA := hid (RBox.mk' HR.out hc1); have HB := hid hb1; have HP1 := hid (HP.out.below hb1); have c3 := HA.out.c3; have c4 := HA.out.c4; have c5 := HA.out.c5; have c6 := HA.out.c6; have c7 := HA.out.c7; have c40 := HA.out.c40; have c41 := HA.out.c41; clear hc1 hb1)
    | (go_at_call 35; refine (between_any _ _ _ _).mono ?_; rintro e w' ⟨rfl, hw'⟩; (first | rw [H0.out] | rw [H2.out] | rw [H3.out]); have hw2 := hw'.symm; subst hw2)
    | (go_at_call 62; refine (isTag_any _ _ (by have := HR.out.e; omega)).mono ?_; rintro e w2 ⟨rfl, hb2⟩; rw [H1.out]; replace HA := hid (HA.out.below HR.out hb2); replace HP1 := hid (HP1.out.below hb2); replace HB := hid (below_on HB.out hb2); clear c3 c4 c5 c6 c7 c40 c41; have c3 := HA.out.c3; have c4 := HA.out.c4; have c5 := HA.out.c5; have c6 := HA.out.c6; have c7 := HA.out.c7; have c40 := HA.out.c40; have c41 := HA.out.c41; clear hb2)
    | (go_at_call 63; refine (isDataName_any _ _ (by have := HR.out.d; omega)).mono ?_; rintro e w3 ⟨rfl, hb3⟩; rw [H4.out]; replace HA := hid (HA.out.below HR.out hb3); replace HP1 := hid (HP1.out.below hb3); replace HB := hid (below_on HB.out hb3); clear c3 c4 c5 c6 c7 c40 c41; have c3 := HA.out.c3; have c4 := HA.out.c4; have c5 := HA.out.c5; have c6 := HA.out.c6; have c7 := HA.out.c7; have c40 := HA.out.c40; have c41 := HA.out.c41; clear hb3)
    | (go_at_call 64; refine (partsMake_any _ ps _ _ HP1.out hz1 hz2).mono ?_; rintro e w4 ⟨rfl, hb4⟩; rw [H5.out]; replace HA := hid (HA.out.below HR.out hb4); replace HP1 := hid (HP1.out.below hb4); replace HB := hid (below_on HB.out hb4); clear c3 c4 c5 c6 c7 c40 c41; have c3 := HA.out.c3; have c4 := HA.out.c4; have c5 := HA.out.c5; have c6 := HA.out.c6; have c7 := HA.out.c7; have c40 := HA.out.c40; have c41 := HA.out.c41; clear hb4))
  go_ret
  exact ⟨rfl, HB.out⟩
set_option maxRecDepth 100000 in
set_option maxHeartbeats 1000000 in
theorem vers_6b (r : Rv) (hr : r.ok) (ps : Ps) (w : World) (hp : PL w r.pv ps) (h0 : inR r.size 0 65536 = true) (h1 : okTag (lst r.etag) = true) (h2 : inR r.k 1 16 = true) (h3 : inR r.m 1 (16 - r.k) = true) (h4 : okData (lst r.data) = true) (h5 : okParts ps r.size = true) (h6 : r.up.toList.isEmpty = false) (h7 : okId (lst r.up) = true) : Calls Try.prog 45 #[.agg r.cs] w fun e w' => e = .returned (.bool true) ∧ Below w.heap.size w w' := by
  have HR := hid hr
  have HP := hid hp
  have H0 := hid h0
  have H1 := hid h1
  have H2 := hid h2
  have H3 := hid h3
  have H4 := hid h4
  have H5 := hid h5
  have hk := inR_iff.1 h2
  have hk1 := hk.1
  have hk2 := hk.2
  clear hk
  have hz := inR_iff.1 h0
  have hz1 := hz.1
  have hz2 := hz.2
  clear hz
  have H7 := hid h7
  clear hr hp h0 h1 h2 h3 h4 h5 h7
  go_enter Try.func45, Try.ntmps45
  go_wp2_with (first
    | ((with_reducible refine wpList_boxR rfl _ rfl r.cs ?_ ?_); exact rfl; intro w1 g1 hc1 hb1 hg1; have HA := hid (RBox.mk' HR.out hc1); have HB := hid hb1; have HP1 := hid (HP.out.below hb1); have c3 := HA.out.c3; have c4 := HA.out.c4; have c5 := HA.out.c5; have c6 := HA.out.c6; have c7 := HA.out.c7; have c40 := HA.out.c40; have c41 := HA.out.c41; clear hc1 hb1)
    | (go_at_call 35; refine (between_any _ _ _ _).mono ?_; rintro e w' ⟨rfl, hw'⟩; (first | rw [H0.out] | rw [H2.out] | rw [H3.out]); have hw2 := hw'.symm; subst hw2)
    | (go_at_call 62; refine (isTag_any _ _ (by have := HR.out.e; omega)).mono ?_; rintro e w2 ⟨rfl, hb2⟩; rw [H1.out]; replace HA := hid (HA.out.below HR.out hb2); replace HP1 := hid (HP1.out.below hb2); replace HB := hid (below_on HB.out hb2); clear c3 c4 c5 c6 c7 c40 c41; have c3 := HA.out.c3; have c4 := HA.out.c4; have c5 := HA.out.c5; have c6 := HA.out.c6; have c7 := HA.out.c7; have c40 := HA.out.c40; have c41 := HA.out.c41; clear hb2)
    | (go_at_call 63; refine (isDataName_any _ _ (by have := HR.out.d; omega)).mono ?_; rintro e w3 ⟨rfl, hb3⟩; rw [H4.out]; replace HA := hid (HA.out.below HR.out hb3); replace HP1 := hid (HP1.out.below hb3); replace HB := hid (below_on HB.out hb3); clear c3 c4 c5 c6 c7 c40 c41; have c3 := HA.out.c3; have c4 := HA.out.c4; have c5 := HA.out.c5; have c6 := HA.out.c6; have c7 := HA.out.c7; have c40 := HA.out.c40; have c41 := HA.out.c41; clear hb3)
    | (go_at_call 64; refine (partsMake_any _ ps _ _ HP1.out hz1 hz2).mono ?_; rintro e w4 ⟨rfl, hb4⟩; rw [H5.out]; replace HA := hid (HA.out.below HR.out hb4); replace HP1 := hid (HP1.out.below hb4); replace HB := hid (below_on HB.out hb4); clear c3 c4 c5 c6 c7 c40 c41; have c3 := HA.out.c3; have c4 := HA.out.c4; have c5 := HA.out.c5; have c6 := HA.out.c6; have c7 := HA.out.c7; have c40 := HA.out.c40; have c41 := HA.out.c41; clear hb4)
    | (go_at_call 44; refine (isID_any _ _ (by have := HR.out.u; omega)).mono ?_; rintro e w5 ⟨rfl, hb5⟩; rw [H7.out]; replace HA := hid (HA.out.below HR.out hb5); replace HP1 := hid (HP1.out.below hb5); replace HB := hid (below_on HB.out hb5); clear c3 c4 c5 c6 c7 c40 c41; have c3 := HA.out.c3; have c4 := HA.out.c4; have c5 := HA.out.c5; have c6 := HA.out.c6; have c7 := HA.out.c7; have c40 := HA.out.c40; have c41 := HA.out.c41; clear hb5))
  go_ret
  exact ⟨rfl, HB.out⟩
set_option maxRecDepth 100000 in
set_option maxHeartbeats 1000000 in
theorem vers_6c (r : Rv) (hr : r.ok) (ps : Ps) (w : World) (hp : PL w r.pv ps) (h0 : inR r.size 0 65536 = true) (h1 : okTag (lst r.etag) = true) (h2 : inR r.k 1 16 = true) (h3 : inR r.m 1 (16 - r.k) = true) (h4 : okData (lst r.data) = true) (h5 : okParts ps r.size = true) (h6 : r.up.toList.isEmpty = false) (h7 : okId (lst r.up) = false) : Calls Try.prog 45 #[.agg r.cs] w fun e w' => e = .returned (.bool false) ∧ Below w.heap.size w w' := by
  have HR := hid hr
  have HP := hid hp
  have H0 := hid h0
  have H1 := hid h1
  have H2 := hid h2
  have H3 := hid h3
  have H4 := hid h4
  have H5 := hid h5
  have hk := inR_iff.1 h2
  have hk1 := hk.1
  have hk2 := hk.2
  clear hk
  have hz := inR_iff.1 h0
  have hz1 := hz.1
  have hz2 := hz.2
  clear hz
  have H7 := hid h7
  clear hr hp h0 h1 h2 h3 h4 h5 h7
  go_enter Try.func45, Try.ntmps45
  go_wp2_with (first
    | ((with_reducible refine wpList_boxR rfl _ rfl r.cs ?_ ?_); exact rfl; intro w1 g1 hc1 hb1 hg1; have HA := hid (RBox.mk' HR.out hc1); have HB := hid hb1; have HP1 := hid (HP.out.below hb1); have c3 := HA.out.c3; have c4 := HA.out.c4; have c5 := HA.out.c5; have c6 := HA.out.c6; have c7 := HA.out.c7; have c40 := HA.out.c40; have c41 := HA.out.c41; clear hc1 hb1)
    | (go_at_call 35; refine (between_any _ _ _ _).mono ?_; rintro e w' ⟨rfl, hw'⟩; (first | rw [H0.out] | rw [H2.out] | rw [H3.out]); have hw2 := hw'.symm; subst hw2)
    | (go_at_call 62; refine (isTag_any _ _ (by have := HR.out.e; omega)).mono ?_; rintro e w2 ⟨rfl, hb2⟩; rw [H1.out]; replace HA := hid (HA.out.below HR.out hb2); replace HP1 := hid (HP1.out.below hb2); replace HB := hid (below_on HB.out hb2); clear c3 c4 c5 c6 c7 c40 c41; have c3 := HA.out.c3; have c4 := HA.out.c4; have c5 := HA.out.c5; have c6 := HA.out.c6; have c7 := HA.out.c7; have c40 := HA.out.c40; have c41 := HA.out.c41; clear hb2)
    | (go_at_call 63; refine (isDataName_any _ _ (by have := HR.out.d; omega)).mono ?_; rintro e w3 ⟨rfl, hb3⟩; rw [H4.out]; replace HA := hid (HA.out.below HR.out hb3); replace HP1 := hid (HP1.out.below hb3); replace HB := hid (below_on HB.out hb3); clear c3 c4 c5 c6 c7 c40 c41; have c3 := HA.out.c3; have c4 := HA.out.c4; have c5 := HA.out.c5; have c6 := HA.out.c6; have c7 := HA.out.c7; have c40 := HA.out.c40; have c41 := HA.out.c41; clear hb3)
    | (go_at_call 64; refine (partsMake_any _ ps _ _ HP1.out hz1 hz2).mono ?_; rintro e w4 ⟨rfl, hb4⟩; rw [H5.out]; replace HA := hid (HA.out.below HR.out hb4); replace HP1 := hid (HP1.out.below hb4); replace HB := hid (below_on HB.out hb4); clear c3 c4 c5 c6 c7 c40 c41; have c3 := HA.out.c3; have c4 := HA.out.c4; have c5 := HA.out.c5; have c6 := HA.out.c6; have c7 := HA.out.c7; have c40 := HA.out.c40; have c41 := HA.out.c41; clear hb4)
    | (go_at_call 44; refine (isID_any _ _ (by have := HR.out.u; omega)).mono ?_; rintro e w5 ⟨rfl, hb5⟩; rw [H7.out]; replace HA := hid (HA.out.below HR.out hb5); replace HP1 := hid (HP1.out.below hb5); replace HB := hid (below_on HB.out hb5); clear c3 c4 c5 c6 c7 c40 c41; have c3 := HA.out.c3; have c4 := HA.out.c4; have c5 := HA.out.c5; have c6 := HA.out.c6; have c7 := HA.out.c7; have c40 := HA.out.c40; have c41 := HA.out.c41; clear hb5))
  go_ret
  exact ⟨rfl, HB.out⟩
theorem isVersion_any (r : Rv) (hr : r.ok) (ps : Ps) (w : World) (hp : PL w r.pv ps) : Calls Try.prog 45 #[.agg r.cs] w fun e w' => e = .returned (.bool (versOk r ps)) ∧ Below w.heap.size w w' := by
  unfold versOk upOk
  cases h0 : inR r.size 0 65536
  · exact vers_0 r hr ps w hp h0
  cases h1 : okTag (lst r.etag)
  · exact vers_1 r hr ps w hp h0 h1
  cases h2 : inR r.k 1 16
  · exact vers_2 r hr ps w hp h0 h1 h2
  cases h3 : inR r.m 1 (16 - r.k)
  · exact vers_3 r hr ps w hp h0 h1 h2 h3
  cases h4 : okData (lst r.data)
  · exact vers_4 r hr ps w hp h0 h1 h2 h3 h4
  cases h5 : okParts ps r.size
  · exact vers_5 r hr ps w hp h0 h1 h2 h3 h4 h5
  cases h6 : r.up.toList.isEmpty
  · cases h7 : okId (lst r.up)
    · exact vers_6c r hr ps w hp h0 h1 h2 h3 h4 h5 h6 h7
    · exact vers_6b r hr ps w hp h0 h1 h2 h3 h4 h5 h6 h7
  · exact vers_6a r hr ps w hp h0 h1 h2 h3 h4 h5 h6
#print axioms isVersion_any
end Go.Proofs.Ytepkpkbgmchioaa
