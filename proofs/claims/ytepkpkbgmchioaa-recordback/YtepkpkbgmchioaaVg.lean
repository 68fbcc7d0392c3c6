/- Contracts of the document's ReadUint and ReadText. (The rounds of the loop are written by tools/gen_Vg.py.) -/
import Derived.Test.YtepkpkbgmchioaaVf
namespace Go.Proofs.Ytepkpkbgmchioaa
open Go Go.RowKit

/-- A slice leads to these bytes. -/
def SL (w : World) (v : Value) (r : List Nat) : Prop := ∃ po c, v = .slice po r.length c ∧ BL w po r ∧ r.length ≤ c
theorem SL.below {w w' : World} {v : Value} {r : List Nat} (h : SL w v r) (hb : Below w.heap.size w w') : SL w' v r := by
  obtain ⟨po, c, h1, h2, h3⟩ := h; exact ⟨po, c, h1, h2.below hb, h3⟩
def RuS (w : World) (q : Option (Nat × List Nat)) (e : Ending) (w' : World) : Prop := Below w.heap.size w w' ∧ match q with
  | none => e = .returned (.tuple #[i64 0, .slice none 0 0, .bool false])
  | some (n, r) => ∃ v, e = .returned (.tuple #[i64 n, v, .bool true]) ∧ SL w' v r
theorem BL.from8 {w : World} {po : Option Addr} {bs : List Nat} (h : BL w po bs) (c l : Nat) (hl : l ≤ bs.length) (hc : bs.length ≤ c) : ∃ p2 : Option Addr, (∀ w : World, (Instr.slice 22 (.slice po bs.length c) (some (.int .i64 (l : Int))) none none).run Try.prog w = .ok (.slice p2 (bs.length - l) (c - l)) w) ∧ SL w (.slice p2 (bs.length - l) (c - l)) (bs.drop l) := by
  obtain ⟨p2, h1, h2, _, _⟩ := run_from8 po bs.length c l hl hc
  refine ⟨p2, h1, p2, c - l, by rw [List.length_drop], ?_, by rw [List.length_drop]; omega⟩
  rcases Nat.lt_or_ge l bs.length with hlt | hge
  · rcases h with e | ⟨b, o, hpo, hc⟩
    · subst e; simp at hlt
    · rw [h2 b o hpo hlt]
      exact BL.drop (Or.inr ⟨b, o, rfl, hc⟩) l
  · exact Or.inl (List.drop_eq_nil_of_le hge)
theorem drop_cons {bs : List Nat} {i : Nat} (h : i < bs.length) : bs.drop i = bs.getD i 0 :: bs.drop (i + 1) := by
  rw [List.drop_eq_getElem_cons h]; simp [List.getD, h]
set_option maxRecDepth 100000 in
set_option maxHeartbeats 4000000 in
theorem rReadUint_any (po : Option Addr) (c0 : Nat) (bs : List Nat) (w : World) (h : BL w po bs) (hc0 : bs.length ≤ c0) (hn : bs.length ≤ 100000) (h8 : ∀ x ∈ bs, x < 256) :
    Calls Try.prog 17 #[.slice po bs.length c0] w (RuS w (rdU bs)) := by
  have H := hid h
  have H8 := hid h8
  clear h h8
  go_enter Try.func17, Try.ntmps17
  go_wp2
  go_loopw [5, 6, 7] (fun nv uv iv wr => ∃ (i acc : Nat), i ≤ 6 ∧ i ≤ bs.length ∧ nv = i64 acc ∧ uv = i64 ((128 ^ i : Nat) : Int) ∧ iv = i64 i ∧ Acc bs i acc (bs.drop i) ∧ w = wr) (fun _ _ iv _ => (7 - intOf iv).toNat)
  case atStart => exact ⟨0, 0, by omega, by omega, rfl, rfl, rfl, by simpa using Acc.start bs, rfl⟩
  case round =>
    obtain ⟨i, acc, hi, hib, rfl, rfl, rfl, ha, hw⟩ := hrel
    subst hw
    have HA := hid ha
    clear ha
    have hi6 : i = 0 ∨ i = 1 ∨ i = 2 ∨ i = 3 ∨ i = 4 ∨ i = 5 ∨ i = 6 := by omega
    rcases hi6 with rfl | rfl | rfl | rfl | rfl | rfl | rfl
    · by_cases hlt : 0 < bs.length
      · have hlt' : (0 : Int) < (bs.length : Int) := by omega
        have hd := drop_cons hlt
        have hcb : bs.getD 0 0 < 256 := H8.out _ (by rw [List.getD_eq_getElem?_getD, List.getElem?_eq_getElem hlt]; exact List.getElem_mem hlt)
        have hat : ∃ b o, po = some ⟨b, o, none⟩ ∧ w.cell? ⟨b, o + 0, none⟩ = some (.int .u8 ((bs.getD 0 0 : Nat) : Int)) := by
          rcases H.out with e | ⟨b, o, e, hcell⟩
          · subst e; simp at hlt
          · exact ⟨b, o, e, hcell 0 hlt⟩
        obtain ⟨b, o, rfl, hcell⟩ := hat
        simp only [Nat.add_zero] at hcell
        rw [hd] at HA
        generalize bs.getD 0 0 = c at hcell HA hcb hd
        have HD := hid hd
        clear hd
        have hacc : acc < 1 := HA.out.1
        simp only [Nat.reducePow]
        by_cases hc : c < 128
        · have hc' : (c : Int) % 128 = (c : Int) := by omega
          have HU := hid (HA.out.last (by omega) hc)
          simp only [Nat.reducePow] at HU
          obtain rfl : acc = 0 := by omega
          have HU2 : Hid (rdG 6 bs = some (c, bs.drop 1)) := hid (by rw [HU.out]; simp)
          have HUN : Hid (rdU bs = some (c, bs.drop 1)) := hid (by rw [rdU_at HU2.out, if_pos (by omega)])
          obtain ⟨p2, hsl0, hS⟩ := H.out.from8 c0 1 (by omega) hc0
          have hsl : ∀ w : World, (Instr.slice 22 (.slice (some ⟨b, o, none⟩) bs.length c0) (some (.int .i64 1)) none none).run Try.prog w = .ok (.slice p2 (bs.length - 1) (c0 - 1)) w := hsl0
          have HS := hid hS
          clear hS HU HU2 hsl0 HA hacc
          by_cases hz : c = 0
          · subst hz
            go_wp2
            go_region
            go_wp2
            go_ret3
            exact ⟨(Below.refl _ _).drew, by rw [HUN.out]; exact ⟨_, rfl, HS.out.below (Below.refl _ _).drew⟩⟩
          · go_wp2
            go_region
            go_wp2
            go_ret3
            exact ⟨(Below.refl _ _).drew, by rw [HUN.out]; exact ⟨_, rfl, HS.out.below (Below.refl _ _).drew⟩⟩
        · have HM := hid (HA.out.more (by omega) (by omega) hcb)
          simp only [Nat.reducePow] at HM
          have hsum : (acc : Int) + (c : Int) % 128 = ((acc + 1 * (c % 128) : Nat) : Int) := by omega
          have hNb : acc + 1 * (c % 128) < 128 := by omega
          generalize acc + 1 * (c % 128) = N at hsum HM hNb
          clear HA hacc
          go_wp2
          exact ⟨⟨1, N, by omega, by omega, rfl, rfl, rfl, HM.out, by trivial⟩, by simp [intOf]⟩
      · have hlt' : ¬ (0 : Int) < (bs.length : Int) := by omega
        have e : bs.drop 0 = [] := List.drop_eq_nil_of_le (by omega)
        rw [e] at HA
        have HU := hid (rdU_none (HA.out.short (by omega)))
        clear HA e
        go_wp2
        go_ret3
        exact ⟨Below.refl _ _, by rw [HU.out]; rfl⟩
    · by_cases hlt : 1 < bs.length
      · have hlt' : (1 : Int) < (bs.length : Int) := by omega
        have hd := drop_cons hlt
        have hcb : bs.getD 1 0 < 256 := H8.out _ (by rw [List.getD_eq_getElem?_getD, List.getElem?_eq_getElem hlt]; exact List.getElem_mem hlt)
        have hat : ∃ b o, po = some ⟨b, o, none⟩ ∧ w.cell? ⟨b, o + 1, none⟩ = some (.int .u8 ((bs.getD 1 0 : Nat) : Int)) := by
          rcases H.out with e | ⟨b, o, e, hcell⟩
          · subst e; simp at hlt
          · exact ⟨b, o, e, hcell 1 hlt⟩
        obtain ⟨b, o, rfl, hcell⟩ := hat
        skip
        rw [hd] at HA
        generalize bs.getD 1 0 = c at hcell HA hcb hd
        have HD := hid hd
        clear hd
        have hacc : acc < 128 := HA.out.1
        simp only [Nat.reducePow]
        by_cases hc : c < 128
        · have hc' : (c : Int) % 128 = (c : Int) := by omega
          have HU := hid (HA.out.last (by omega) hc)
          simp only [Nat.reducePow] at HU
          have hsum : (acc : Int) + (c : Int) * 128 = ((acc + 128 * c : Nat) : Int) := by omega
          have hNb : acc + 128 * c < 16384 := by omega
          generalize acc + 128 * c = N at hsum HU hNb
          clear HA hacc
          by_cases hz : (c : Int) = 0
          · have HUN : Hid (rdU bs = none) := hid (rdU_none (by rw [HU.out]; simp; omega))
            clear HU
            have hc0' : c = 0 := by omega
            subst hc0'
            have hsum0 : (acc : Int) = (N : Int) := by omega
            go_wp2
            go_ret3
            exact ⟨Below.refl _ _, by rw [HUN.out]; rfl⟩
          · have HU2 : Hid (rdG 6 bs = some (N, bs.drop 2)) := hid (by rw [HU.out, if_neg (by omega)])
            by_cases hbig : 1099511627776 < (N : Int)
            · exfalso; omega
            · have HUN : Hid (rdU bs = some (N, bs.drop 2)) := hid (by rw [rdU_at HU2.out, if_pos (by omega)])
              obtain ⟨p2, hsl0, hS⟩ := H.out.from8 c0 2 (by omega) hc0
              have hsl : ∀ w : World, (Instr.slice 22 (.slice (some ⟨b, o, none⟩) bs.length c0) (some (.int .i64 2)) none none).run Try.prog w = .ok (.slice p2 (bs.length - 2) (c0 - 2)) w := hsl0
              clear hsl0
              have HS := hid hS
              clear hS HU HU2
              go_wp2
              go_region
              go_wp2
              go_ret3
              exact ⟨(Below.refl _ _).drew, by rw [HUN.out]; exact ⟨_, rfl, HS.out.below (Below.refl _ _).drew⟩⟩
        · have HM := hid (HA.out.more (by omega) (by omega) hcb)
          simp only [Nat.reducePow] at HM
          have hsum : (acc : Int) + (c : Int) % 128 * 128 = ((acc + 128 * (c % 128) : Nat) : Int) := by omega
          have hNb : acc + 128 * (c % 128) < 16384 := by omega
          generalize acc + 128 * (c % 128) = N at hsum HM hNb
          clear HA hacc
          go_wp2
          exact ⟨⟨2, N, by omega, by omega, rfl, rfl, rfl, HM.out, by trivial⟩, by simp [intOf]⟩
      · have hlt' : ¬ (1 : Int) < (bs.length : Int) := by omega
        have e : bs.drop 1 = [] := List.drop_eq_nil_of_le (by omega)
        rw [e] at HA
        have HU := hid (rdU_none (HA.out.short (by omega)))
        clear HA e
        go_wp2
        go_ret3
        exact ⟨Below.refl _ _, by rw [HU.out]; rfl⟩
    · by_cases hlt : 2 < bs.length
      · have hlt' : (2 : Int) < (bs.length : Int) := by omega
        have hd := drop_cons hlt
        have hcb : bs.getD 2 0 < 256 := H8.out _ (by rw [List.getD_eq_getElem?_getD, List.getElem?_eq_getElem hlt]; exact List.getElem_mem hlt)
        have hat : ∃ b o, po = some ⟨b, o, none⟩ ∧ w.cell? ⟨b, o + 2, none⟩ = some (.int .u8 ((bs.getD 2 0 : Nat) : Int)) := by
          rcases H.out with e | ⟨b, o, e, hcell⟩
          · subst e; simp at hlt
          · exact ⟨b, o, e, hcell 2 hlt⟩
        obtain ⟨b, o, rfl, hcell⟩ := hat
        skip
        rw [hd] at HA
        generalize bs.getD 2 0 = c at hcell HA hcb hd
        have HD := hid hd
        clear hd
        have hacc : acc < 16384 := HA.out.1
        simp only [Nat.reducePow]
        by_cases hc : c < 128
        · have hc' : (c : Int) % 128 = (c : Int) := by omega
          have HU := hid (HA.out.last (by omega) hc)
          simp only [Nat.reducePow] at HU
          have hsum : (acc : Int) + (c : Int) * 16384 = ((acc + 16384 * c : Nat) : Int) := by omega
          have hNb : acc + 16384 * c < 2097152 := by omega
          generalize acc + 16384 * c = N at hsum HU hNb
          clear HA hacc
          by_cases hz : (c : Int) = 0
          · have HUN : Hid (rdU bs = none) := hid (rdU_none (by rw [HU.out]; simp; omega))
            clear HU
            have hc0' : c = 0 := by omega
            subst hc0'
            have hsum0 : (acc : Int) = (N : Int) := by omega
            go_wp2
            go_ret3
            exact ⟨Below.refl _ _, by rw [HUN.out]; rfl⟩
          · have HU2 : Hid (rdG 6 bs = some (N, bs.drop 3)) := hid (by rw [HU.out, if_neg (by omega)])
            by_cases hbig : 1099511627776 < (N : Int)
            · exfalso; omega
            · have HUN : Hid (rdU bs = some (N, bs.drop 3)) := hid (by rw [rdU_at HU2.out, if_pos (by omega)])
              obtain ⟨p2, hsl0, hS⟩ := H.out.from8 c0 3 (by omega) hc0
              have hsl : ∀ w : World, (Instr.slice 22 (.slice (some ⟨b, o, none⟩) bs.length c0) (some (.int .i64 3)) none none).run Try.prog w = .ok (.slice p2 (bs.length - 3) (c0 - 3)) w := hsl0
              clear hsl0
              have HS := hid hS
              clear hS HU HU2
              go_wp2
              go_region
              go_wp2
              go_ret3
              exact ⟨(Below.refl _ _).drew, by rw [HUN.out]; exact ⟨_, rfl, HS.out.below (Below.refl _ _).drew⟩⟩
        · have HM := hid (HA.out.more (by omega) (by omega) hcb)
          simp only [Nat.reducePow] at HM
          have hsum : (acc : Int) + (c : Int) % 128 * 16384 = ((acc + 16384 * (c % 128) : Nat) : Int) := by omega
          have hNb : acc + 16384 * (c % 128) < 2097152 := by omega
          generalize acc + 16384 * (c % 128) = N at hsum HM hNb
          clear HA hacc
          go_wp2
          exact ⟨⟨3, N, by omega, by omega, rfl, rfl, rfl, HM.out, by trivial⟩, by simp [intOf]⟩
      · have hlt' : ¬ (2 : Int) < (bs.length : Int) := by omega
        have e : bs.drop 2 = [] := List.drop_eq_nil_of_le (by omega)
        rw [e] at HA
        have HU := hid (rdU_none (HA.out.short (by omega)))
        clear HA e
        go_wp2
        go_ret3
        exact ⟨Below.refl _ _, by rw [HU.out]; rfl⟩
    · by_cases hlt : 3 < bs.length
      · have hlt' : (3 : Int) < (bs.length : Int) := by omega
        have hd := drop_cons hlt
        have hcb : bs.getD 3 0 < 256 := H8.out _ (by rw [List.getD_eq_getElem?_getD, List.getElem?_eq_getElem hlt]; exact List.getElem_mem hlt)
        have hat : ∃ b o, po = some ⟨b, o, none⟩ ∧ w.cell? ⟨b, o + 3, none⟩ = some (.int .u8 ((bs.getD 3 0 : Nat) : Int)) := by
          rcases H.out with e | ⟨b, o, e, hcell⟩
          · subst e; simp at hlt
          · exact ⟨b, o, e, hcell 3 hlt⟩
        obtain ⟨b, o, rfl, hcell⟩ := hat
        skip
        rw [hd] at HA
        generalize bs.getD 3 0 = c at hcell HA hcb hd
        have HD := hid hd
        clear hd
        have hacc : acc < 2097152 := HA.out.1
        simp only [Nat.reducePow]
        by_cases hc : c < 128
        · have hc' : (c : Int) % 128 = (c : Int) := by omega
          have HU := hid (HA.out.last (by omega) hc)
          simp only [Nat.reducePow] at HU
          have hsum : (acc : Int) + (c : Int) * 2097152 = ((acc + 2097152 * c : Nat) : Int) := by omega
          have hNb : acc + 2097152 * c < 268435456 := by omega
          generalize acc + 2097152 * c = N at hsum HU hNb
          clear HA hacc
          by_cases hz : (c : Int) = 0
          · have HUN : Hid (rdU bs = none) := hid (rdU_none (by rw [HU.out]; simp; omega))
            clear HU
            have hc0' : c = 0 := by omega
            subst hc0'
            have hsum0 : (acc : Int) = (N : Int) := by omega
            go_wp2
            go_ret3
            exact ⟨Below.refl _ _, by rw [HUN.out]; rfl⟩
          · have HU2 : Hid (rdG 6 bs = some (N, bs.drop 4)) := hid (by rw [HU.out, if_neg (by omega)])
            by_cases hbig : 1099511627776 < (N : Int)
            · exfalso; omega
            · have HUN : Hid (rdU bs = some (N, bs.drop 4)) := hid (by rw [rdU_at HU2.out, if_pos (by omega)])
              obtain ⟨p2, hsl0, hS⟩ := H.out.from8 c0 4 (by omega) hc0
              have hsl : ∀ w : World, (Instr.slice 22 (.slice (some ⟨b, o, none⟩) bs.length c0) (some (.int .i64 4)) none none).run Try.prog w = .ok (.slice p2 (bs.length - 4) (c0 - 4)) w := hsl0
              clear hsl0
              have HS := hid hS
              clear hS HU HU2
              go_wp2
              go_region
              go_wp2
              go_ret3
              exact ⟨(Below.refl _ _).drew, by rw [HUN.out]; exact ⟨_, rfl, HS.out.below (Below.refl _ _).drew⟩⟩
        · have HM := hid (HA.out.more (by omega) (by omega) hcb)
          simp only [Nat.reducePow] at HM
          have hsum : (acc : Int) + (c : Int) % 128 * 2097152 = ((acc + 2097152 * (c % 128) : Nat) : Int) := by omega
          have hNb : acc + 2097152 * (c % 128) < 268435456 := by omega
          generalize acc + 2097152 * (c % 128) = N at hsum HM hNb
          clear HA hacc
          go_wp2
          exact ⟨⟨4, N, by omega, by omega, rfl, rfl, rfl, HM.out, by trivial⟩, by simp [intOf]⟩
      · have hlt' : ¬ (3 : Int) < (bs.length : Int) := by omega
        have e : bs.drop 3 = [] := List.drop_eq_nil_of_le (by omega)
        rw [e] at HA
        have HU := hid (rdU_none (HA.out.short (by omega)))
        clear HA e
        go_wp2
        go_ret3
        exact ⟨Below.refl _ _, by rw [HU.out]; rfl⟩
    · by_cases hlt : 4 < bs.length
      · have hlt' : (4 : Int) < (bs.length : Int) := by omega
        have hd := drop_cons hlt
        have hcb : bs.getD 4 0 < 256 := H8.out _ (by rw [List.getD_eq_getElem?_getD, List.getElem?_eq_getElem hlt]; exact List.getElem_mem hlt)
        have hat : ∃ b o, po = some ⟨b, o, none⟩ ∧ w.cell? ⟨b, o + 4, none⟩ = some (.int .u8 ((bs.getD 4 0 : Nat) : Int)) := by
          rcases H.out with e | ⟨b, o, e, hcell⟩
          · subst e; simp at hlt
          · exact ⟨b, o, e, hcell 4 hlt⟩
        obtain ⟨b, o, rfl, hcell⟩ := hat
        skip
        rw [hd] at HA
        generalize bs.getD 4 0 = c at hcell HA hcb hd
        have HD := hid hd
        clear hd
        have hacc : acc < 268435456 := HA.out.1
        simp only [Nat.reducePow]
        by_cases hc : c < 128
        · have hc' : (c : Int) % 128 = (c : Int) := by omega
          have HU := hid (HA.out.last (by omega) hc)
          simp only [Nat.reducePow] at HU
          have hsum : (acc : Int) + (c : Int) * 268435456 = ((acc + 268435456 * c : Nat) : Int) := by omega
          have hNb : acc + 268435456 * c < 34359738368 := by omega
          generalize acc + 268435456 * c = N at hsum HU hNb
          clear HA hacc
          by_cases hz : (c : Int) = 0
          · have HUN : Hid (rdU bs = none) := hid (rdU_none (by rw [HU.out]; simp; omega))
            clear HU
            have hc0' : c = 0 := by omega
            subst hc0'
            have hsum0 : (acc : Int) = (N : Int) := by omega
            go_wp2
            go_ret3
            exact ⟨Below.refl _ _, by rw [HUN.out]; rfl⟩
          · have HU2 : Hid (rdG 6 bs = some (N, bs.drop 5)) := hid (by rw [HU.out, if_neg (by omega)])
            by_cases hbig : 1099511627776 < (N : Int)
            · exfalso; omega
            · have HUN : Hid (rdU bs = some (N, bs.drop 5)) := hid (by rw [rdU_at HU2.out, if_pos (by omega)])
              obtain ⟨p2, hsl0, hS⟩ := H.out.from8 c0 5 (by omega) hc0
              have hsl : ∀ w : World, (Instr.slice 22 (.slice (some ⟨b, o, none⟩) bs.length c0) (some (.int .i64 5)) none none).run Try.prog w = .ok (.slice p2 (bs.length - 5) (c0 - 5)) w := hsl0
              clear hsl0
              have HS := hid hS
              clear hS HU HU2
              go_wp2
              go_region
              go_wp2
              go_ret3
              exact ⟨(Below.refl _ _).drew, by rw [HUN.out]; exact ⟨_, rfl, HS.out.below (Below.refl _ _).drew⟩⟩
        · have HM := hid (HA.out.more (by omega) (by omega) hcb)
          simp only [Nat.reducePow] at HM
          have hsum : (acc : Int) + (c : Int) % 128 * 268435456 = ((acc + 268435456 * (c % 128) : Nat) : Int) := by omega
          have hNb : acc + 268435456 * (c % 128) < 34359738368 := by omega
          generalize acc + 268435456 * (c % 128) = N at hsum HM hNb
          clear HA hacc
          go_wp2
          exact ⟨⟨5, N, by omega, by omega, rfl, rfl, rfl, HM.out, by trivial⟩, by simp [intOf]⟩
      · have hlt' : ¬ (4 : Int) < (bs.length : Int) := by omega
        have e : bs.drop 4 = [] := List.drop_eq_nil_of_le (by omega)
        rw [e] at HA
        have HU := hid (rdU_none (HA.out.short (by omega)))
        clear HA e
        go_wp2
        go_ret3
        exact ⟨Below.refl _ _, by rw [HU.out]; rfl⟩
    · by_cases hlt : 5 < bs.length
      · have hlt' : (5 : Int) < (bs.length : Int) := by omega
        have hd := drop_cons hlt
        have hcb : bs.getD 5 0 < 256 := H8.out _ (by rw [List.getD_eq_getElem?_getD, List.getElem?_eq_getElem hlt]; exact List.getElem_mem hlt)
        have hat : ∃ b o, po = some ⟨b, o, none⟩ ∧ w.cell? ⟨b, o + 5, none⟩ = some (.int .u8 ((bs.getD 5 0 : Nat) : Int)) := by
          rcases H.out with e | ⟨b, o, e, hcell⟩
          · subst e; simp at hlt
          · exact ⟨b, o, e, hcell 5 hlt⟩
        obtain ⟨b, o, rfl, hcell⟩ := hat
        skip
        rw [hd] at HA
        generalize bs.getD 5 0 = c at hcell HA hcb hd
        have HD := hid hd
        clear hd
        have hacc : acc < 34359738368 := HA.out.1
        simp only [Nat.reducePow]
        by_cases hc : c < 128
        · have hc' : (c : Int) % 128 = (c : Int) := by omega
          have HU := hid (HA.out.last (by omega) hc)
          simp only [Nat.reducePow] at HU
          have hsum : (acc : Int) + (c : Int) * 34359738368 = ((acc + 34359738368 * c : Nat) : Int) := by omega
          have hNb : acc + 34359738368 * c < 4398046511104 := by omega
          generalize acc + 34359738368 * c = N at hsum HU hNb
          clear HA hacc
          by_cases hz : (c : Int) = 0
          · have HUN : Hid (rdU bs = none) := hid (rdU_none (by rw [HU.out]; simp; omega))
            clear HU
            have hc0' : c = 0 := by omega
            subst hc0'
            have hsum0 : (acc : Int) = (N : Int) := by omega
            go_wp2
            go_ret3
            exact ⟨Below.refl _ _, by rw [HUN.out]; rfl⟩
          · have HU2 : Hid (rdG 6 bs = some (N, bs.drop 6)) := hid (by rw [HU.out, if_neg (by omega)])
            by_cases hbig : 1099511627776 < (N : Int)
            · have HUN : Hid (rdU bs = none) := hid (by rw [rdU_at HU2.out, if_neg (by omega)])
              clear HU HU2
              go_wp2
              go_ret3
              exact ⟨Below.refl _ _, by rw [HUN.out]; rfl⟩
            · have HUN : Hid (rdU bs = some (N, bs.drop 6)) := hid (by rw [rdU_at HU2.out, if_pos (by omega)])
              obtain ⟨p2, hsl0, hS⟩ := H.out.from8 c0 6 (by omega) hc0
              have hsl : ∀ w : World, (Instr.slice 22 (.slice (some ⟨b, o, none⟩) bs.length c0) (some (.int .i64 6)) none none).run Try.prog w = .ok (.slice p2 (bs.length - 6) (c0 - 6)) w := hsl0
              clear hsl0
              have HS := hid hS
              clear hS HU HU2
              go_wp2
              go_region
              go_wp2
              go_ret3
              exact ⟨(Below.refl _ _).drew, by rw [HUN.out]; exact ⟨_, rfl, HS.out.below (Below.refl _ _).drew⟩⟩
        · have HM := hid (HA.out.more (by omega) (by omega) hcb)
          simp only [Nat.reducePow] at HM
          have hsum : (acc : Int) + (c : Int) % 128 * 34359738368 = ((acc + 34359738368 * (c % 128) : Nat) : Int) := by omega
          have hNb : acc + 34359738368 * (c % 128) < 4398046511104 := by omega
          generalize acc + 34359738368 * (c % 128) = N at hsum HM hNb
          clear HA hacc
          go_wp2
          exact ⟨⟨6, N, by omega, by omega, rfl, rfl, rfl, HM.out, by trivial⟩, by simp [intOf]⟩
      · have hlt' : ¬ (5 : Int) < (bs.length : Int) := by omega
        have e : bs.drop 5 = [] := List.drop_eq_nil_of_le (by omega)
        rw [e] at HA
        have HU := hid (rdU_none (HA.out.short (by omega)))
        clear HA e
        go_wp2
        go_ret3
        exact ⟨Below.refl _ _, by rw [HU.out]; rfl⟩
    · have HU := hid (rdU_none HA.out.long)
      clear HA
      by_cases hlt : (6 : Int) < (bs.length : Int) <;>
      · go_wp2
        go_ret3
        exact ⟨Below.refl _ _, by rw [HU.out]; rfl⟩
/- behind rReadUint_any -/
end Go.Proofs.Ytepkpkbgmchioaa
