/- Texts laid into one: the remark ahead of each part says what is proved there. -/
import Derived.Test.YtcbmimjjpkkoeaaGreatDoorQbc
/- The document's ReadUint, and where the rest lies. -/
namespace Go.Proofs.YtcbmimjjpkkoeaaGreatDoor
open Go Go.RowKit

/-- Bytes in the block that p leads to. -/
def SLn (p : Option Addr) (w : World) (v : Value) (r : List Nat) : Prop := SL w v r ∧ ∀ a n c, v = .slice (some a) n c → ∃ a', p = some a' ∧ a.block = a'.block
theorem SLn.below {p : Option Addr} {w w' : World} {v : Value} {r : List Nat} (h : SLn p w v r) (hb : Below w.heap.size w w') : SLn p w' v r := ⟨h.1.below hb, h.2⟩
def RuN (p : Option Addr) (w : World) (q : Option (Nat × List Nat)) (e : Ending) (w' : World) : Prop := Below w.heap.size w w' ∧ match q with
  | none => e = .returned (.tuple #[i64 0, .slice none 0 0, .bool false])
  | some (n, r) => ∃ v, e = .returned (.tuple #[i64 n, v, .bool true]) ∧ SLn p w' v r
theorem BL.from8n {w : World} {po : Option Addr} {bs : List Nat} (h : BL w po bs) (c l : Nat) (hl : l ≤ bs.length) (hc : bs.length ≤ c) : ∃ p2 : Option Addr, (∀ w : World, (Instr.slice 25 (.slice po bs.length c) (some (.int .i64 (l : Int))) none none).run Tryz.prog w = .ok (.slice p2 (bs.length - l) (c - l)) w) ∧ SLn po w (.slice p2 (bs.length - l) (c - l)) (bs.drop l) := by
  obtain ⟨p2, h1, h2, _, h4⟩ := run_from8 po bs.length c l hl hc
  refine ⟨p2, h1, ⟨p2, c - l, by rw [List.length_drop], ?_, by rw [List.length_drop]; omega⟩, fun a n c e => by cases e; exact h4 a rfl⟩
  rcases Nat.lt_or_ge l bs.length with hlt | hge
  · rcases h with e | ⟨b, o, hpo, hc⟩
    · subst e; simp at hlt
    · rw [h2 b o hpo hlt]
      exact BL.drop (Or.inr ⟨b, o, rfl, hc⟩) l
  · exact Or.inl (List.drop_eq_nil_of_le hge)
set_option maxRecDepth 100000 in
set_option maxHeartbeats 4000000 in
theorem rReadUint_near (po : Option Addr) (c0 : Nat) (bs : List Nat) (w : World) (h : BL w po bs) (hc0 : bs.length ≤ c0) (hn : bs.length ≤ 100000) (h8 : ∀ x ∈ bs, x < 256) :
    Calls Tryz.prog 74 #[.slice po bs.length c0] w (RuN po w (rdU bs)) := by
  have H := hid h
  have H8 := hid h8
  clear h h8
  go_enter Tryz.func74, Tryz.ntmps74
  go_wp2
  go_loopw [5, 6, 7] (fun nv uv iv wr => ∃ (i acc : Nat), i ≤ 6 ∧ i ≤ bs.length ∧ nv = i64 acc ∧ uv = i64 ((128 ^ i : Nat) : Int) ∧ iv = i64 i ∧ Acc bs i acc (bs.drop i) ∧ w = wr) (fun _ _ iv _ => (7 - intOf iv).toNat)
  case atStart => exact ⟨0, 0, by omega, by omega, rfl, rfl, rfl, by simpa using Acc.start bs, rfl⟩
  case round =>
    obtain ⟨i, acc, hi, hib, rfl, rfl, rfl, ha, hw⟩ := hrel
    subst hw
    have HA := hid ha
    clear ha
    have hi6 : i = 0 ∨ i = 1 ∨ i = 2 ∨ i = 3 ∨ i = 4 ∨ i = 5 ∨ i = 6 := by omega
    rcases hi6 with rfl | rfl | rfl | rfl | rfl | rfl | rfl
    · by_cases hlt : 0 < bs.length
      · have hlt' : (0 : Int) < (bs.length : Int) := by omega
        have hd := drop_cons hlt
        have hcb : bs.getD 0 0 < 256 := H8.out _ (by rw [List.getD_eq_getElem?_getD, List.getElem?_eq_getElem hlt]; exact List.getElem_mem hlt)
        have hat : ∃ b o, po = some ⟨b, o, none⟩ ∧ w.cell? ⟨b, o + 0, none⟩ = some (.int .u8 ((bs.getD 0 0 : Nat) : Int)) := by
          rcases H.out with e | ⟨b, o, e, hcell⟩
          · subst e; simp at hlt
          · exact ⟨b, o, e, hcell 0 hlt⟩
        obtain ⟨b, o, rfl, hcell⟩ := hat
        simp only [Nat.add_zero] at hcell
        rw [hd] at HA
        generalize bs.getD 0 0 = c at hcell HA hcb hd
        have HD := hid hd
        clear hd
        have hacc : acc < 1 := HA.out.1
        simp only [Nat.reducePow]
        by_cases hc : c < 128
        · have hc' : (c : Int) % 128 = (c : Int) := by omega
          have HU := hid (HA.out.last (by omega) hc)
          simp only [Nat.reducePow] at HU
          obtain rfl : acc = 0 := by omega
          have HU2 : Hid (rdG 6 bs = some (c, bs.drop 1)) := hid (by rw [HU.out]; simp)
          have HUN : Hid (rdU bs = some (c, bs.drop 1)) := hid (by rw [rdU_at HU2.out, if_pos (by omega)])
          obtain ⟨p2, hsl0, hS⟩ := H.out.from8n c0 1 (by omega) hc0
          have hsl : ∀ w : World, (Instr.slice 25 (.slice (some ⟨b, o, none⟩) bs.length c0) (some (.int .i64 1)) none none).run Tryz.prog w = .ok (.slice p2 (bs.length - 1) (c0 - 1)) w := hsl0
          have HS := hid hS
          clear hS HU HU2 hsl0 HA hacc
          by_cases hz : c = 0
          · subst hz
            go_wp2
            go_region
            go_wp2
            go_ret3
            exact ⟨(Below.refl _ _).drew, by rw [HUN.out]; exact ⟨_, rfl, HS.out.below (Below.refl _ _).drew⟩⟩
          · go_wp2
            go_region
            go_wp2
            go_ret3
            exact ⟨(Below.refl _ _).drew, by rw [HUN.out]; exact ⟨_, rfl, HS.out.below (Below.refl _ _).drew⟩⟩
        · have HM := hid (HA.out.more (by omega) (by omega) hcb)
          simp only [Nat.reducePow] at HM
          have hsum : (acc : Int) + (c : Int) % 128 = ((acc + 1 * (c % 128) : Nat) : Int) := by omega
          have hNb : acc + 1 * (c % 128) < 128 := by omega
          generalize acc + 1 * (c % 128) = N at hsum HM hNb
          clear HA hacc
          go_wp2
          exact ⟨⟨1, N, by omega, by omega, rfl, rfl, rfl, HM.out, by trivial⟩, by simp [intOf]⟩
      · have hlt' : ¬ (0 : Int) < (bs.length : Int) := by omega
        have e : bs.drop 0 = [] := List.drop_eq_nil_of_le (by omega)
        rw [e] at HA
        have HU := hid (rdU_none (HA.out.short (by omega)))
        clear HA e
        go_wp2
        go_ret3
        exact ⟨Below.refl _ _, by rw [HU.out]; rfl⟩
    · by_cases hlt : 1 < bs.length
      · have hlt' : (1 : Int) < (bs.length : Int) := by omega
        have hd := drop_cons hlt
        have hcb : bs.getD 1 0 < 256 := H8.out _ (by rw [List.getD_eq_getElem?_getD, List.getElem?_eq_getElem hlt]; exact List.getElem_mem hlt)
        have hat : ∃ b o, po = some ⟨b, o, none⟩ ∧ w.cell? ⟨b, o + 1, none⟩ = some (.int .u8 ((bs.getD 1 0 : Nat) : Int)) := by
          rcases H.out with e | ⟨b, o, e, hcell⟩
          · subst e; simp at hlt
          · exact ⟨b, o, e, hcell 1 hlt⟩
        obtain ⟨b, o, rfl, hcell⟩ := hat
        skip
        rw [hd] at HA
        generalize bs.getD 1 0 = c at hcell HA hcb hd
        have HD := hid hd
        clear hd
        have hacc : acc < 128 := HA.out.1
        simp only [Nat.reducePow]
        by_cases hc : c < 128
        · have hc' : (c : Int) % 128 = (c : Int) := by omega
          have HU := hid (HA.out.last (by omega) hc)
          simp only [Nat.reducePow] at HU
          have hsum : (acc : Int) + (c : Int) * 128 = ((acc + 128 * c : Nat) : Int) := by omega
          have hNb : acc + 128 * c < 16384 := by omega
          generalize acc + 128 * c = N at hsum HU hNb
          clear HA hacc
          by_cases hz : (c : Int) = 0
          · have HUN : Hid (rdU bs = none) := hid (rdU_none (by rw [HU.out]; simp; omega))
            clear HU
            have hc0' : c = 0 := by omega
            subst hc0'
            have hsum0 : (acc : Int) = (N : Int) := by omega
            go_wp2
            go_ret3
            exact ⟨Below.refl _ _, by rw [HUN.out]; rfl⟩
          · have HU2 : Hid (rdG 6 bs = some (N, bs.drop 2)) := hid (by rw [HU.out, if_neg (by omega)])
            by_cases hbig : 1099511627776 < (N : Int)
            · exfalso; omega
            · have HUN : Hid (rdU bs = some (N, bs.drop 2)) := hid (by rw [rdU_at HU2.out, if_pos (by omega)])
              obtain ⟨p2, hsl0, hS⟩ := H.out.from8n c0 2 (by omega) hc0
              have hsl : ∀ w : World, (Instr.slice 25 (.slice (some ⟨b, o, none⟩) bs.length c0) (some (.int .i64 2)) none none).run Tryz.prog w = .ok (.slice p2 (bs.length - 2) (c0 - 2)) w := hsl0
              clear hsl0
              have HS := hid hS
              clear hS HU HU2
              go_wp2
              go_region
              go_wp2
              go_ret3
              exact ⟨(Below.refl _ _).drew, by rw [HUN.out]; exact ⟨_, rfl, HS.out.below (Below.refl _ _).drew⟩⟩
        · have HM := hid (HA.out.more (by omega) (by omega) hcb)
          simp only [Nat.reducePow] at HM
          have hsum : (acc : Int) + (c : Int) % 128 * 128 = ((acc + 128 * (c % 128) : Nat) : Int) := by omega
          have hNb : acc + 128 * (c % 128) < 16384 := by omega
          generalize acc + 128 * (c % 128) = N at hsum HM hNb
          clear HA hacc
          go_wp2
          exact ⟨⟨2, N, by omega, by omega, rfl, rfl, rfl, HM.out, by trivial⟩, by simp [intOf]⟩
      · have hlt' : ¬ (1 : Int) < (bs.length : Int) := by omega
        have e : bs.drop 1 = [] := List.drop_eq_nil_of_le (by omega)
        rw [e] at HA
        have HU := hid (rdU_none (HA.out.short (by omega)))
        clear HA e
        go_wp2
        go_ret3
        exact ⟨Below.refl _ _, by rw [HU.out]; rfl⟩
    · by_cases hlt : 2 < bs.length
      · have hlt' : (2 : Int) < (bs.length : Int) := by omega
        have hd := drop_cons hlt
        have hcb : bs.getD 2 0 < 256 := H8.out _ (by rw [List.getD_eq_getElem?_getD, List.getElem?_eq_getElem hlt]; exact List.getElem_mem hlt)
        have hat : ∃ b o, po = some ⟨b, o, none⟩ ∧ w.cell? ⟨b, o + 2, none⟩ = some (.int .u8 ((bs.getD 2 0 : Nat) : Int)) := by
          rcases H.out with e | ⟨b, o, e, hcell⟩
          · subst e; simp at hlt
          · exact ⟨b, o, e, hcell 2 hlt⟩
        obtain ⟨b, o, rfl, hcell⟩ := hat
        skip
        rw [hd] at HA
        generalize bs.getD 2 0 = c at hcell HA hcb hd
        have HD := hid hd
        clear hd
        have hacc : acc < 16384 := HA.out.1
        simp only [Nat.reducePow]
        by_cases hc : c < 128
        · have hc' : (c : Int) % 128 = (c : Int) := by omega
          have HU := hid (HA.out.last (by omega) hc)
          simp only [Nat.reducePow] at HU
          have hsum : (acc : Int) + (c : Int) * 16384 = ((acc + 16384 * c : Nat) : Int) := by omega
          have hNb : acc + 16384 * c < 2097152 := by omega
          generalize acc + 16384 * c = N at hsum HU hNb
          clear HA hacc
          by_cases hz : (c : Int) = 0
          · have HUN : Hid (rdU bs = none) := hid (rdU_none (by rw [HU.out]; simp; omega))
            clear HU
            have hc0' : c = 0 := by omega
            subst hc0'
            have hsum0 : (acc : Int) = (N : Int) := by omega
            go_wp2
            go_ret3
            exact ⟨Below.refl _ _, by rw [HUN.out]; rfl⟩
          · have HU2 : Hid (rdG 6 bs = some (N, bs.drop 3)) := hid (by rw [HU.out, if_neg (by omega)])
            by_cases hbig : 1099511627776 < (N : Int)
            · exfalso; omega
            · have HUN : Hid (rdU bs = some (N, bs.drop 3)) := hid (by rw [rdU_at HU2.out, if_pos (by omega)])
              obtain ⟨p2, hsl0, hS⟩ := H.out.from8n c0 3 (by omega) hc0
              have hsl : ∀ w : World, (Instr.slice 25 (.slice (some ⟨b, o, none⟩) bs.length c0) (some (.int .i64 3)) none none).run Tryz.prog w = .ok (.slice p2 (bs.length - 3) (c0 - 3)) w := hsl0
              clear hsl0
              have HS := hid hS
              clear hS HU HU2
              go_wp2
              go_region
              go_wp2
              go_ret3
              exact ⟨(Below.refl _ _).drew, by rw [HUN.out]; exact ⟨_, rfl, HS.out.below (Below.refl _ _).drew⟩⟩
        · have HM := hid (HA.out.more (by omega) (by omega) hcb)
          simp only [Nat.reducePow] at HM
          have hsum : (acc : Int) + (c : Int) % 128 * 16384 = ((acc + 16384 * (c % 128) : Nat) : Int) := by omega
          have hNb : acc + 16384 * (c % 128) < 2097152 := by omega
          generalize acc + 16384 * (c % 128) = N at hsum HM hNb
          clear HA hacc
          go_wp2
          exact ⟨⟨3, N, by omega, by omega, rfl, rfl, rfl, HM.out, by trivial⟩, by simp [intOf]⟩
      · have hlt' : ¬ (2 : Int) < (bs.length : Int) := by omega
        have e : bs.drop 2 = [] := List.drop_eq_nil_of_le (by omega)
        rw [e] at HA
        have HU := hid (rdU_none (HA.out.short (by omega)))
        clear HA e
        go_wp2
        go_ret3
        exact ⟨Below.refl _ _, by rw [HU.out]; rfl⟩
    · by_cases hlt : 3 < bs.length
      · have hlt' : (3 : Int) < (bs.length : Int) := by omega
        have hd := drop_cons hlt
        have hcb : bs.getD 3 0 < 256 := H8.out _ (by rw [List.getD_eq_getElem?_getD, List.getElem?_eq_getElem hlt]; exact List.getElem_mem hlt)
        have hat : ∃ b o, po = some ⟨b, o, none⟩ ∧ w.cell? ⟨b, o + 3, none⟩ = some (.int .u8 ((bs.getD 3 0 : Nat) : Int)) := by
          rcases H.out with e | ⟨b, o, e, hcell⟩
          · subst e; simp at hlt
          · exact ⟨b, o, e, hcell 3 hlt⟩
        obtain ⟨b, o, rfl, hcell⟩ := hat
        skip
        rw [hd] at HA
        generalize bs.getD 3 0 = c at hcell HA hcb hd
        have HD := hid hd
        clear hd
        have hacc : acc < 2097152 := HA.out.1
        simp only [Nat.reducePow]
        by_cases hc : c < 128
        · have hc' : (c : Int) % 128 = (c : Int) := by omega
          have HU := hid (HA.out.last (by omega) hc)
          simp only [Nat.reducePow] at HU
          have hsum : (acc : Int) + (c : Int) * 2097152 = ((acc + 2097152 * c : Nat) : Int) := by omega
          have hNb : acc + 2097152 * c < 268435456 := by omega
          generalize acc + 2097152 * c = N at hsum HU hNb
          clear HA hacc
          by_cases hz : (c : Int) = 0
          · have HUN : Hid (rdU bs = none) := hid (rdU_none (by rw [HU.out]; simp; omega))
            clear HU
            have hc0' : c = 0 := by omega
            subst hc0'
            have hsum0 : (acc : Int) = (N : Int) := by omega
            go_wp2
            go_ret3
            exact ⟨Below.refl _ _, by rw [HUN.out]; rfl⟩
          · have HU2 : Hid (rdG 6 bs = some (N, bs.drop 4)) := hid (by rw [HU.out, if_neg (by omega)])
            by_cases hbig : 1099511627776 < (N : Int)
            · exfalso; omega
            · have HUN : Hid (rdU bs = some (N, bs.drop 4)) := hid (by rw [rdU_at HU2.out, if_pos (by omega)])
              obtain ⟨p2, hsl0, hS⟩ := H.out.from8n c0 4 (by omega) hc0
              have hsl : ∀ w : World, (Instr.slice 25 (.slice (some ⟨b, o, none⟩) bs.length c0) (some (.int .i64 4)) none none).run Tryz.prog w = .ok (.slice p2 (bs.length - 4) (c0 - 4)) w := hsl0
              clear hsl0
              have HS := hid hS
              clear hS HU HU2
              go_wp2
              go_region
              go_wp2
              go_ret3
              exact ⟨(Below.refl _ _).drew, by rw [HUN.out]; exact ⟨_, rfl, HS.out.below (Below.refl _ _).drew⟩⟩
        · have HM := hid (HA.out.more (by omega) (by omega) hcb)
          simp only [Nat.reducePow] at HM
          have hsum : (acc : Int) + (c : Int) % 128 * 2097152 = ((acc + 2097152 * (c % 128) : Nat) : Int) := by omega
          have hNb : acc + 2097152 * (c % 128) < 268435456 := by omega
          generalize acc + 2097152 * (c % 128) = N at hsum HM hNb
          clear HA hacc
          go_wp2
          exact ⟨⟨4, N, by omega, by omega, rfl, rfl, rfl, HM.out, by trivial⟩, by simp [intOf]⟩
      · have hlt' : ¬ (3 : Int) < (bs.length : Int) := by omega
        have e : bs.drop 3 = [] := List.drop_eq_nil_of_le (by omega)
        rw [e] at HA
        have HU := hid (rdU_none (HA.out.short (by omega)))
        clear HA e
        go_wp2
        go_ret3
        exact ⟨Below.refl _ _, by rw [HU.out]; rfl⟩
    · by_cases hlt : 4 < bs.length
      · have hlt' : (4 : Int) < (bs.length : Int) := by omega
        have hd := drop_cons hlt
        have hcb : bs.getD 4 0 < 256 := H8.out _ (by rw [List.getD_eq_getElem?_getD, List.getElem?_eq_getElem hlt]; exact List.getElem_mem hlt)
        have hat : ∃ b o, po = some ⟨b, o, none⟩ ∧ w.cell? ⟨b, o + 4, none⟩ = some (.int .u8 ((bs.getD 4 0 : Nat) : Int)) := by
          rcases H.out with e | ⟨b, o, e, hcell⟩
          · subst e; simp at hlt
          · exact ⟨b, o, e, hcell 4 hlt⟩
        obtain ⟨b, o, rfl, hcell⟩ := hat
        skip
        rw [hd] at HA
        generalize bs.getD 4 0 = c at hcell HA hcb hd
        have HD := hid hd
        clear hd
        have hacc : acc < 268435456 := HA.out.1
        simp only [Nat.reducePow]
        by_cases hc : c < 128
        · have hc' : (c : Int) % 128 = (c : Int) := by omega
          have HU := hid (HA.out.last (by omega) hc)
          simp only [Nat.reducePow] at HU
          have hsum : (acc : Int) + (c : Int) * 268435456 = ((acc + 268435456 * c : Nat) : Int) := by omega
          have hNb : acc + 268435456 * c < 34359738368 := by omega
          generalize acc + 268435456 * c = N at hsum HU hNb
          clear HA hacc
          by_cases hz : (c : Int) = 0
          · have HUN : Hid (rdU bs = none) := hid (rdU_none (by rw [HU.out]; simp; omega))
            clear HU
            have hc0' : c = 0 := by omega
            subst hc0'
            have hsum0 : (acc : Int) = (N : Int) := by omega
            go_wp2
            go_ret3
            exact ⟨Below.refl _ _, by rw [HUN.out]; rfl⟩
          · have HU2 : Hid (rdG 6 bs = some (N, bs.drop 5)) := hid (by rw [HU.out, if_neg (by omega)])
            by_cases hbig : 1099511627776 < (N : Int)
            · exfalso; omega
            · have HUN : Hid (rdU bs = some (N, bs.drop 5)) := hid (by rw [rdU_at HU2.out, if_pos (by omega)])
              obtain ⟨p2, hsl0, hS⟩ := H.out.from8n c0 5 (by omega) hc0
              have hsl : ∀ w : World, (Instr.slice 25 (.slice (some ⟨b, o, none⟩) bs.length c0) (some (.int .i64 5)) none none).run Tryz.prog w = .ok (.slice p2 (bs.length - 5) (c0 - 5)) w := hsl0
              clear hsl0
              have HS := hid hS
              clear hS HU HU2
              go_wp2
              go_region
              go_wp2
              go_ret3
              exact ⟨(Below.refl _ _).drew, by rw [HUN.out]; exact ⟨_, rfl, HS.out.below (Below.refl _ _).drew⟩⟩
        · have HM := hid (HA.out.more (by omega) (by omega) hcb)
          simp only [Nat.reducePow] at HM
          have hsum : (acc : Int) + (c : Int) % 128 * 268435456 = ((acc + 268435456 * (c % 128) : Nat) : Int) := by omega
          have hNb : acc + 268435456 * (c % 128) < 34359738368 := by omega
          generalize acc + 268435456 * (c % 128) = N at hsum HM hNb
          clear HA hacc
          go_wp2
          exact ⟨⟨5, N, by omega, by omega, rfl, rfl, rfl, HM.out, by trivial⟩, by simp [intOf]⟩
      · have hlt' : ¬ (4 : Int) < (bs.length : Int) := by omega
        have e : bs.drop 4 = [] := List.drop_eq_nil_of_le (by omega)
        rw [e] at HA
        have HU := hid (rdU_none (HA.out.short (by omega)))
        clear HA e
        go_wp2
        go_ret3
        exact ⟨Below.refl _ _, by rw [HU.out]; rfl⟩
    · by_cases hlt : 5 < bs.length
      · have hlt' : (5 : Int) < (bs.length : Int) := by omega
        have hd := drop_cons hlt
        have hcb : bs.getD 5 0 < 256 := H8.out _ (by rw [List.getD_eq_getElem?_getD, List.getElem?_eq_getElem hlt]; exact List.getElem_mem hlt)
        have hat : ∃ b o, po = some ⟨b, o, none⟩ ∧ w.cell? ⟨b, o + 5, none⟩ = some (.int .u8 ((bs.getD 5 0 : Nat) : Int)) := by
          rcases H.out with e | ⟨b, o, e, hcell⟩
          · subst e; simp at hlt
          · exact ⟨b, o, e, hcell 5 hlt⟩
        obtain ⟨b, o, rfl, hcell⟩ := hat
        skip
        rw [hd] at HA
        generalize bs.getD 5 0 = c at hcell HA hcb hd
        have HD := hid hd
        clear hd
        have hacc : acc < 34359738368 := HA.out.1
        simp only [Nat.reducePow]
        by_cases hc : c < 128
        · have hc' : (c : Int) % 128 = (c : Int) := by omega
          have HU := hid (HA.out.last (by omega) hc)
          simp only [Nat.reducePow] at HU
          have hsum : (acc : Int) + (c : Int) * 34359738368 = ((acc + 34359738368 * c : Nat) : Int) := by omega
          have hNb : acc + 34359738368 * c < 4398046511104 := by omega
          generalize acc + 34359738368 * c = N at hsum HU hNb
          clear HA hacc
          by_cases hz : (c : Int) = 0
          · have HUN : Hid (rdU bs = none) := hid (rdU_none (by rw [HU.out]; simp; omega))
            clear HU
            have hc0' : c = 0 := by omega
            subst hc0'
            have hsum0 : (acc : Int) = (N : Int) := by omega
            go_wp2
            go_ret3
            exact ⟨Below.refl _ _, by rw [HUN.out]; rfl⟩
          · have HU2 : Hid (rdG 6 bs = some (N, bs.drop 6)) := hid (by rw [HU.out, if_neg (by omega)])
            by_cases hbig : 1099511627776 < (N : Int)
            · have HUN : Hid (rdU bs = none) := hid (by rw [rdU_at HU2.out, if_neg (by omega)])
              clear HU HU2
              go_wp2
              go_ret3
              exact ⟨Below.refl _ _, by rw [HUN.out]; rfl⟩
            · have HUN : Hid (rdU bs = some (N, bs.drop 6)) := hid (by rw [rdU_at HU2.out, if_pos (by omega)])
              obtain ⟨p2, hsl0, hS⟩ := H.out.from8n c0 6 (by omega) hc0
              have hsl : ∀ w : World, (Instr.slice 25 (.slice (some ⟨b, o, none⟩) bs.length c0) (some (.int .i64 6)) none none).run Tryz.prog w = .ok (.slice p2 (bs.length - 6) (c0 - 6)) w := hsl0
              clear hsl0
              have HS := hid hS
              clear hS HU HU2
              go_wp2
              go_region
              go_wp2
              go_ret3
              exact ⟨(Below.refl _ _).drew, by rw [HUN.out]; exact ⟨_, rfl, HS.out.below (Below.refl _ _).drew⟩⟩
        · have HM := hid (HA.out.more (by omega) (by omega) hcb)
          simp only [Nat.reducePow] at HM
          have hsum : (acc : Int) + (c : Int) % 128 * 34359738368 = ((acc + 34359738368 * (c % 128) : Nat) : Int) := by omega
          have hNb : acc + 34359738368 * (c % 128) < 4398046511104 := by omega
          generalize acc + 34359738368 * (c % 128) = N at hsum HM hNb
          clear HA hacc
          go_wp2
          exact ⟨⟨6, N, by omega, by omega, rfl, rfl, rfl, HM.out, by trivial⟩, by simp [intOf]⟩
      · have hlt' : ¬ (5 : Int) < (bs.length : Int) := by omega
        have e : bs.drop 5 = [] := List.drop_eq_nil_of_le (by omega)
        rw [e] at HA
        have HU := hid (rdU_none (HA.out.short (by omega)))
        clear HA e
        go_wp2
        go_ret3
        exact ⟨Below.refl _ _, by rw [HU.out]; rfl⟩
    · have HU := hid (rdU_none HA.out.long)
      clear HA
      by_cases hlt : (6 : Int) < (bs.length : Int) <;>
      · go_wp2
        go_ret3
        exact ⟨Below.refl _ _, by rw [HU.out]; rfl⟩
/- behind rReadUint_near -/
end Go.Proofs.YtcbmimjjpkkoeaaGreatDoor

/- The document's numbers. -/
namespace Go.Proofs.YtcbmimjjpkkoeaaGreatDoor
open Go Go.RowKit

theorem SLn.far {po : Option Addr} {w w' : World} {v : Value} {d : List Nat} {S : Nat → Prop} {B : Nat} (h : SLn po w v d) (hP : d ≠ [] → ∀ a, po = some a → a.block < B) (ho : Only S w w') (hS : ∀ i, S i → B ≤ i) : SLn po w' v d := by
  obtain ⟨⟨p, c, rfl, hb, hc⟩, hn⟩ := h
  refine ⟨⟨p, c, rfl, hb.onlyAt ho (fun hne a ha e => ?_), hc⟩, hn⟩
  obtain ⟨a', h1, h2⟩ := hn a _ _ (by rw [ha])
  have := hP hne a' h1
  have := hS _ e
  omega
def NuS (po : Option Addr) (w : World) (q : Option (List Nat × List Nat)) (e : Ending) (w' : World) : Prop := Below w.heap.size w w' ∧ match q with
  | none => e = .returned (.tuple #[.slice none 0 0, .slice none 0 0, .bool false])
  | some (xs, r) => ∃ v u, e = .returned (.tuple #[v, u, .bool true]) ∧ IBuf w.heap.size w' v xs ∧ SLn po w' u r
set_option maxRecDepth 100000 in
set_option maxHeartbeats 1000000 in
theorem rnum_any (po : Option Addr) (c0 : Nat) (bs : List Nat) (w : World) (h : BL w po bs) (hc0 : bs.length ≤ c0) (hn : bs.length ≤ 100000) (h8 : ∀ x ∈ bs, x < 256) (n : Nat) (hn2 : n ≤ 1000) : Calls Tryz.prog 107 #[.slice po bs.length c0, i64 n] w (NuS po w (rdN n bs)) := by
  have HP : Hid (bs ≠ [] → ∀ a, po = some a → a.block < w.heap.size) := hid (fun hne a ha => by
    rcases h with e | ⟨b, o, h1, h2⟩
    · exact absurd e hne
    · rw [h1] at ha; cases ha
      exact cell_lt' (a := ⟨b, o + 0, none⟩) (by rw [h2 0 (List.length_pos_iff.2 hne)]; simp))
  have H0 : Hid (SLn po w (.slice po bs.length c0) bs) := hid ⟨⟨po, c0, rfl, h, hc0⟩, fun a n c e => by cases e; exact ⟨a, rfl, rfl⟩⟩
  have H8 := hid h8
  clear h h8
  go_enter Tryz.func107, Tryz.ntmps107
  go_wp2_with fail
  go_loopw [0, 7, 8] (fun bv ov iv wr => ∃ (k : Nat) (xs d : List Nat), k ≤ n ∧ iv = i64 k ∧ IBuf w.heap.size wr ov xs ∧ SLn po wr bv d ∧ NAcc n bs k xs d ∧ d.length ≤ bs.length ∧ (∀ x ∈ d, x < 256) ∧ Below w.heap.size w wr) (fun _ _ iv _ => (n - intOf iv).toNat)
  case atStart => exact ⟨0, [], bs, by omega, rfl, IBuf.nil _ _, H0.out, NAcc.start n bs, Nat.le_refl _, H8.out, Below.refl _ _⟩
  case round =>
    obtain ⟨k, xs, d, hk, rfl, hib, hsl, hac, hdl, hd8, hbw⟩ := hrel
    have HSL := hid hsl
    have HIB := hid hib
    have HAC := hid hac
    have HD8 := hid hd8
    have HBW := hid hbw
    obtain ⟨⟨pv, cv, hv, hbl, hcv⟩, hnear⟩ := hsl
    subst hv
    have HNEAR := hid hnear
    have hr0 := rReadUint_near pv cv d wr hbl hcv (by omega) hd8
    have hwr : IntKind.i64.wrap ((k : Int) + 1) = ((k + 1 : Nat) : Int) := by rw [IntKind.wrap_i64]; omega
    clear hib hac hd8 hbw hnear hbl
    by_cases hlt : k < n
    · have hlt' : (k : Int) < (n : Int) := by omega
      cases hx : rdU d with
      | none =>
        rw [hx] at hr0
        have HR := hid hr0
        have HST := hid (HAC.out.stop hlt hx)
        clear hr0 hx
        go_wp2_with (go_at_call 74; refine HR.out.mono ?_; rintro e w2 ⟨hb2, rfl⟩; have HB2 := hid hb2; clear hb2)
        go_ret3
        exact ⟨below_on HBW.out HB2.out, by rw [HST.out]; rfl⟩
      | some q =>
        obtain ⟨m, r⟩ := q
        rw [hx] at hr0
        have HR := hid hr0
        have HNX := hid (HAC.out.next hlt hx)
        have hless := rdU_less HD8.out hx
        have HL := hid hless
        clear hr0 hx hless
        go_wp2_with (first
          | (go_at_call 74; refine HR.out.mono ?_; rintro e w2 ⟨hb2, v2, rfl, hs2⟩; have HB2 := hid hb2; have HS2 := hid hs2; obtain ⟨v3, w3, hrun, hb3, hg3⟩ := (HIB.out.below hb2).push m (by have := HAC.out.1; omega) (by have := HBW.out.size; have := hb2.size; omega); have HRUN := hid hrun; have HB3 := hid hb3; have HG3 := hid hg3; clear hb2 hs2 hrun hb3 hg3)
          | (at_builtin; refine wpList_append_run _ _ 146 146 rfl rfl _ _ _ rfl rfl HRUN.out ?_))
        have hgo : Only (fun b => u7.ownBlock = some b) w2 w3 := (Only.alloc w2 _).trans (Only.of_grown HG3.out fun b e _ => e)
        have hfar : ∀ i, u7.ownBlock = some i → w.heap.size ≤ i := fun i e => (own_ge HIB.out i e).1
        have hs3 : SLn po w2 v2 r := ⟨HS2.out.1, fun a n c e => by
          obtain ⟨a', h1, h2⟩ := HS2.out.2 a n c e
          obtain ⟨a2, h3, h4⟩ := HNEAR.out a' _ _ (by rw [h1])
          exact ⟨a2, h3, h2.trans h4⟩⟩
        have hne2 : r ≠ [] → bs ≠ [] := fun hne e => hne (List.eq_nil_of_length_eq_zero (by have h1 := HL.out.1; rw [e] at hdl; simp at hdl; rw [hdl] at h1; simpa using h1))
        refine ⟨⟨k + 1, xs ++ [m], r, by omega, rfl, HB3.out, hs3.far (fun hne => HP.out (hne2 hne)) hgo hfar, HNX.out, by have := HL.out.1; omega, HL.out.2.1, below_tr (below_on HBW.out HB2.out) (hgo.below (below_on HBW.out HB2.out).size hfar)⟩, ?_⟩
        simp [intOf]; omega
    · have hlt' : ¬ (k : Int) < (n : Int) := by omega
      have HK : Hid (k = n) := hid (by omega)
      go_wp2
      go_ret3
      have hac := HAC.out
      rw [HK.out] at hac
      exact ⟨HBW.out, by rw [hac.last]; exact ⟨_, _, rfl, HIB.out, HSL.out⟩⟩
#print axioms rnum_any
end Go.Proofs.YtcbmimjjpkkoeaaGreatDoor

/- The document's ReadText, and where the rest lies. -/
namespace Go.Proofs.YtcbmimjjpkkoeaaGreatDoor
open Go Go.RowKit

theorem SLn.via {p q : Option Addr} {w : World} {v : Value} {r : List Nat} (h : SLn q w v r) (hq : ∀ a', q = some a' → ∃ a2, p = some a2 ∧ a'.block = a2.block) : SLn p w v r := ⟨h.1, fun a n c e => by
  obtain ⟨a', h1, h2⟩ := h.2 a n c e
  obtain ⟨a2, h3, h4⟩ := hq a' h1
  exact ⟨a2, h3, h2.trans h4⟩⟩
def RtN (p : Option Addr) (w : World) (q : Option (List Nat × List Nat)) (e : Ending) (w' : World) : Prop := Below w.heap.size w w' ∧ match q with
  | none => e = .returned (.tuple #[.string ⟨#[]⟩, .slice none 0 0, .bool false])
  | some (x, r) => ∃ t v, e = .returned (.tuple #[.string t, v, .bool true]) ∧ lst t = x ∧ SLn p w' v r
set_option maxRecDepth 100000 in
set_option maxHeartbeats 1000000 in
theorem rReadText_near (po : Option Addr) (c0 : Nat) (bs : List Nat) (w : World) (h : BL w po bs) (hc0 : bs.length ≤ c0) (hn : bs.length ≤ 100000) (h8 : ∀ x ∈ bs, x < 256) :
    Calls Tryz.prog 96 #[.slice po bs.length c0] w (RtN po w (rdT bs)) := by
  have hu := rReadUint_near po c0 bs w h hc0 hn h8
  cases hq : rdU bs with
  | none =>
    rw [hq] at hu
    have HT : Hid (rdT bs = none) := hid (by unfold rdT; rw [hq])
    clear hq h h8
    go_enter Tryz.func96, Tryz.ntmps96
    go_wp2_with (go_at_call 74; refine hu.mono ?_; rintro e w1 ⟨hb1, he⟩; simp only at he; subst he)
    go_ret3
    exact ⟨hb1, by rw [HT.out]; rfl⟩
  | some q =>
    obtain ⟨n, r⟩ := q
    rw [hq] at hu
    have HL := hid (rdU_less h8 hq)
    have HT : Hid (rdT bs = if n ≤ 65536 ∧ n ≤ r.length then some (r.take n, r.drop n) else none) := hid (by unfold rdT; rw [hq])
    clear hq h h8
    by_cases h1 : n ≤ 65536
    · by_cases h2 : n ≤ r.length
      · have h1' : ¬ 65536 < (n : Int) := by omega
        have h2' : ¬ (r.length : Int) < (n : Int) := by omega
        go_enter Tryz.func96, Tryz.ntmps96
        go_wp2_with (go_at_call 74; refine hu.mono ?_; rintro e w1 ⟨hb1, v1, he, hs⟩; subst he; obtain ⟨⟨po1, c1, rfl, hbl, hcc⟩, hnear⟩ := hs; have HN := hid (fun a' (e : po1 = some a') => hnear a' _ _ (by rw [e])); clear hnear; have hhead := run_h8 po1 r.length c1 n (by omega); obtain ⟨p2, hfrom, hS⟩ := hbl.from8n c1 n h2 hcc; have HS := hid hS; have hcv := ((hbl.take n).below (Below.refl w1.heap.size w1).drew).conv c1; rw [show (r.take n).length = n by rw [List.length_take]; omega] at hcv; have HB1 := hid hb1; clear hS hb1 hbl)
        go_region
        go_wp2
        go_ret3
        refine ⟨HB1.out.drew, ?_⟩
        rw [HT.out, if_pos ⟨h1, h2⟩]
        exact ⟨_, _, rfl, lst_ba fun x hx => HL.out.2.1 x (List.mem_of_mem_take hx), (HS.out.via HN.out).below (Below.refl _ _).drew⟩
      · have h1' : ¬ 65536 < (n : Int) := by omega
        have h2' : (r.length : Int) < (n : Int) := by omega
        go_enter Tryz.func96, Tryz.ntmps96
        go_wp2_with (go_at_call 74; refine hu.mono ?_; rintro e w1 ⟨hb1, v1, he, hs⟩; subst he; obtain ⟨⟨po1, c1, rfl, hbl, hcc⟩, hnear⟩ := hs; have HB1 := hid hb1; clear hb1 hbl hnear)
        go_ret3
        exact ⟨HB1.out, by rw [HT.out, if_neg (fun h => h2 h.2)]; rfl⟩
    · have h1' : 65536 < (n : Int) := by omega
      go_enter Tryz.func96, Tryz.ntmps96
      go_wp2_with (go_at_call 74; refine hu.mono ?_; rintro e w1 ⟨hb1, v1, he, hs⟩; subst he; obtain ⟨⟨po1, c1, rfl, hbl, hcc⟩, hnear⟩ := hs; have HB1 := hid hb1; clear hb1 hbl hnear)
      go_ret3
      exact ⟨HB1.out, by rw [HT.out, if_neg (fun h => h1 h.1)]; rfl⟩
#print axioms rReadText_near
end Go.Proofs.YtcbmimjjpkkoeaaGreatDoor
