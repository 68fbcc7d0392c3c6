/- Texts laid into one, cut to what is needed: the remark ahead of each part says what is proved there. -/
import Derived.Test.YtelkijiphhoacaaGreatDoorMax
import Derived.Deep.Cut
/- The document's ReadUint, and where the rest lies. -/
namespace Go.Proofs.YtelkijiphhoacaaGreatDoor
open Go Go.RowKit

/-- Bytes in the block that p leads to. -/
def SLn (p : Option Addr) (w : World) (v : Value) (r : List Nat) : Prop := SL w v r ∧ ∀ a n c, v = .slice (some a) n c → ∃ a', p = some a' ∧ a.block = a'.block
theorem SLn.below {p : Option Addr} {w w' : World} {v : Value} {r : List Nat} (h : SLn p w v r) (hb : Below w.heap.size w w') : SLn p w' v r := ⟨h.1.below hb, h.2⟩
def RuN (p : Option Addr) (w : World) (q : Option (Nat × List Nat)) (e : Ending) (w' : World) : Prop := Below w.heap.size w w' ∧ match q with
  | none => e = .returned (.tuple #[i64 0, .slice none 0 0, .bool false])
  | some (n, r) => ∃ v, e = .returned (.tuple #[i64 n, v, .bool true]) ∧ SLn p w' v r
theorem BL.from8n {w : World} {po : Option Addr} {bs : List Nat} (h : BL w po bs) (c l : Nat) (hl : l ≤ bs.length) (hc : bs.length ≤ c) : ∃ p2 : Option Addr, (∀ w : World, (Instr.slice 28 (.slice po bs.length c) (some (.int .i64 (l : Int))) none none).run Tryz.prog w = .ok (.slice p2 (bs.length - l) (c - l)) w) ∧ SLn po w (.slice p2 (bs.length - l) (c - l)) (bs.drop l) := by
  obtain ⟨p2, h1, h2, _, h4⟩ := run_from8 po bs.length c l hl hc
  refine ⟨p2, h1, ⟨p2, c - l, by rw [List.length_drop], ?_, by rw [List.length_drop]; omega⟩, fun a n c e => by cases e; exact h4 a rfl⟩
  rcases Nat.lt_or_ge l bs.length with hlt | hge
  · rcases h with e | ⟨b, o, hpo, hc⟩
    · subst e; simp at hlt
    · rw [h2 b o hpo hlt]
      exact BL.drop (Or.inr ⟨b, o, rfl, hc⟩) l
  · exact Or.inl (List.drop_eq_nil_of_le hge)
set_option maxRecDepth 100000 in
set_option maxHeartbeats 4000000 in
theorem rReadUint_near (po : Option Addr) (c0 : Nat) (bs : List Nat) (w : World) (h : BL w po bs) (hc0 : bs.length ≤ c0) (hn : bs.length ≤ 100000) (h8 : ∀ x ∈ bs, x < 256) :
    Calls Tryz.prog 44 #[.slice po bs.length c0] w (RuN po w (rdU bs)) := by
  have H := hid h
  have H8 := hid h8
  clear h h8
  go_enter Tryz.func44, Tryz.ntmps44
  go_wp2
  go_loopw [5, 6, 7] (fun nv uv iv wr => ∃ (i acc : Nat), i ≤ 6 ∧ i ≤ bs.length ∧ nv = i64 acc ∧ uv = i64 ((128 ^ i : Nat) : Int) ∧ iv = i64 i ∧ Acc bs i acc (bs.drop i) ∧ w = wr) (fun _ _ iv _ => (7 - intOf iv).toNat)
  case atStart => exact ⟨0, 0, by omega, by omega, rfl, rfl, rfl, by simpa using Acc.start bs, rfl⟩
  case round =>
    obtain ⟨i, acc, hi, hib, rfl, rfl, rfl, ha, hw⟩ := hrel
    subst hw
    have HA := hid ha
    clear ha
    have hi6 : i = 0 ∨ i = 1 ∨ i = 2 ∨ i = 3 ∨ i = 4 ∨ i = 5 ∨ i = 6 := by omega
    rcases hi6 with rfl | rfl | rfl | rfl | rfl | rfl | rfl
    · by_cases hlt : 0 < bs.length
      · have hlt' : (0 : Int) < (bs.length : Int) := by omega
        have hd := drop_cons hlt
        have hcb : bs.getD 0 0 < 256 := H8.out _ (by rw [List.getD_eq_getElem?_getD, List.getElem?_eq_getElem hlt]; exact List.getElem_mem hlt)
        have hat : ∃ b o, po = some ⟨b, o, none⟩ ∧ w.cell? ⟨b, o + 0, none⟩ = some (.int .u8 ((bs.getD 0 0 : Nat) : Int)) := by
          rcases H.out with e | ⟨b, o, e, hcell⟩
          · subst e; simp at hlt
          · exact ⟨b, o, e, hcell 0 hlt⟩
        obtain ⟨b, o, rfl, hcell⟩ := hat
        simp only [Nat.add_zero] at hcell
        rw [hd] at HA
        generalize bs.getD 0 0 = c at hcell HA hcb hd
        have HD := hid hd
        clear hd
        have hacc : acc < 1 := HA.out.1
        simp only [Nat.reducePow]
        by_cases hc : c < 128
        · have hc' : (c : Int) % 128 = (c : Int) := by omega
          have HU := hid (HA.out.last (by omega) hc)
          simp only [Nat.reducePow] at HU
          obtain rfl : acc = 0 := by omega
          have HU2 : Hid (rdG 6 bs = some (c, bs.drop 1)) := hid (by rw [HU.out]; simp)
          have HUN : Hid (rdU bs = some (c, bs.drop 1)) := hid (by rw [rdU_at HU2.out, if_pos (by omega)])
          obtain ⟨p2, hsl0, hS⟩ := H.out.from8n c0 1 (by omega) hc0
          have hsl : ∀ w : World, (Instr.slice 28 (.slice (some ⟨b, o, none⟩) bs.length c0) (some (.int .i64 1)) none none).run Tryz.prog w = .ok (.slice p2 (bs.length - 1) (c0 - 1)) w := hsl0
          have HS := hid hS
          clear hS HU HU2 hsl0 HA hacc
          by_cases hz : c = 0
          · subst hz
            go_wp2
            go_region
            go_wp2
            go_ret3
            exact ⟨(Below.refl _ _).drew, by rw [HUN.out]; exact ⟨_, rfl, HS.out.below (Below.refl _ _).drew⟩⟩
          · go_wp2
            go_region
            go_wp2
            go_ret3
            exact ⟨(Below.refl _ _).drew, by rw [HUN.out]; exact ⟨_, rfl, HS.out.below (Below.refl _ _).drew⟩⟩
        · have HM := hid (HA.out.more (by omega) (by omega) hcb)
          simp only [Nat.reducePow] at HM
          have hsum : (acc : Int) + (c : Int) % 128 = ((acc + 1 * (c % 128) : Nat) : Int) := by omega
          have hNb : acc + 1 * (c % 128) < 128 := by omega
          generalize acc + 1 * (c % 128) = N at hsum HM hNb
          clear HA hacc
          go_wp2
          exact ⟨⟨1, N, by omega, by omega, rfl, rfl, rfl, HM.out, by trivial⟩, by simp [intOf]⟩
      · have hlt' : ¬ (0 : Int) < (bs.length : Int) := by omega
        have e : bs.drop 0 = [] := List.drop_eq_nil_of_le (by omega)
        rw [e] at HA
        have HU := hid (rdU_none (HA.out.short (by omega)))
        clear HA e
        go_wp2
        go_ret3
        exact ⟨Below.refl _ _, by rw [HU.out]; rfl⟩
    · by_cases hlt : 1 < bs.length
      · have hlt' : (1 : Int) < (bs.length : Int) := by omega
        have hd := drop_cons hlt
        have hcb : bs.getD 1 0 < 256 := H8.out _ (by rw [List.getD_eq_getElem?_getD, List.getElem?_eq_getElem hlt]; exact List.getElem_mem hlt)
        have hat : ∃ b o, po = some ⟨b, o, none⟩ ∧ w.cell? ⟨b, o + 1, none⟩ = some (.int .u8 ((bs.getD 1 0 : Nat) : Int)) := by
          rcases H.out with e | ⟨b, o, e, hcell⟩
          · subst e; simp at hlt
          · exact ⟨b, o, e, hcell 1 hlt⟩
        obtain ⟨b, o, rfl, hcell⟩ := hat
        skip
        rw [hd] at HA
        generalize bs.getD 1 0 = c at hcell HA hcb hd
        have HD := hid hd
        clear hd
        have hacc : acc < 128 := HA.out.1
        simp only [Nat.reducePow]
        by_cases hc : c < 128
        · have hc' : (c : Int) % 128 = (c : Int) := by omega
          have HU := hid (HA.out.last (by omega) hc)
          simp only [Nat.reducePow] at HU
          have hsum : (acc : Int) + (c : Int) * 128 = ((acc + 128 * c : Nat) : Int) := by omega
          have hNb : acc + 128 * c < 16384 := by omega
          generalize acc + 128 * c = N at hsum HU hNb
          clear HA hacc
          by_cases hz : (c : Int) = 0
          · have HUN : Hid (rdU bs = none) := hid (rdU_none (by rw [HU.out]; simp; omega))
            clear HU
            have hc0' : c = 0 := by omega
            subst hc0'
            have hsum0 : (acc : Int) = (N : Int) := by omega
            go_wp2
            go_ret3
            exact ⟨Below.refl _ _, by rw [HUN.out]; rfl⟩
          · have HU2 : Hid (rdG 6 bs = some (N, bs.drop 2)) := hid (by rw [HU.out, if_neg (by omega)])
            by_cases hbig : 1099511627776 < (N : Int)
            · exfalso; omega
            · have HUN : Hid (rdU bs = some (N, bs.drop 2)) := hid (by rw [rdU_at HU2.out, if_pos (by omega)])
              obtain ⟨p2, hsl0, hS⟩ := H.out.from8n c0 2 (by omega) hc0
              have hsl : ∀ w : World, (Instr.slice 28 (.slice (some ⟨b, o, none⟩) bs.length c0) (some (.int .i64 2)) none none).run Tryz.prog w = .ok (.slice p2 (bs.length - 2) (c0 - 2)) w := hsl0
              clear hsl0
              have HS := hid hS
              clear hS HU HU2
              go_wp2
              go_region
              go_wp2
              go_ret3
              exact ⟨(Below.refl _ _).drew, by rw [HUN.out]; exact ⟨_, rfl, HS.out.below (Below.refl _ _).drew⟩⟩
        · have HM := hid (HA.out.more (by omega) (by omega) hcb)
          simp only [Nat.reducePow] at HM
          have hsum : (acc : Int) + (c : Int) % 128 * 128 = ((acc + 128 * (c % 128) : Nat) : Int) := by omega
          have hNb : acc + 128 * (c % 128) < 16384 := by omega
          generalize acc + 128 * (c % 128) = N at hsum HM hNb
          clear HA hacc
          go_wp2
          exact ⟨⟨2, N, by omega, by omega, rfl, rfl, rfl, HM.out, by trivial⟩, by simp [intOf]⟩
      · have hlt' : ¬ (1 : Int) < (bs.length : Int) := by omega
        have e : bs.drop 1 = [] := List.drop_eq_nil_of_le (by omega)
        rw [e] at HA
        have HU := hid (rdU_none (HA.out.short (by omega)))
        clear HA e
        go_wp2
        go_ret3
        exact ⟨Below.refl _ _, by rw [HU.out]; rfl⟩
    · by_cases hlt : 2 < bs.length
      · have hlt' : (2 : Int) < (bs.length : Int) := by omega
        have hd := drop_cons hlt
        have hcb : bs.getD 2 0 < 256 := H8.out _ (by rw [List.getD_eq_getElem?_getD, List.getElem?_eq_getElem hlt]; exact List.getElem_mem hlt)
        have hat : ∃ b o, po = some ⟨b, o, none⟩ ∧ w.cell? ⟨b, o + 2, none⟩ = some (.int .u8 ((bs.getD 2 0 : Nat) : Int)) := by
          rcases H.out with e | ⟨b, o, e, hcell⟩
          · subst e; simp at hlt
          · exact ⟨b, o, e, hcell 2 hlt⟩
        obtain ⟨b, o, rfl, hcell⟩ := hat
        skip
        rw [hd] at HA
        generalize bs.getD 2 0 = c at hcell HA hcb hd
        have HD := hid hd
        clear hd
        have hacc : acc < 16384 := HA.out.1
        simp only [Nat.reducePow]
        by_cases hc : c < 128
        · have hc' : (c : Int) % 128 = (c : Int) := by omega
          have HU := hid (HA.out.last (by omega) hc)
          simp only [Nat.reducePow] at HU
          have hsum : (acc : Int) + (c : Int) * 16384 = ((acc + 16384 * c : Nat) : Int) := by omega
          have hNb : acc + 16384 * c < 2097152 := by omega
          generalize acc + 16384 * c = N at hsum HU hNb
          clear HA hacc
          by_cases hz : (c : Int) = 0
          · have HUN : Hid (rdU bs = none) := hid (rdU_none (by rw [HU.out]; simp; omega))
            clear HU
            have hc0' : c = 0 := by omega
            subst hc0'
            have hsum0 : (acc : Int) = (N : Int) := by omega
            go_wp2
            go_ret3
            exact ⟨Below.refl _ _, by rw [HUN.out]; rfl⟩
          · have HU2 : Hid (rdG 6 bs = some (N, bs.drop 3)) := hid (by rw [HU.out, if_neg (by omega)])
            by_cases hbig : 1099511627776 < (N : Int)
            · exfalso; omega
            · have HUN : Hid (rdU bs = some (N, bs.drop 3)) := hid (by rw [rdU_at HU2.out, if_pos (by omega)])
              obtain ⟨p2, hsl0, hS⟩ := H.out.from8n c0 3 (by omega) hc0
              have hsl : ∀ w : World, (Instr.slice 28 (.slice (some ⟨b, o, none⟩) bs.length c0) (some (.int .i64 3)) none none).run Tryz.prog w = .ok (.slice p2 (bs.length - 3) (c0 - 3)) w := hsl0
              clear hsl0
              have HS := hid hS
              clear hS HU HU2
              go_wp2
              go_region
              go_wp2
              go_ret3
              exact ⟨(Below.refl _ _).drew, by rw [HUN.out]; exact ⟨_, rfl, HS.out.below (Below.refl _ _).drew⟩⟩
        · have HM := hid (HA.out.more (by omega) (by omega) hcb)
          simp only [Nat.reducePow] at HM
          have hsum : (acc : Int) + (c : Int) % 128 * 16384 = ((acc + 16384 * (c % 128) : Nat) : Int) := by omega
          have hNb : acc + 16384 * (c % 128) < 2097152 := by omega
          generalize acc + 16384 * (c % 128) = N at hsum HM hNb
          clear HA hacc
          go_wp2
          exact ⟨⟨3, N, by omega, by omega, rfl, rfl, rfl, HM.out, by trivial⟩, by simp [intOf]⟩
      · have hlt' : ¬ (2 : Int) < (bs.length : Int) := by omega
        have e : bs.drop 2 = [] := List.drop_eq_nil_of_le (by omega)
        rw [e] at HA
        have HU := hid (rdU_none (HA.out.short (by omega)))
        clear HA e
        go_wp2
        go_ret3
        exact ⟨Below.refl _ _, by rw [HU.out]; rfl⟩
    · by_cases hlt : 3 < bs.length
      · have hlt' : (3 : Int) < (bs.length : Int) := by omega
        have hd := drop_cons hlt
        have hcb : bs.getD 3 0 < 256 := H8.out _ (by rw [List.getD_eq_getElem?_getD, List.getElem?_eq_getElem hlt]; exact List.getElem_mem hlt)
        have hat : ∃ b o, po = some ⟨b, o, none⟩ ∧ w.cell? ⟨b, o + 3, none⟩ = some (.int .u8 ((bs.getD 3 0 : Nat) : Int)) := by
          rcases H.out with e | ⟨b, o, e, hcell⟩
          · subst e; simp at hlt
          · exact ⟨b, o, e, hcell 3 hlt⟩
        obtain ⟨b, o, rfl, hcell⟩ := hat
        skip
        rw [hd] at HA
        generalize bs.getD 3 0 = c at hcell HA hcb hd
        have HD := hid hd
        clear hd
        have hacc : acc < 2097152 := HA.out.1
        simp only [Nat.reducePow]
        by_cases hc : c < 128
        · have hc' : (c : Int) % 128 = (c : Int) := by omega
          have HU := hid (HA.out.last (by omega) hc)
          simp only [Nat.reducePow] at HU
          have hsum : (acc : Int) + (c : Int) * 2097152 = ((acc + 2097152 * c : Nat) : Int) := by omega
          have hNb : acc + 2097152 * c < 268435456 := by omega
          generalize acc + 2097152 * c = N at hsum HU hNb
          clear HA hacc
          by_cases hz : (c : Int) = 0
          · have HUN : Hid (rdU bs = none) := hid (rdU_none (by rw [HU.out]; simp; omega))
            clear HU
            have hc0' : c = 0 := by omega
            subst hc0'
            have hsum0 : (acc : Int) = (N : Int) := by omega
            go_wp2
            go_ret3
            exact ⟨Below.refl _ _, by rw [HUN.out]; rfl⟩
          · have HU2 : Hid (rdG 6 bs = some (N, bs.drop 4)) := hid (by rw [HU.out, if_neg (by omega)])
            by_cases hbig : 1099511627776 < (N : Int)
            · exfalso; omega
            · have HUN : Hid (rdU bs = some (N, bs.drop 4)) := hid (by rw [rdU_at HU2.out, if_pos (by omega)])
              obtain ⟨p2, hsl0, hS⟩ := H.out.from8n c0 4 (by omega) hc0
              have hsl : ∀ w : World, (Instr.slice 28 (.slice (some ⟨b, o, none⟩) bs.length c0) (some (.int .i64 4)) none none).run Tryz.prog w = .ok (.slice p2 (bs.length - 4) (c0 - 4)) w := hsl0
              clear hsl0
              have HS := hid hS
              clear hS HU HU2
              go_wp2
              go_region
              go_wp2
              go_ret3
              exact ⟨(Below.refl _ _).drew, by rw [HUN.out]; exact ⟨_, rfl, HS.out.below (Below.refl _ _).drew⟩⟩
        · have HM := hid (HA.out.more (by omega) (by omega) hcb)
          simp only [Nat.reducePow] at HM
          have hsum : (acc : Int) + (c : Int) % 128 * 2097152 = ((acc + 2097152 * (c % 128) : Nat) : Int) := by omega
          have hNb : acc + 2097152 * (c % 128) < 268435456 := by omega
          generalize acc + 2097152 * (c % 128) = N at hsum HM hNb
          clear HA hacc
          go_wp2
          exact ⟨⟨4, N, by omega, by omega, rfl, rfl, rfl, HM.out, by trivial⟩, by simp [intOf]⟩
      · have hlt' : ¬ (3 : Int) < (bs.length : Int) := by omega
        have e : bs.drop 3 = [] := List.drop_eq_nil_of_le (by omega)
        rw [e] at HA
        have HU := hid (rdU_none (HA.out.short (by omega)))
        clear HA e
        go_wp2
        go_ret3
        exact ⟨Below.refl _ _, by rw [HU.out]; rfl⟩
    · by_cases hlt : 4 < bs.length
      · have hlt' : (4 : Int) < (bs.length : Int) := by omega
        have hd := drop_cons hlt
        have hcb : bs.getD 4 0 < 256 := H8.out _ (by rw [List.getD_eq_getElem?_getD, List.getElem?_eq_getElem hlt]; exact List.getElem_mem hlt)
        have hat : ∃ b o, po = some ⟨b, o, none⟩ ∧ w.cell? ⟨b, o + 4, none⟩ = some (.int .u8 ((bs.getD 4 0 : Nat) : Int)) := by
          rcases H.out with e | ⟨b, o, e, hcell⟩
          · subst e; simp at hlt
          · exact ⟨b, o, e, hcell 4 hlt⟩
        obtain ⟨b, o, rfl, hcell⟩ := hat
        skip
        rw [hd] at HA
        generalize bs.getD 4 0 = c at hcell HA hcb hd
        have HD := hid hd
        clear hd
        have hacc : acc < 268435456 := HA.out.1
        simp only [Nat.reducePow]
        by_cases hc : c < 128
        · have hc' : (c : Int) % 128 = (c : Int) := by omega
          have HU := hid (HA.out.last (by omega) hc)
          simp only [Nat.reducePow] at HU
          have hsum : (acc : Int) + (c : Int) * 268435456 = ((acc + 268435456 * c : Nat) : Int) := by omega
          have hNb : acc + 268435456 * c < 34359738368 := by omega
          generalize acc + 268435456 * c = N at hsum HU hNb
          clear HA hacc
          by_cases hz : (c : Int) = 0
          · have HUN : Hid (rdU bs = none) := hid (rdU_none (by rw [HU.out]; simp; omega))
            clear HU
            have hc0' : c = 0 := by omega
            subst hc0'
            have hsum0 : (acc : Int) = (N : Int) := by omega
            go_wp2
            go_ret3
            exact ⟨Below.refl _ _, by rw [HUN.out]; rfl⟩
          · have HU2 : Hid (rdG 6 bs = some (N, bs.drop 5)) := hid (by rw [HU.out, if_neg (by omega)])
            by_cases hbig : 1099511627776 < (N : Int)
            · exfalso; omega
            · have HUN : Hid (rdU bs = some (N, bs.drop 5)) := hid (by rw [rdU_at HU2.out, if_pos (by omega)])
              obtain ⟨p2, hsl0, hS⟩ := H.out.from8n c0 5 (by omega) hc0
              have hsl : ∀ w : World, (Instr.slice 28 (.slice (some ⟨b, o, none⟩) bs.length c0) (some (.int .i64 5)) none none).run Tryz.prog w = .ok (.slice p2 (bs.length - 5) (c0 - 5)) w := hsl0
              clear hsl0
              have HS := hid hS
              clear hS HU HU2
              go_wp2
              go_region
              go_wp2
              go_ret3
              exact ⟨(Below.refl _ _).drew, by rw [HUN.out]; exact ⟨_, rfl, HS.out.below (Below.refl _ _).drew⟩⟩
        · have HM := hid (HA.out.more (by omega) (by omega) hcb)
          simp only [Nat.reducePow] at HM
          have hsum : (acc : Int) + (c : Int) % 128 * 268435456 = ((acc + 268435456 * (c % 128) : Nat) : Int) := by omega
          have hNb : acc + 268435456 * (c % 128) < 34359738368 := by omega
          generalize acc + 268435456 * (c % 128) = N at hsum HM hNb
          clear HA hacc
          go_wp2
          exact ⟨⟨5, N, by omega, by omega, rfl, rfl, rfl, HM.out, by trivial⟩, by simp [intOf]⟩
      · have hlt' : ¬ (4 : Int) < (bs.length : Int) := by omega
        have e : bs.drop 4 = [] := List.drop_eq_nil_of_le (by omega)
        rw [e] at HA
        have HU := hid (rdU_none (HA.out.short (by omega)))
        clear HA e
        go_wp2
        go_ret3
        exact ⟨Below.refl _ _, by rw [HU.out]; rfl⟩
    · by_cases hlt : 5 < bs.length
      · have hlt' : (5 : Int) < (bs.length : Int) := by omega
        have hd := drop_cons hlt
        have hcb : bs.getD 5 0 < 256 := H8.out _ (by rw [List.getD_eq_getElem?_getD, List.getElem?_eq_getElem hlt]; exact List.getElem_mem hlt)
        have hat : ∃ b o, po = some ⟨b, o, none⟩ ∧ w.cell? ⟨b, o + 5, none⟩ = some (.int .u8 ((bs.getD 5 0 : Nat) : Int)) := by
          rcases H.out with e | ⟨b, o, e, hcell⟩
          · subst e; simp at hlt
          · exact ⟨b, o, e, hcell 5 hlt⟩
        obtain ⟨b, o, rfl, hcell⟩ := hat
        skip
        rw [hd] at HA
        generalize bs.getD 5 0 = c at hcell HA hcb hd
        have HD := hid hd
        clear hd
        have hacc : acc < 34359738368 := HA.out.1
        simp only [Nat.reducePow]
        by_cases hc : c < 128
        · have hc' : (c : Int) % 128 = (c : Int) := by omega
          have HU := hid (HA.out.last (by omega) hc)
          simp only [Nat.reducePow] at HU
          have hsum : (acc : Int) + (c : Int) * 34359738368 = ((acc + 34359738368 * c : Nat) : Int) := by omega
          have hNb : acc + 34359738368 * c < 4398046511104 := by omega
          generalize acc + 34359738368 * c = N at hsum HU hNb
          clear HA hacc
          by_cases hz : (c : Int) = 0
          · have HUN : Hid (rdU bs = none) := hid (rdU_none (by rw [HU.out]; simp; omega))
            clear HU
            have hc0' : c = 0 := by omega
            subst hc0'
            have hsum0 : (acc : Int) = (N : Int) := by omega
            go_wp2
            go_ret3
            exact ⟨Below.refl _ _, by rw [HUN.out]; rfl⟩
          · have HU2 : Hid (rdG 6 bs = some (N, bs.drop 6)) := hid (by rw [HU.out, if_neg (by omega)])
            by_cases hbig : 1099511627776 < (N : Int)
            · have HUN : Hid (rdU bs = none) := hid (by rw [rdU_at HU2.out, if_neg (by omega)])
              clear HU HU2
              go_wp2
              go_ret3
              exact ⟨Below.refl _ _, by rw [HUN.out]; rfl⟩
            · have HUN : Hid (rdU bs = some (N, bs.drop 6)) := hid (by rw [rdU_at HU2.out, if_pos (by omega)])
              obtain ⟨p2, hsl0, hS⟩ := H.out.from8n c0 6 (by omega) hc0
              have hsl : ∀ w : World, (Instr.slice 28 (.slice (some ⟨b, o, none⟩) bs.length c0) (some (.int .i64 6)) none none).run Tryz.prog w = .ok (.slice p2 (bs.length - 6) (c0 - 6)) w := hsl0
              clear hsl0
              have HS := hid hS
              clear hS HU HU2
              go_wp2
              go_region
              go_wp2
              go_ret3
              exact ⟨(Below.refl _ _).drew, by rw [HUN.out]; exact ⟨_, rfl, HS.out.below (Below.refl _ _).drew⟩⟩
        · have HM := hid (HA.out.more (by omega) (by omega) hcb)
          simp only [Nat.reducePow] at HM
          have hsum : (acc : Int) + (c : Int) % 128 * 34359738368 = ((acc + 34359738368 * (c % 128) : Nat) : Int) := by omega
          have hNb : acc + 34359738368 * (c % 128) < 4398046511104 := by omega
          generalize acc + 34359738368 * (c % 128) = N at hsum HM hNb
          clear HA hacc
          go_wp2
          exact ⟨⟨6, N, by omega, by omega, rfl, rfl, rfl, HM.out, by trivial⟩, by simp [intOf]⟩
      · have hlt' : ¬ (5 : Int) < (bs.length : Int) := by omega
        have e : bs.drop 5 = [] := List.drop_eq_nil_of_le (by omega)
        rw [e] at HA
        have HU := hid (rdU_none (HA.out.short (by omega)))
        clear HA e
        go_wp2
        go_ret3
        exact ⟨Below.refl _ _, by rw [HU.out]; rfl⟩
    · have HU := hid (rdU_none HA.out.long)
      clear HA
      by_cases hlt : (6 : Int) < (bs.length : Int) <;>
      · go_wp2
        go_ret3
        exact ⟨Below.refl _ _, by rw [HU.out]; rfl⟩
/- behind rReadUint_near -/
end Go.Proofs.YtelkijiphhoacaaGreatDoor

/- The document's numbers. -/
namespace Go.Proofs.YtelkijiphhoacaaGreatDoor
open Go Go.RowKit

theorem SLn.far {po : Option Addr} {w w' : World} {v : Value} {d : List Nat} {S : Nat → Prop} {B : Nat} (h : SLn po w v d) (hP : d ≠ [] → ∀ a, po = some a → a.block < B) (ho : Only S w w') (hS : ∀ i, S i → B ≤ i) : SLn po w' v d := by
  obtain ⟨⟨p, c, rfl, hb, hc⟩, hn⟩ := h
  refine ⟨⟨p, c, rfl, hb.onlyAt ho (fun hne a ha e => ?_), hc⟩, hn⟩
  obtain ⟨a', h1, h2⟩ := hn a _ _ (by rw [ha])
  have := hP hne a' h1
  have := hS _ e
  omega
def NuS (po : Option Addr) (w : World) (q : Option (List Nat × List Nat)) (e : Ending) (w' : World) : Prop := Below w.heap.size w w' ∧ match q with
  | none => e = .returned (.tuple #[.slice none 0 0, .slice none 0 0, .bool false])
  | some (xs, r) => ∃ v u, e = .returned (.tuple #[v, u, .bool true]) ∧ IBuf w.heap.size w' v xs ∧ SLn po w' u r
set_option maxRecDepth 100000 in
set_option maxHeartbeats 1000000 in
theorem rnum_any (po : Option Addr) (c0 : Nat) (bs : List Nat) (w : World) (h : BL w po bs) (hc0 : bs.length ≤ c0) (hn : bs.length ≤ 100000) (h8 : ∀ x ∈ bs, x < 256) (n : Nat) (hn2 : n ≤ 1000) : Calls Tryz.prog 84 #[.slice po bs.length c0, i64 n] w (NuS po w (rdN n bs)) := by
  have HP : Hid (bs ≠ [] → ∀ a, po = some a → a.block < w.heap.size) := hid (fun hne a ha => by
    rcases h with e | ⟨b, o, h1, h2⟩
    · exact absurd e hne
    · rw [h1] at ha; cases ha
      exact cell_lt' (a := ⟨b, o + 0, none⟩) (by rw [h2 0 (List.length_pos_iff.2 hne)]; simp))
  have H0 : Hid (SLn po w (.slice po bs.length c0) bs) := hid ⟨⟨po, c0, rfl, h, hc0⟩, fun a n c e => by cases e; exact ⟨a, rfl, rfl⟩⟩
  have H8 := hid h8
  clear h h8
  go_enter Tryz.func84, Tryz.ntmps84
  go_wp2_with fail
  go_loopw [0, 7, 8] (fun bv ov iv wr => ∃ (k : Nat) (xs d : List Nat), k ≤ n ∧ iv = i64 k ∧ IBuf w.heap.size wr ov xs ∧ SLn po wr bv d ∧ NAcc n bs k xs d ∧ d.length ≤ bs.length ∧ (∀ x ∈ d, x < 256) ∧ Below w.heap.size w wr) (fun _ _ iv _ => (n - intOf iv).toNat)
  case atStart => exact ⟨0, [], bs, by omega, rfl, IBuf.nil _ _, H0.out, NAcc.start n bs, Nat.le_refl _, H8.out, Below.refl _ _⟩
  case round =>
    obtain ⟨k, xs, d, hk, rfl, hib, hsl, hac, hdl, hd8, hbw⟩ := hrel
    have HSL := hid hsl
    have HIB := hid hib
    have HAC := hid hac
    have HD8 := hid hd8
    have HBW := hid hbw
    obtain ⟨⟨pv, cv, hv, hbl, hcv⟩, hnear⟩ := hsl
    subst hv
    have HNEAR := hid hnear
    have hr0 := rReadUint_near pv cv d wr hbl hcv (by omega) hd8
    have hwr : IntKind.i64.wrap ((k : Int) + 1) = ((k + 1 : Nat) : Int) := by rw [IntKind.wrap_i64]; omega
    clear hib hac hd8 hbw hnear hbl
    by_cases hlt : k < n
    · have hlt' : (k : Int) < (n : Int) := by omega
      cases hx : rdU d with
      | none =>
        rw [hx] at hr0
        have HR := hid hr0
        have HST := hid (HAC.out.stop hlt hx)
        clear hr0 hx
        go_wp2_with (go_at_call 44; refine HR.out.mono ?_; rintro e w2 ⟨hb2, rfl⟩; have HB2 := hid hb2; clear hb2)
        go_ret3
        exact ⟨below_on HBW.out HB2.out, by rw [HST.out]; rfl⟩
      | some q =>
        obtain ⟨m, r⟩ := q
        rw [hx] at hr0
        have HR := hid hr0
        have HNX := hid (HAC.out.next hlt hx)
        have hless := rdU_less HD8.out hx
        have HL := hid hless
        clear hr0 hx hless
        go_wp2_with (first
          | (go_at_call 44; refine HR.out.mono ?_; rintro e w2 ⟨hb2, v2, rfl, hs2⟩; have HB2 := hid hb2; have HS2 := hid hs2; obtain ⟨v3, w3, hrun, hb3, hg3⟩ := (HIB.out.below hb2).push m (by have := HAC.out.1; omega) (by have := HBW.out.size; have := hb2.size; omega); have HRUN := hid hrun; have HB3 := hid hb3; have HG3 := hid hg3; clear hb2 hs2 hrun hb3 hg3)
          | (at_builtin; refine wpList_append_run _ _ 86 86 rfl rfl _ _ _ rfl rfl HRUN.out ?_))
        have hgo : Only (fun b => u7.ownBlock = some b) w2 w3 := (Only.alloc w2 _).trans (Only.of_grown HG3.out fun b e _ => e)
        have hfar : ∀ i, u7.ownBlock = some i → w.heap.size ≤ i := fun i e => (own_ge HIB.out i e).1
        have hs3 : SLn po w2 v2 r := ⟨HS2.out.1, fun a n c e => by
          obtain ⟨a', h1, h2⟩ := HS2.out.2 a n c e
          obtain ⟨a2, h3, h4⟩ := HNEAR.out a' _ _ (by rw [h1])
          exact ⟨a2, h3, h2.trans h4⟩⟩
        have hne2 : r ≠ [] → bs ≠ [] := fun hne e => hne (List.eq_nil_of_length_eq_zero (by have h1 := HL.out.1; rw [e] at hdl; simp at hdl; rw [hdl] at h1; simpa using h1))
        refine ⟨⟨k + 1, xs ++ [m], r, by omega, rfl, HB3.out, hs3.far (fun hne => HP.out (hne2 hne)) hgo hfar, HNX.out, by have := HL.out.1; omega, HL.out.2.1, below_tr (below_on HBW.out HB2.out) (hgo.below (below_on HBW.out HB2.out).size hfar)⟩, ?_⟩
        simp [intOf]; omega
    · have hlt' : ¬ (k : Int) < (n : Int) := by omega
      have HK : Hid (k = n) := hid (by omega)
      go_wp2
      go_ret3
      have hac := HAC.out
      rw [HK.out] at hac
      exact ⟨HBW.out, by rw [hac.last]; exact ⟨_, _, rfl, HIB.out, HSL.out⟩⟩
end Go.Proofs.YtelkijiphhoacaaGreatDoor

/- The document's ReadText, and where the rest lies. -/
namespace Go.Proofs.YtelkijiphhoacaaGreatDoor
open Go Go.RowKit

theorem SLn.via {p q : Option Addr} {w : World} {v : Value} {r : List Nat} (h : SLn q w v r) (hq : ∀ a', q = some a' → ∃ a2, p = some a2 ∧ a'.block = a2.block) : SLn p w v r := ⟨h.1, fun a n c e => by
  obtain ⟨a', h1, h2⟩ := h.2 a n c e
  obtain ⟨a2, h3, h4⟩ := hq a' h1
  exact ⟨a2, h3, h2.trans h4⟩⟩
def RtN (p : Option Addr) (w : World) (q : Option (List Nat × List Nat)) (e : Ending) (w' : World) : Prop := Below w.heap.size w w' ∧ match q with
  | none => e = .returned (.tuple #[.string ⟨#[]⟩, .slice none 0 0, .bool false])
  | some (x, r) => ∃ t v, e = .returned (.tuple #[.string t, v, .bool true]) ∧ lst t = x ∧ SLn p w' v r
set_option maxRecDepth 100000 in
set_option maxHeartbeats 1000000 in
theorem rReadText_near (po : Option Addr) (c0 : Nat) (bs : List Nat) (w : World) (h : BL w po bs) (hc0 : bs.length ≤ c0) (hn : bs.length ≤ 100000) (h8 : ∀ x ∈ bs, x < 256) :
    Calls Tryz.prog 60 #[.slice po bs.length c0] w (RtN po w (rdT bs)) := by
  have hu := rReadUint_near po c0 bs w h hc0 hn h8
  cases hq : rdU bs with
  | none =>
    rw [hq] at hu
    have HT : Hid (rdT bs = none) := hid (by unfold rdT; rw [hq])
    clear hq h h8
    go_enter Tryz.func60, Tryz.ntmps60
    go_wp2_with (go_at_call 44; refine hu.mono ?_; rintro e w1 ⟨hb1, he⟩; simp only at he; subst he)
    go_ret3
    exact ⟨hb1, by rw [HT.out]; rfl⟩
  | some q =>
    obtain ⟨n, r⟩ := q
    rw [hq] at hu
    have HL := hid (rdU_less h8 hq)
    have HT : Hid (rdT bs = if n ≤ 65536 ∧ n ≤ r.length then some (r.take n, r.drop n) else none) := hid (by unfold rdT; rw [hq])
    clear hq h h8
    by_cases h1 : n ≤ 65536
    · by_cases h2 : n ≤ r.length
      · have h1' : ¬ 65536 < (n : Int) := by omega
        have h2' : ¬ (r.length : Int) < (n : Int) := by omega
        go_enter Tryz.func60, Tryz.ntmps60
        go_wp2_with (go_at_call 44; refine hu.mono ?_; rintro e w1 ⟨hb1, v1, he, hs⟩; subst he; obtain ⟨⟨po1, c1, rfl, hbl, hcc⟩, hnear⟩ := hs; have HN := hid (fun a' (e : po1 = some a') => hnear a' _ _ (by rw [e])); clear hnear; have hhead := run_h8 po1 r.length c1 n (by omega); obtain ⟨p2, hfrom, hS⟩ := hbl.from8n c1 n h2 hcc; have HS := hid hS; have hcv := ((hbl.take n).below (Below.refl w1.heap.size w1).drew).conv c1; rw [show (r.take n).length = n by rw [List.length_take]; omega] at hcv; have HB1 := hid hb1; clear hS hb1 hbl)
        go_region
        go_wp2
        go_ret3
        refine ⟨HB1.out.drew, ?_⟩
        rw [HT.out, if_pos ⟨h1, h2⟩]
        exact ⟨_, _, rfl, lst_ba fun x hx => HL.out.2.1 x (List.mem_of_mem_take hx), (HS.out.via HN.out).below (Below.refl _ _).drew⟩
      · have h1' : ¬ 65536 < (n : Int) := by omega
        have h2' : (r.length : Int) < (n : Int) := by omega
        go_enter Tryz.func60, Tryz.ntmps60
        go_wp2_with (go_at_call 44; refine hu.mono ?_; rintro e w1 ⟨hb1, v1, he, hs⟩; subst he; obtain ⟨⟨po1, c1, rfl, hbl, hcc⟩, hnear⟩ := hs; have HB1 := hid hb1; clear hb1 hbl hnear)
        go_ret3
        exact ⟨HB1.out, by rw [HT.out, if_neg (fun h => h2 h.2)]; rfl⟩
    · have h1' : 65536 < (n : Int) := by omega
      go_enter Tryz.func60, Tryz.ntmps60
      go_wp2_with (go_at_call 44; refine hu.mono ?_; rintro e w1 ⟨hb1, v1, he, hs⟩; subst he; obtain ⟨⟨po1, c1, rfl, hbl, hcc⟩, hnear⟩ := hs; have HB1 := hid hb1; clear hb1 hbl hnear)
      go_ret3
      exact ⟨HB1.out, by rw [HT.out, if_neg (fun h => h1 h.1)]; rfl⟩
end Go.Proofs.YtelkijiphhoacaaGreatDoor

/- The document's data: what is read, step by step; bytes beside a record's block. -/
namespace Go.Proofs.YtelkijiphhoacaaGreatDoor
open Go Go.RowKit

theorem rdN_less : ∀ {n : Nat} {b xs c : List Nat}, (∀ x ∈ b, x < 256) → rdN n b = some (xs, c) → c.length ≤ b.length ∧ (∀ z ∈ c, z < 256)
  | 0, b, xs, c, h8, h => by simp [rdN] at h; rw [← h.2]; exact ⟨Nat.le_refl _, h8⟩
  | n + 1, b, xs, c, h8, h => by
    rw [rdN] at h
    cases h1 : rdU b with
    | none => rw [h1] at h; cases h
    | some q =>
      rw [h1] at h
      simp only [Option.bind_some] at h
      cases h2 : rdN n q.2 with
      | none => rw [h2] at h; cases h
      | some r =>
        rw [h2] at h
        simp at h
        obtain ⟨k1, k2, _⟩ := rdU_less h8 (n := q.1) (r := q.2) h1
        obtain ⟨k3, k4⟩ := rdN_less k2 (xs := r.1) (c := r.2) h2
        rw [← h.2]
        exact ⟨Nat.le_trans k3 k1, k4⟩
/-- What stands of a record that is no mark, as the document reads it. -/
def chD (id : List Nat) (t : Nat) (b : List Nat) : Option (Rc × List Nat) :=
  (rdU b).bind fun q1 => (rdT q1.2).bind fun q2 => (rdN 2 q2.2).bind fun q3 => (rdT q3.2).bind fun q4 => if q4.2.length < 32 then none else
    (rdU (q4.2.drop 32)).bind fun q5 => if 32 < q5.1 then none else (rdN (2 * q5.1) q5.2).bind fun q6 => (rdT q6.2).map fun q7 =>
      (⟨id, t, false, q1.1, q2.1, (q3.1.getD 0 0 : Nat), (q3.1.getD 1 0 : Nat), q4.1, q4.2.take 32, pairs q6.1, q7.1⟩, q7.2)
theorem rdD_ch (id : List Nat) (t : Nat) (b : List Nat) : rdD id t b = chD id t b := by
  unfold rdD chD
  cases h1 : rdU b with
  | none => rfl
  | some q1 =>
  obtain ⟨a1, L1⟩ := q1
  simp only [Option.bind_eq_bind, Option.bind_some]
  cases h2 : rdT L1 with
  | none => rfl
  | some q2 =>
  obtain ⟨a2, L2⟩ := q2
  simp only [Option.bind_some]
  rw [show rdN 2 L2 = (rdU L2).bind fun q => (rdN 1 q.2).map fun r => (q.1 :: r.1, r.2) from rfl]
  cases h3 : rdU L2 with
  | none => rfl
  | some q3 =>
  obtain ⟨a3, L3⟩ := q3
  simp only [Option.bind_some]
  rw [show rdN 1 L3 = (rdU L3).bind fun q => (rdN 0 q.2).map fun r => (q.1 :: r.1, r.2) from rfl]
  cases h4 : rdU L3 with
  | none => rfl
  | some q4 =>
  obtain ⟨a4, L4⟩ := q4
  simp only [Option.bind_some, rdN, Option.map_some]
  cases h5 : rdT L4 with
  | none => rfl
  | some q5 =>
  obtain ⟨a5, L5⟩ := q5
  simp only [Option.bind_some]
  by_cases hl : L5.length < 32
  · rw [if_pos hl, if_pos hl]
  rw [if_neg hl, if_neg hl]
  cases h6 : rdU (L5.drop 32) with
  | none => rfl
  | some q6 =>
  obtain ⟨n, L6⟩ := q6
  simp only [Option.bind_some]
  by_cases hn : 32 < n
  · rw [if_pos hn, if_pos hn]
  rw [if_neg hn, if_neg hn, rdPs_rdN]
  cases h7 : rdN (2 * n) L6 with
  | none => rfl
  | some q7 =>
  obtain ⟨ps, L7⟩ := q7
  simp only [Option.bind_some, Option.map_some]
  cases h8 : rdT L7 with
  | none => rfl
  | some q8 => rfl
section
variable {po : Option Addr} {w w' : World} {v : Value} {d : List Nat} (h : SLn po w v d) (hl : d.length ≤ 100000) (h8 : ∀ x ∈ d, x < 256)
include h
theorem SLn.off {g : Nat} (hP : ∀ a, po = some a → a.block ≠ g) (ho : Only (fun b => b = g) w w') : SLn po w' v d := by
  obtain ⟨⟨p, c, rfl, hb, hc⟩, hn⟩ := h
  refine ⟨⟨p, c, rfl, hb.onlyAt ho (fun hne a ha e => ?_), hc⟩, hn⟩
  obtain ⟨a', h1, h2⟩ := hn a _ _ (by rw [ha])
  exact hP a' h1 (h2 ▸ e)
include hl h8
theorem SLn.uint : Calls Tryz.prog 44 #[v] w (RuN po w (rdU d)) := by
  obtain ⟨⟨p, c, rfl, hb, hc⟩, hn⟩ := h
  refine (rReadUint_near p c d w hb hc hl h8).mono ?_
  rintro e w' ⟨hb', hm⟩
  refine ⟨hb', ?_⟩
  cases hq : rdU d with
  | none => rw [hq] at hm; exact hm
  | some q =>
    obtain ⟨n, r⟩ := q
    rw [hq] at hm
    obtain ⟨v', e1, e2⟩ := hm
    exact ⟨v', e1, e2.via fun a' ea => hn a' _ _ (by rw [ea])⟩
theorem SLn.text : Calls Tryz.prog 60 #[v] w (RtN po w (rdT d)) := by
  obtain ⟨⟨p, c, rfl, hb, hc⟩, hn⟩ := h
  refine (rReadText_near p c d w hb hc hl h8).mono ?_
  rintro e w' ⟨hb', hm⟩
  refine ⟨hb', ?_⟩
  cases hq : rdT d with
  | none => rw [hq] at hm; exact hm
  | some q =>
    obtain ⟨x, r⟩ := q
    rw [hq] at hm
    obtain ⟨t, v', e1, e2, e3⟩ := hm
    exact ⟨t, v', e1, e2, e3.via fun a' ea => hn a' _ _ (by rw [ea])⟩
theorem SLn.nums (n : Nat) (hn2 : n ≤ 1000) : Calls Tryz.prog 84 #[v, i64 n] w (NuS po w (rdN n d)) := by
  obtain ⟨⟨p, c, rfl, hb, hc⟩, hn⟩ := h
  refine (rnum_any p c d w hb hc hl h8 n hn2).mono ?_
  rintro e w' ⟨hb', hm⟩
  refine ⟨hb', ?_⟩
  cases hq : rdN n d with
  | none => rw [hq] at hm; exact hm
  | some q =>
    obtain ⟨xs, r⟩ := q
    rw [hq] at hm
    obtain ⟨v', u, e1, e2, e3⟩ := hm
    exact ⟨v', u, e1, e2, e3.via fun a' ea => hn a' _ _ (by rw [ea])⟩
end
/-- A record's block; of what was there nothing else has turned. -/
structure DB (w0 : World) (g : Nat) (r : Rv) (w : World) : Prop where
  ok : r.ok
  rb : RBox w g r
  only : Only (fun b => b = g) w0 w
section
variable {w0 w w' : World} {g : Nat} {r r' : Rv} (h : DB w0 g r w)
include h
theorem DB.below (hb : Below w.heap.size w w') : DB w0 g r w' := ⟨h.ok, h.rb.below h.ok hb, h.only.trans (Only.of_below hb)⟩
theorem DB.turn (hr : RBox w' g r') (hk : r'.ok) (ho : Only (fun b => b = g) w w') : DB w0 g r' w' := ⟨hk, hr, h.only.trans ho⟩
theorem DB.grow {S : Nat → Prop} (ho : Only S w w') (hS : ∀ i, S i → g ≠ i ∧ w0.heap.size ≤ i) : DB w0 g r w' := ⟨h.ok, h.rb.only h.ok ho (fun e => (hS g e).1 rfl), h.only.then ho (fun i hi e => by have := (hS i e).2; omega)⟩
theorem DB.set3 (n : Int) : DB w0 g { r with size := n } (w.setCell ⟨g, 3, none⟩ (i64 n)) := h.turn (h.rb.set3 h.ok n) ⟨h.ok.sl, h.ok.s8, h.ok.i, h.ok.e, h.ok.d, h.ok.u⟩ (Only.set w _ _ rfl)
theorem DB.set4 (t : ByteArray) (ht : t.size ≤ 65536) : DB w0 g { r with etag := t } (w.setCell ⟨g, 4, none⟩ (.string t)) := h.turn (h.rb.set4 h.ok t (by omega)) ⟨h.ok.sl, h.ok.s8, h.ok.i, by show t.size ≤ _; omega, h.ok.d, h.ok.u⟩ (Only.set w _ _ rfl)
theorem DB.set5 (n : Int) : DB w0 g { r with k := n } (w.setCell ⟨g, 5, none⟩ (i64 n)) := h.turn (h.rb.set5 h.ok n) ⟨h.ok.sl, h.ok.s8, h.ok.i, h.ok.e, h.ok.d, h.ok.u⟩ (Only.set w _ _ rfl)
theorem DB.set6 (n : Int) : DB w0 g { r with m := n } (w.setCell ⟨g, 6, none⟩ (i64 n)) := h.turn (h.rb.set6 h.ok n) ⟨h.ok.sl, h.ok.s8, h.ok.i, h.ok.e, h.ok.d, h.ok.u⟩ (Only.set w _ _ rfl)
theorem DB.set7 (t : ByteArray) (ht : t.size ≤ 65536) : DB w0 g { r with data := t } (w.setCell ⟨g, 7, none⟩ (.string t)) := h.turn (h.rb.set7 h.ok t (by omega)) ⟨h.ok.sl, h.ok.s8, h.ok.i, h.ok.e, by show t.size ≤ _; omega, h.ok.u⟩ (Only.set w _ _ rfl)
theorem DB.set40 (v : Value) : DB w0 g { r with pv := v } (w.setCell ⟨g, 40, none⟩ v) := h.turn (h.rb.set40 h.ok v) ⟨h.ok.sl, h.ok.s8, h.ok.i, h.ok.e, h.ok.d, h.ok.u⟩ (Only.set w _ _ rfl)
theorem DB.set41 (t : ByteArray) (ht : t.size ≤ 65536) : DB w0 g { r with up := t } (w.setCell ⟨g, 41, none⟩ (.string t)) := h.turn (h.rb.set41 h.ok t (by omega)) ⟨h.ok.sl, h.ok.s8, h.ok.i, h.ok.e, h.ok.d, by show t.size ≤ _; omega⟩ (Only.set w _ _ rfl)
/-- copy(r.Sum[:], b[:32]) -/
theorem DB.copy {po : Option Addr} {x : List Nat} (hb : BL w po x) (hx : x.length = 32) (h8 : ∀ z ∈ x, z < 256) (c : Nat) (ty : TypeId) :
    (Builtin.copy_ #[28, 28] ty #[.slice (some ⟨g, 8, none⟩) 32 32, .slice po 32 c]).run Tryz.prog w = .ok (goInt 32) (w.setCells g 8 (x.map u8)) ∧ DB w0 g { r with sum := x } (w.setCells g 8 (x.map u8)) := by
  refine ⟨?_, h.turn (h.rb.setSum h.ok x hx h8) ⟨hx, h8, h.ok.i, h.ok.e, h.ok.d, h.ok.u⟩ (only_setCells _ _ _ _ rfl)⟩
  rcases hb with rfl | ⟨b, o, rfl, hb⟩
  · simp at hx
  have := run_copy_cells (P := Tryz.prog) w 28 28 ty 5 g 8 32 32 ⟨b, o, none⟩ 32 c (x.map u8) Tryz.underlying28 (by kernel_rfl) (by simp [hx])
    (fun j v hj => by
      have hjn : j < x.length := by
        rcases Nat.lt_or_ge j x.length with q | q
        · exact q
        · rw [List.getElem?_eq_none (by simpa using q)] at hj; cases hj
      rw [add_none, hb j hjn]
      simp [hjn] at hj
      rw [← hj]; simp [List.getD, hjn])
    (fun j hj => by
      have hj' : j < 32 := by simpa [hx] using hj
      rw [h.rb.cs j _ (sumC_get (by rw [h.ok.sl]; exact hj'))]; rfl)
    (fun j _ => h.rb.free _)
    (fun v hv => by obtain ⟨i, _, rfl⟩ := List.mem_map.1 hv; rfl)
  simp only [List.length_map, hx] at this
  exact this
end
theorem txt_size {t : ByteArray} {b s r : List Nat} (h8 : ∀ x ∈ b, x < 256) (h : rdT b = some (s, r)) (e : lst t = s) : t.size ≤ 65536 := by
  rw [← lst_len, e]; exact (rdT_some h8 h).2
/-- The cells of a row of ints. -/
theorem IBuf.open_ {B : Nat} {w : World} {v : Value} {xs : List Nat} (h : IBuf B w v xs) (hne : xs ≠ []) : ∃ gi c, v = .slice (some ⟨gi, 0, none⟩) xs.length c ∧ xs.length ≤ c ∧ B ≤ gi ∧ gi < w.heap.size ∧ ∀ i, i < xs.length → w.cell? ⟨gi, i, none⟩ = some (i64 ((xs.getD i 0 : Nat) : Int)) := by
  rcases h.2 with ⟨_, h0⟩ | ⟨g, cap, cur, rfl, hB, hg, h1, _, h3, h4⟩
  · exact absurd (List.eq_nil_of_length_eq_zero h0) hne
  · have hc : CAt w g cur 3 := hg
    refine ⟨g, cap, rfl, h1, hB, hc.lt, fun i hi => ?_⟩
    have := congrArg (fun l => l[i]?) h4
    simp [hi] at this
    rw [hc.cell, this]
    simp [List.getD, hi]
theorem pairs_take : ∀ (xs : List Nat) (k : Nat), 2 * k + 1 < xs.length → pairs (xs.take (2 * (k + 1))) = pairs (xs.take (2 * k)) ++ [(((xs.getD (2 * k) 0 : Nat) : Int), ((xs.getD (2 * k + 1) 0 : Nat) : Int))]
  | a :: b :: r, 0, _ => by simp [pairs]
  | a :: b :: r, k + 1, h => by
    have ih := pairs_take r k (by simp at h; omega)
    rw [show 2 * (k + 1 + 1) = 2 * (k + 1) + 1 + 1 by omega, show 2 * (k + 1) = 2 * k + 1 + 1 by omega] at *
    simp only [List.take_succ_cons, pairs, ih, List.cons_append, List.getD_cons_succ]
  | [a], k, h => by simp at h
  | [], k, h => by simp at h
theorem pairs_len : ∀ (n : Nat) (xs : List Nat), xs.length = 2 * n → (pairs xs).length = n
  | 0, xs, h => by have : xs = [] := List.eq_nil_of_length_eq_zero (by omega); subst this; rfl
  | n + 1, xs, h => by
    match xs, h with
    | a :: b :: r, h => simp only [pairs, List.length_cons, pairs_len n r (by simp at h; omega)]
    | [a], h => simp at h; omega
    | [], h => simp at h
end Go.Proofs.YtelkijiphhoacaaGreatDoor
