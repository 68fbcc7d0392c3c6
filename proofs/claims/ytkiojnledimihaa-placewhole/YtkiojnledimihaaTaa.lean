/- Texts laid into one: the remark ahead of each part says what is proved there. -/
import Derived.Test.YtkiojnledimihaaPaa
import Derived.Test.YtkiojnledimihaaPab
import Derived.Test.YtkiojnledimihaaPac
import Derived.Test.YtkiojnledimihaaPad
import Derived.Test.YtkiojnledimihaaPae
import Derived.Test.YtkiojnledimihaaPaf
import Derived.Test.YtkiojnledimihaaPag
import Derived.Test.YtkiojnledimihaaPah
import Derived.Test.YtkiojnledimihaaPai
import Derived.Test.YtkiojnledimihaaPaj
import Derived.Test.YtkiojnledimihaaPak
import Derived.Test.YtkiojnledimihaaPal
/- Acts and bools that came in. -/
namespace Go.Proofs.Ytkiojnledimihaa
open Go Go.RowKit

section
variable {H : Type} {enc : TypeId × Value → H} {w : World} {held : Bool} {fuel : Nat}
theorem wf64 {k : Int} (h : (Lit.int .i64 k).wf = true) : -9223372036854775808 ≤ k ∧ k ≤ 9223372036854775807 := by
  simp [Lit.wf, IntKind.min, IntKind.max, IntKind.signed, IntKind.bits] at h; omega
end

end Go.Proofs.Ytkiojnledimihaa

/- Lent lists of texts, by lists; how long texts are; how often one is there. -/
namespace Go.Proofs.Ytkiojnledimihaa
open Go Go.RowKit Go.Shelf

/-- How often a text is in a list. -/
def cnT (ns : List Nm) (s : Nm) : Nat := ns.count s
set_option maxRecDepth 100000 in
theorem in13_any {w : World} {po : Option Addr} {ns : List Nm} (h : TxO w po ns) (c : Nat) (hn : ns.length ≤ 1000000) (s : Nm) :
    Calls Try.prog 22 #[.slice po ns.length c, sv s] w fun e w' => e = .returned (.int .i64 (cnT ns s : Int)) ∧ w' = w := by
  have H := hid (fun (j : Nat) (hj : j < ns.length) => h.cell hj)
  have HS : Hid (∀ j, j < ns.length → cnT (ns.take (j + 1)) s = cnT (ns.take j) s + if ns.getD j [] = s then 1 else 0) := hid (fun j hj => by
    unfold cnT
    rw [List.take_add_one, List.getElem?_eq_getElem hj, getD_in _ _ _ hj, List.count_append]
    simp [List.count_singleton])
  have HE : Hid (cnT (ns.take ns.length) s = cnT ns s) := hid (by rw [List.take_length])
  have HB : Hid (∀ j, cnT (ns.take j) s ≤ j) := hid (fun j => Nat.le_trans List.count_le_length (by rw [List.length_take]; omega))
  generalize cnT ns s = R at *
  clear h
  go_enter Try.func22, Try.ntmps22
  go_wp2
  go_loopg [5, 6] ns.length (fun gg q v wr => ∃ j : Nat, j ≤ ns.length ∧ ns.length - j ≤ gg ∧ q = .int .i64 (cnT (ns.take j) s : Int) ∧ v = .int .i64 (j : Int) ∧ Hid (w = wr))
  case atStart => exact ⟨0, Nat.zero_le _, by omega, rfl, rfl, hid rfl⟩
  case round =>
    obtain ⟨j, hj, hgg, rfl, rfl, BW⟩ := hrel
    have hwr := BW.out
    subst hwr
    clear BW
    have hbj := HB.out j
    by_cases hjl : j < ns.length
    · have hjl' : (j : Int) < (ns.length : Int) := by omega
      obtain ⟨b, o, hp, z1⟩ := H.out j hjl
      subst hp
      have HS1 := hid (HS.out j hjl)
      clear HS HE HB H
      generalize cnT (ns.take j) s = m at *
      generalize ns.getD j [] = x at *
      by_cases he : x = s
      · have HS2 := HS1.out
        rw [if_pos he] at HS2
        have HS3 := hid HS2
        subst he
        clear HS1 HS2
        go_wp2
        go_roundg (ns.length - (j + 1))
        case measure => omega
        case rel => exact ⟨j + 1, by omega, by omega, by rw [HS3.out]; go_num, by go_num, hid rfl⟩
      · have HS2 := HS1.out
        rw [if_neg he] at HS2
        have HS3 := hid HS2
        have hys : (x == s) = false := beq_eq_false_iff_ne.2 he
        clear HS1 HS2
        go_wp2
        go_roundg (ns.length - (j + 1))
        case measure => omega
        case rel => exact ⟨j + 1, by omega, by omega, by rw [HS3.out]; rfl, by go_num, hid rfl⟩
    · have hjl' : ¬ (j : Int) < (ns.length : Int) := by omega
      have e : j = ns.length := by omega
      subst e
      have HE2 := HE.out
      rw [HE2] at hbj ⊢
      clear HS HE HB H HE2
      go_wp2
      go_ret
      exact ⟨rfl, rfl⟩
end Go.Proofs.Ytkiojnledimihaa

/- Texts, and lists of texts, that came in. -/
namespace Go.Proofs.Ytkiojnledimihaa
open Go Go.RowKit Go.Shelf

def IsTx (w : World) (v : Value) (ns : List Nm) : Prop := ∃ po c, v = .slice po ns.length c ∧ ns.length ≤ maxLen ∧ TxO w po ns ∧ (∀ x ∈ ns, x.length ≤ maxLen) ∧ Rm po ns.length c
section
variable {H : Type} {enc : TypeId × Value → H} {w : World} {held : Bool} {fuel : Nat}
theorem tx_read13 {cs : List Value} {x : DataW H × List MemPlace} (h : DataW.trod enc Try.prog w 0 (fun _ => true) held fuel 30 cs = some x) : ∃ v ns, cs = [v] ∧ IsTx w v ns := by
  obtain ⟨po, c, ns, hcs, ht, hl⟩ := texts_read10 h
  have hn := slice_len Try.underlying30 (by rw [← hcs]; exact h)
  exact ⟨_, ns, hcs, po, c, rfl, hn.1, ht, hl, hn.2.1, fun e => (hn.2.2 e).2⟩
end
end Go.Proofs.Ytkiojnledimihaa

/- The mathematics of parts and merged lists. -/
namespace Go.Proofs.Ytkiojnledimihaa
open Go Go.RowKit Go.Shelf

theorem cnt_ptS (ns : List Nm) (n j : Nat) (x : Nm) : (ptS ns n j).count x = if stN x n = j then ns.count x else 0 := by
  unfold ptS
  split
  · rename_i h
    rw [List.count_filter]
    simp [h]
  · rename_i h
    rw [List.count_eq_zero]
    intro hm
    have := (List.mem_filter.1 hm).2
    exact h (by simpa using this)
theorem mem_ptS {ns : List Nm} {n j : Nat} {x : Nm} : x ∈ ptS ns n j ↔ x ∈ ns ∧ stN x n = j := by
  unfold ptS; rw [List.mem_filter]; simp
theorem cnt_nodup : ∀ {L : List Nm} {x : Nm}, L.Nodup → x ∈ L → L.count x = 1
  | y :: r, x, hn, hm => by
    rw [List.nodup_cons] at hn
    rw [List.count_cons]
    by_cases e : y = x
    · subst e
      rw [List.count_eq_zero.2 hn.1]; simp
    · rw [cnt_nodup hn.2 ((List.mem_cons.1 hm).resolve_left fun h => e h.symm)]; simp [e]
theorem ssrt_nodup {L : List Nm} (h : SSrt L) : L.Nodup := List.Pairwise.imp (fun {_ _} h e => bb_ne h e) h
theorem wths_cnt {L : List Nm} {x : Nm} (h : x ∈ L) : (wths [] L).count x = 1 := by
  have hm : x ∈ wths [] L := by rw [wths_mem]; exact .inr h
  have hn := ssrt_nodup (wths_srt L [] (by simp [SSrt]))
  exact cnt_nodup hn hm
theorem wths_lt (L : List Nm) (i : Nat) (h0 : 0 < i) (hi : i < (wths [] L).length) : bytesBefore ((wths [] L).getD (i - 1) []) ((wths [] L).getD i []) = true := by
  have hs : SSrt (wths [] L) := wths_srt L [] (by simp [SSrt])
  have := List.pairwise_iff_getElem.1 hs (i - 1) i (by omega) hi (by omega)
  rw [getD_in _ _ _ (by omega), getD_in _ _ _ hi]
  exact this
end Go.Proofs.Ytkiojnledimihaa

/- PlaceParts, over the contracts of package place. -/
namespace Go.Proofs.Ytkiojnledimihaa
open Go Go.RowKit Go.Shelf

section
variable {w W W' : World} {g0 ga gb n i B2 : Nat} {va vb : Nat → Value} {ns : List Nm}
end
theorem ptS_len (ns : List Nm) (n j : Nat) : (ptS ns n j).length ≤ ns.length := List.length_filter_le _ _
end Go.Proofs.Ytkiojnledimihaa
