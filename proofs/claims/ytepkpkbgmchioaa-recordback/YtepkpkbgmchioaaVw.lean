/- What is appended turns nothing else; numbers and texts laid behind bytes once more, by this. -/
import Derived.Test.YtepkpkbgmchioaaVi
namespace Go.Proofs.Ytepkpkbgmchioaa
open Go Go.RowKit

/-- From w0 on the bytes v0 have been appended to: they are L at v now; nothing else that was there has turned. -/
structure AppZ (B : Nat) (v0 : Value) (w0 : World) (L : List Nat) (v : Value) (w : World) : Prop where
  buf : Buf B w v L
  only : Only (fun b => v0.ownBlock = some b) w0 w
  own : ∀ b, v.ownBlock = some b → v0.ownBlock = some b ∨ w0.heap.size ≤ b
theorem AppZ.refl {B : Nat} {v : Value} {w : World} {L : List Nat} (h : Buf B w v L) : AppZ B v w L v w := ⟨h, Only.refl _ _, fun _ h => Or.inl h⟩
theorem AppZ.trans {B : Nat} {v0 v1 v2 : Value} {w0 w1 w2 : World} {L M : List Nat} (h : AppZ B v0 w0 L v1 w1) (k : AppZ B v1 w1 M v2 w2) : AppZ B v0 w0 M v2 w2 :=
  ⟨k.buf, h.only.then k.only fun i hi e => (h.own i e).elim id fun q => by omega, fun b hb => (k.own b hb).elim (h.own b) fun q => Or.inr (Nat.le_trans h.only.size q)⟩
theorem AppZ.below {B : Nat} {v0 v : Value} {w0 w w' : World} {L : List Nat} (h : AppZ B v0 w0 L v w) (hb : Below w.heap.size w w') : AppZ B v0 w0 L v w' :=
  ⟨h.buf.below hb, h.only.trans (Only.of_below hb), h.own⟩
theorem AppZ.start {B : Nat} {v0 v : Value} {w0 w1 w : World} {L : List Nat} (hb : Below w0.heap.size w0 w1) (h : AppZ B v0 w1 L v w) : AppZ B v0 w0 L v w :=
  ⟨h.buf, (Only.of_below hb).trans h.only, fun b e => (h.own b e).imp id fun q => by have := hb.size; omega⟩
theorem Buf.appZ {B : Nat} {w : World} {v : Value} {L : List Nat} (hv : Buf B w v L) (po : Option Addr) (c : Nat) (bs : List Nat) (hb : BL w po bs) (hc : po = none → c = 0) (hn : L.length + bs.length ≤ 2000000) (hB : B ≤ w.heap.size) :
    ∃ v' w', (Builtin.append_ #[22, 22] 22 #[v, .slice po bs.length c]).run Try.prog w = .ok v' w' ∧ AppZ B v w (L ++ bs) v' w' := by
  obtain ⟨i0, hi0, hz0, hz1, hz2⟩ := info_parts Try.info5
  cases po with
  | none =>
    have : bs = [] := by rcases hb with h | ⟨b, o, h, _⟩
                         · exact h
                         · cases h
    subst this
    obtain rfl := hc rfl
    exact ⟨v, w, run_append_owned_none (P := Try.prog) (w := w) B 22 22 5 i0 1 Try.underlying22 hi0 v _ _ hv, by rw [List.append_nil]; exact AppZ.refl hv⟩
  | some a =>
    obtain ⟨v', w', hr, h2, h3, _, h4⟩ := run_append_own_at (P := Try.prog) w B 22 22 5 i0 (.int .u8 0) 1 1 Try.underlying22 hi0 hz0 hz1 hz2 rfl (by decide) v L.length (L.map u8) hv a bs.length c (bs.map u8) (by simp) (fun j u hj => by
        have hjl : j < bs.length := by
          rcases Nat.lt_or_ge j bs.length with q | q
          · exact q
          · rw [List.getElem?_eq_none (by simpa using q)] at hj; cases hj
        have e : u = u8 (bs.getD j 0) := by simp [hjl] at hj; rw [← hj]; simp [List.getD, hjl]
        rcases hb with h | ⟨b, o, e2, h⟩
        · subst h; simp at hjl
        · cases e2
          rw [add_none, e]; exact h j hjl) (by intro u hu; simp at hu; obtain ⟨k, _, rfl⟩ := hu; rfl) (by unfold maxLen; omega) (by omega) hB
    refine ⟨v', w', hr, ?_, Only.of_grown h3 fun k e _ => e, fun b e => ?_⟩
    · unfold Buf; rw [List.length_append, List.map_append]; exact h2
    · rcases h4 with h4 | h4
      · exact Or.inl (h4 ▸ e)
      · rw [h4] at e; cases e; exact Or.inr (Nat.le_refl _)
theorem Buf.pushZ {B : Nat} {w : World} {v : Value} {L : List Nat} (hv : Buf B w v L) (k : Nat) (hn : L.length + 1 ≤ 2000000) (hB : B ≤ w.heap.size) :
    ∃ v' w', (Builtin.append_ #[22, 22] 22 #[v, .slice (some ⟨w.heap.size, 0, none⟩) 1 1]).run Try.prog (w.alloc (.cells #[u8 k] 5)) = .ok v' w' ∧ AppZ B v w (L ++ [k]) v' w' := by
  have h2 := hv.below (below_al w (.cells #[u8 k] 5))
  have hc : CAt (w.alloc (.cells #[u8 k] 5)) w.heap.size #[u8 k] 5 := CAt.made w _ _
  obtain ⟨v', w', h3, h4⟩ := h2.appZ (some ⟨w.heap.size, 0, none⟩) 1 [k] (Or.inr ⟨w.heap.size, 0, rfl, fun i hi => by
    have : i = 0 := by simpa using hi
    subst this; rw [Nat.zero_add, hc.cell]; rfl⟩) (by simp) (by simpa using hn) (by rw [size_al]; omega)
  exact ⟨v', w', h3, AppZ.start (below_al w _) h4⟩
theorem appS_where {B : Nat} {w : World} {v : Value} {L : List Nat} (hv : Buf B w v L) (s : ByteArray) (hn : L.length + s.size ≤ 2000000) {v' : Value} {w' : World} (hr : (Builtin.append_ #[22, 9] 22 #[v, .string s]).run Try.prog w = .ok v' w') :
    v'.ownBlock = v.ownBlock ∨ v'.ownBlock = some w.heap.size := by
  obtain ⟨i0, hi0, hz0, hz1, hz2⟩ := info_parts Try.info5
  have hv0 : w.ownsRow B 5 1 v L.length (L.map u8) := hv
  rcases hv0.2 with ⟨rfl, hl⟩ | ⟨g, cap, cur, rfl, hbg, hg, hnc, hcm, hcs, htake⟩
  · by_cases hm : s.size = 0
    · have hf := Lib.run_firstCells_string (P := Try.prog) w 1 s
      rw [hm] at hf
      have h2 : (Builtin.append_ #[22, 9] 22 #[.slice none 0 0, .string s]).run Try.prog w = .ok (.slice none 0 0) w := by
        simp [Builtin.append_, run_underlying Try.underlying22, run_underlying Try.underlying9, sizeOf, typeInfo, hi0, hz1, Builtin.lenOf, hm, hf]
      rw [h2] at hr; cases hr; exact Or.inl rfl
    · have h2 := run_append_nil_string (P := Try.prog) w 22 9 22 5 i0 (.int .u8 0) Try.underlying22 Try.underlying9 hi0 hz0 s (by omega) (by omega) (by rw [hz2]; omega)
      rw [h2] at hr; cases hr; exact Or.inr rfl
  · by_cases hroom : L.length + s.size ≤ cap
    · have h2 := Lib.run_append_room_string (P := Try.prog) w 22 9 22 5 i0 Try.underlying22 Try.underlying9 hi0 hz1 g L.length cap cur hg s hroom (by omega)
      rw [h2] at hr; cases hr; exact Or.inl rfl
    · have holds : ∀ j u, (L.map u8)[j]? = some u → w.cell? ((⟨g, 0, none⟩ : Addr).add j) = some u := hv0.cells (g := g) rfl
      have h2 := Lib.run_append_grow_string (P := Try.prog) w 22 9 22 5 i0 (.int .u8 0) Try.underlying22 Try.underlying9 hi0 hz0 ⟨g, 0, none⟩ L.length cap (L.map u8) (by rw [hz1]; simp) holds s (by omega) (by omega) (by rw [hz2]; exact growslice_fits (by omega) (by omega))
      rw [h2] at hr; cases hr; exact Or.inr rfl
theorem Buf.appSZ {B : Nat} {w : World} {v : Value} {L : List Nat} (hv : Buf B w v L) (s : ByteArray) (hn : L.length + s.size ≤ 2000000) (hB : B ≤ w.heap.size) :
    ∃ v' w', (Builtin.append_ #[22, 9] 22 #[v, .string s]).run Try.prog w = .ok v' w' ∧ AppZ B v w (L ++ lst s) v' w' := by
  obtain ⟨i0, hi0, hz0, hz1, hz2⟩ := info_parts Try.info5
  obtain ⟨v', w', hr, h2, h3, _⟩ := Lib.run_append_own_string (P := Try.prog) w B 22 9 22 5 i0 Try.underlying22 Try.underlying9 hi0 hz0 hz1 hz2 v L.length (L.map u8) hv s (by unfold maxLen; omega) (by omega) hB
  refine ⟨v', w', hr, ?_, Only.of_grown h3 fun k e _ => e, fun b e => ?_⟩
  · unfold Buf; rw [List.length_append, List.map_append, lst_len, ← strCells_lst]; exact h2
  · rcases appS_where hv s hn hr with h4 | h4
    · exact Or.inl (h4 ▸ e)
    · rw [h4] at e; cases e; exact Or.inr (Nat.le_refl _)
def ZS (B : Nat) (v : Value) (w : World) (L : List Nat) (e : Ending) (w' : World) : Prop := ∃ v', e = .returned v' ∧ AppZ B v w L v' w'
set_option maxRecDepth 100000 in
set_option maxHeartbeats 400000 in
theorem appNumZ (B : Nat) (L : List Nat) (v : Value) (n : Nat) (w : World) (hn : n ≤ 1099511627776) (hv : Buf B w v L) (hL : L.length ≤ 1000000) (hB : B ≤ w.heap.size) :
    Calls Try.prog 37 #[v, i64 n] w (ZS B v w (L ++ nb n)) := by
  have HV := hid hv
  have HN := hid (nb_le hn)
  have HB := hid hB
  clear hv hB
  go_enter Try.func37, Try.ntmps37
  go_wp2
  go_loopw [0, 1] (fun b i wr => ∃ (m : Nat) (L' : List Nat), m ≤ n ∧ i = i64 m ∧ L' ++ nb m = L ++ nb n ∧ AppZ B v w L' b wr) (fun b i _ => (intOf i).toNat)
  case atStart => exact ⟨n, L, Nat.le_refl _, rfl, rfl, AppZ.refl HV.out⟩
  case round =>
    obtain ⟨m, L', hm, rfl, hl, hb⟩ := hrel
    have HR := hid hb
    have HE := hid hl
    have hlen := congrArg List.length hl
    rw [List.length_append, List.length_append] at hlen
    have HLN := hid hlen
    have HSZ := hid (show B ≤ wr.heap.size by have := hb.only.size; have := HB.out; omega)
    clear hb hl hlen
    by_cases hlt : (128 : Int) ≤ (m : Int)
    · have hp1 : L'.length + 1 ≤ 2000000 := by have := HLN.out; have := HN.out; omega
      obtain ⟨v', w', hr, hq⟩ := HR.out.buf.pushZ (m % 128 + 128) hp1 HSZ.out
      have HRUN := hid hr
      clear hr hp1
      have hor := or_128 m
      generalize hc : m % 128 + 128 = c at *
      have HC := hid hc
      clear hc
      go_wp2_with (at_builtin; refine wpList_append_run _ _ 22 22 rfl rfl _ _ _ rfl rfl HRUN.out ?_)
      refine ⟨⟨m / 128, L' ++ [c], by omega, by simp, ?_, HR.out.trans hq⟩, by simp [intOf]; omega⟩
      rw [← HE.out, nb_ge (n := m) (by omega), HC.out, List.append_assoc]; rfl
    · have hp1 : L'.length + 1 ≤ 2000000 := by have := HLN.out; have := HN.out; omega
      obtain ⟨v', w', hr, hq⟩ := HR.out.buf.pushZ m hp1 HSZ.out
      have HRUN := hid hr
      clear hr hp1
      go_wp2_with (at_builtin; refine wpList_append_run _ _ 22 22 rfl rfl _ _ _ rfl rfl HRUN.out ?_)
      go_ret
      have e : nb m = [m] := nb_lt (by omega)
      refine ⟨_, rfl, ?_⟩
      rw [← HE.out, e]; exact HR.out.trans hq
theorem appTextZ (B : Nat) (L : List Nat) (v : Value) (s : ByteArray) (w : World) (hn : s.size ≤ 65536) (hv : Buf B w v L) (hL : L.length ≤ 900000) (hB : B ≤ w.heap.size) :
    Calls Try.prog 38 #[v, .string s] w (ZS B v w (L ++ tb (lst s))) := by
  have HV := hid hv
  have HB := hid hB
  clear hv hB
  go_enter Try.func38, Try.ntmps38
  go_wp2_with (first
    | (go_at_call 37; refine (appNumZ B L _ s.size w (by omega) HV.out (by omega) HB.out).mono ?_; rintro e w1 ⟨v1, rfl, hb1⟩; have hlen := nb_le (n := s.size) (by omega); obtain ⟨v2, w2, hr, hb2⟩ := hb1.buf.appSZ s (by rw [List.length_append]; omega) (by have := hb1.only.size; have := HB.out; omega); have HRUN := hid hr; clear hr)
    | (at_builtin; refine wpList_append_run _ _ 22 9 rfl rfl _ _ _ rfl rfl HRUN.out ?_))
  go_ret
  refine ⟨v2, rfl, ?_⟩
  unfold tb; rw [lst_len, ← List.append_assoc]; exact hb1.trans hb2
#print axioms appTextZ
end Go.Proofs.Ytepkpkbgmchioaa
