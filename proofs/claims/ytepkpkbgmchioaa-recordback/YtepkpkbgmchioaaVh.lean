/- Contracts of the document's ReadText; of SameBytes and CopyBytes of the statements' kit. -/
import Derived.Test.YtepkpkbgmchioaaVg
namespace Go.Proofs.Ytepkpkbgmchioaa
open Go Go.RowKit

def RtS (w : World) (q : Option (List Nat × List Nat)) (e : Ending) (w' : World) : Prop := Below w.heap.size w w' ∧ match q with
  | none => e = .returned (.tuple #[.string ⟨#[]⟩, .slice none 0 0, .bool false])
  | some (x, r) => ∃ t v, e = .returned (.tuple #[.string t, v, .bool true]) ∧ lst t = x ∧ SL w' v r
theorem run_h8 (po : Option Addr) (n c h : Nat) (hh : h ≤ c) (w : World) : (Instr.slice 22 (.slice po n c) none (some (.int .i64 (h : Int))) none).run Try.prog w = .ok (.slice po h c) w := by
  rw [run_slice_h (P := Try.prog) w 22 po n c underE8 .i64 (h : Int) (by omega) (by omega), elem8]
  cases po with
  | none => simp [Result.andThen, sliced]
  | some a =>
    by_cases h0 : c = 0
    · simp [Result.andThen, sliced, h0]
    · simp [Result.andThen, sliced, h0, add_zero']
theorem rdU_less {bs : List Nat} (h8 : ∀ x ∈ bs, x < 256) {n : Nat} {r : List Nat} (h : rdU bs = some (n, r)) : r.length ≤ bs.length ∧ (∀ x ∈ r, x < 256) ∧ n ≤ 1099511627776 := by
  obtain ⟨e, hn⟩ := rdU_some h8 h
  rw [e] at h8 ⊢
  exact ⟨by simp, (sub256 h8).2, hn⟩
set_option maxRecDepth 100000 in
set_option maxHeartbeats 1000000 in
theorem rReadText_any (po : Option Addr) (c0 : Nat) (bs : List Nat) (w : World) (h : BL w po bs) (hc0 : bs.length ≤ c0) (hn : bs.length ≤ 100000) (h8 : ∀ x ∈ bs, x < 256) :
    Calls Try.prog 18 #[.slice po bs.length c0] w (RtS w (rdT bs)) := by
  have hu := rReadUint_any po c0 bs w h hc0 hn h8
  cases hq : rdU bs with
  | none =>
    rw [hq] at hu
    have HT : Hid (rdT bs = none) := hid (by unfold rdT; rw [hq])
    clear hq h h8
    go_enter Try.func18, Try.ntmps18
    go_wp2_with (go_at_call 17; refine hu.mono ?_; rintro e w1 ⟨hb1, he⟩; simp only at he; subst he)
    go_ret3
    exact ⟨hb1, by rw [HT.out]; rfl⟩
  | some q =>
    obtain ⟨n, r⟩ := q
    rw [hq] at hu
    have HL := hid (rdU_less h8 hq)
    have HT : Hid (rdT bs = if n ≤ 65536 ∧ n ≤ r.length then some (r.take n, r.drop n) else none) := hid (by unfold rdT; rw [hq])
    clear hq h h8
    by_cases h1 : n ≤ 65536
    · by_cases h2 : n ≤ r.length
      · have h1' : ¬ 65536 < (n : Int) := by omega
        have h2' : ¬ (r.length : Int) < (n : Int) := by omega
        go_enter Try.func18, Try.ntmps18
        go_wp2_with (go_at_call 17; refine hu.mono ?_; rintro e w1 ⟨hb1, v1, he, hs⟩; subst he; obtain ⟨po1, c1, rfl, hbl, hcc⟩ := hs; have hhead := run_h8 po1 r.length c1 n (by omega); obtain ⟨p2, hfrom, hS⟩ := hbl.from8 c1 n h2 hcc; have HS := hid hS; have hcv := ((hbl.take n).below (Below.refl w1.heap.size w1).drew).conv c1; rw [show (r.take n).length = n by rw [List.length_take]; omega] at hcv; have HB1 := hid hb1; clear hS hb1 hbl)
        go_region
        go_wp2
        go_ret3
        refine ⟨HB1.out.drew, ?_⟩
        rw [HT.out, if_pos ⟨h1, h2⟩]
        exact ⟨_, _, rfl, lst_ba fun x hx => HL.out.2.1 x (List.mem_of_mem_take hx), HS.out.below (Below.refl _ _).drew⟩
      · have h1' : ¬ 65536 < (n : Int) := by omega
        have h2' : (r.length : Int) < (n : Int) := by omega
        go_enter Try.func18, Try.ntmps18
        go_wp2_with (go_at_call 17; refine hu.mono ?_; rintro e w1 ⟨hb1, v1, he, hs⟩; subst he; obtain ⟨po1, c1, rfl, hbl, hcc⟩ := hs; have HB1 := hid hb1; clear hb1 hbl)
        go_ret3
        exact ⟨HB1.out, by rw [HT.out, if_neg (fun h => h2 h.2)]; rfl⟩
    · have h1' : 65536 < (n : Int) := by omega
      go_enter Try.func18, Try.ntmps18
      go_wp2_with (go_at_call 17; refine hu.mono ?_; rintro e w1 ⟨hb1, v1, he, hs⟩; subst he; obtain ⟨po1, c1, rfl, hbl, hcc⟩ := hs; have HB1 := hid hb1; clear hb1 hbl)
      go_ret3
      exact ⟨HB1.out, by rw [HT.out, if_neg (fun h => h1 h.1)]; rfl⟩
theorem sameB_any {w : World} {u v : Value} {x y : List Nat} (hu : SL w u x) (hv : SL w v y) (hx : ∀ z ∈ x, z < 256) (hy : ∀ z ∈ y, z < 256) :
    Calls Try.prog 11 #[u, v] w fun e w' => e = .returned (.bool (decide (x = y))) ∧ w' = w := by
  obtain ⟨p, c, rfl, hp, _⟩ := hu
  obtain ⟨q, d, rfl, hq, _⟩ := hv
  have h1 := hp.conv c
  have h2 := hq.conv d
  have h3 := lst_beq (ba x) (ba y)
  rw [lst_ba hx, lst_ba hy] at h3
  generalize ba x = X at *
  generalize ba y = Y at *
  clear hp hq hx hy
  go_enter Try.func11, Try.ntmps11
  go_wp2
  go_ret
  exact ⟨by first | rfl | (rw [h3]; rfl) | simp [h3], rfl⟩
theorem OutB.sl {B : Nat} {w : World} {v : Value} {bs : List Nat} (h : OutB B w v bs) : SL w v bs := by
  obtain ⟨po, h1, h2, _⟩ := h.form; exact ⟨po, _, h1, h2, Nat.le_refl _⟩
theorem Buf.sl {B : Nat} {w : World} {v : Value} {bs : List Nat} (h : Buf B w v bs) : SL w v bs := by
  obtain ⟨po, c, rfl⟩ := h.form; exact ⟨po, c, rfl, h.bl, h.cap.2⟩
theorem Buf.made0 (w : World) (B : Nat) (hB : B ≤ w.heap.size) : Buf B (w.alloc (.cells #[] 5)) (.slice (some ⟨w.heap.size, 0, none⟩) 0 0) [] := World.ownsRow_made w #[] 0 hB (by unfold maxLen; omega) (by simp)
theorem copyB_any {w : World} {v : Value} {x : List Nat} (hv : SL w v x) (hn : x.length ≤ 1000000) (hnil : ∀ n c, v = .slice none n c → c = 0) : Calls Try.prog 33 #[v] w (BufS w.heap.size w x) := by
  obtain ⟨p, c, rfl, hp, _⟩ := hv
  obtain ⟨v', w', hr, hb, hg⟩ := (Buf.made0 w w.heap.size (Nat.le_refl _)).app p c x (hp.below (below_al _ _)) (fun e => by subst e; exact hnil _ _ rfl) (by simp; omega) (by rw [size_al]; omega)
  have HRUN := hid hr
  clear hr
  go_enter Try.func33, Try.ntmps33
  go_wp2_with (at_builtin; refine wpList_append_run _ _ 22 22 rfl rfl _ _ _ rfl rfl HRUN.out ?_)
  go_ret
  exact ⟨v', rfl, by simpa using hb, below_grown (below_al _ _) hg (Nat.le_refl _) (fun b hb => by cases hb; exact Nat.le_refl _)⟩
#print axioms rReadText_any
#print axioms copyB_any
end Go.Proofs.Ytepkpkbgmchioaa
