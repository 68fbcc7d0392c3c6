/- Rows that are appended one by one to a list that was nil; contracts of one, copied and Check of the document's own answer: as the program's; what was there is as it was. -/
import Derived.Test.YtapgdenodhcliaaMo
namespace Go.Proofs.Ytapgdenodhcliaa
open Go.RowKit

/-- n rows that the call has made: row i's value has length M i and capacity C i; of its block N i numbers are known. -/
structure OwnV (B : Nat) (w : World) (v : Value) (n : Nat) (G M C N Q : Nat → Nat) (Y : Nat → Nat → K) : Prop where
  top : w.ownsRow B 22 1 v n (vals n fun i => .slice (some ⟨G i, 0, none⟩) (M i) (C i))
  row : ∀ i, i < n → w.ownsRow B 5 1 (.slice (some ⟨G i, 0, none⟩) (N i) (Q i)) (N i) (vals (N i) fun j => kv (Y i j))
  inj : ∀ i j, i < n → j < n → G i = G j → i = j
theorem OwnV.start (B : Nat) (w : World) (G M C N Q : Nat → Nat) (Y : Nat → Nat → K) : OwnV B w (.slice none 0 0) 0 G M C N Q Y :=
  ⟨World.ownsRow_nil _ _ _ _, fun i hi => absurd hi (by omega), fun i j hi => absurd hi (by omega)⟩
theorem OwnV.push {B : Nat} {w w1 w4 : World} {v v' : Value} {n : Nat} {G M C N Q : Nat → Nat} {Y : Nat → Nat → K} {o : Obj} (h : OwnV B w v n G M C N Q Y) (hb : Below w.heap.size w w1) (g1 c1 q1 : Nat) (hg1 : w.heap.size ≤ g1)
    (hr : w1.ownsRow B 5 1 (.slice (some ⟨g1, 0, none⟩) (N n) q1) (N n) (vals (N n) fun j => kv (Y n j))) (hgrow : (w1.alloc o).grownBy w4 v.ownBlock) (hown : w4.ownsRow B 22 1 v' (n + 1) (vals n (fun i => .slice (some ⟨G i, 0, none⟩) (M i) (C i)) ++ [.slice (some ⟨g1, 0, none⟩) (M n) c1])) :
    OwnV B w4 v' (n + 1) (upd G n g1) M (upd C n c1) N (upd Q n q1) Y where
  top := by
    have e : vals n (fun i => .slice (some ⟨G i, 0, none⟩) (M i) (C i)) ++ [.slice (some ⟨g1, 0, none⟩) (M n) c1] = vals (n + 1) fun i => .slice (some ⟨upd G n g1 i, 0, none⟩) (M i) (upd C n c1 i) := by
      rw [vals_succ]
      congr 1
      · refine vals_congr (fun i hi => ?_)
        unfold upd; rw [if_neg (by omega), if_neg (by omega)]
      · unfold upd; rw [if_pos rfl, if_pos rfl]
    rw [e] at hown; exact hown
  row := fun i hi => by
    have htop : w1.ownsRow B 22 1 v n (vals n fun i => .slice (some ⟨G i, 0, none⟩) (M i) (C i)) := own_keepV h.top (fun b q => hb.block b (h.top.lt b q).2)
    have hk : ∀ b cr mr ys, w1.ownsRow B 5 1 (.slice (some ⟨b, 0, none⟩) mr cr) mr ys → w4.ownsRow B 5 1 (.slice (some ⟨b, 0, none⟩) mr cr) mr ys := fun b cr mr ys hh => by
      have h2 := hh.alloc o
      exact own_keep h2 (hgrow.block b (own_ge h2).2 (fun q => own_ne hh htop (by decide) rfl q.symm))
    by_cases e : i = n
    · subst e
      simp only [upd, if_true]
      exact hk _ _ _ _ hr
    · simp only [upd, if_neg e]
      exact hk _ _ _ _ (own_keep (h.row i (by omega)) (hb.block _ (own_ge (h.row i (by omega))).2))
  inj := fun i j hi hj q => by
    have hlt : ∀ i, i < n → G i < w.heap.size := fun i hi => (own_ge (h.row i hi)).2
    unfold upd at q
    by_cases e1 : i = n
    · by_cases e2 : j = n
      · omega
      · rw [if_pos e1, if_neg e2] at q; have := hlt j (by omega); omega
    · by_cases e2 : j = n
      · rw [if_neg e1, if_pos e2] at q; have := hlt i (by omega); omega
      · rw [if_neg e1, if_neg e2] at q; exact h.inj i j (by omega) (by omega) q
theorem OwnV.bound {B : Nat} {w w1 w4 : World} {v : Value} {n : Nat} {G M C N Q : Nat → Nat} {Y : Nat → Nat → K} {o : Obj} {w0 : World} (h : OwnV B w v n G M C N Q Y) (hb0 : Below B w0 w1) (hsz : B ≤ w1.heap.size) (hgrow : (w1.alloc o).grownBy w4 v.ownBlock) : Below B w0 w4 :=
  Below.grown (hb0.alloc hsz o) hgrow (by simp; omega) (fun b q => (h.top.lt b q).1)
theorem OwnV.toMat {B : Nat} {w : World} {v : Value} {n m : Nat} {G Q : Nat → Nat} {Y : Nat → Nat → K} (h : OwnV B w v n G (fun _ => m) Q (fun _ => m) Q Y) (hn : 0 < n) : ∃ g c, v = .slice (some ⟨g, 0, none⟩) n c ∧ OwnMat B w g c n m G Q Y := by
  obtain ⟨g, c, rfl, _⟩ := h.top.form hn
  exact ⟨g, c, rfl, h.top, h.row, h.inj⟩
theorem upd_const {α : Type} (a : α) (k : Nat) : upd (fun _ => a) k a = fun _ => a := by funext i; unfold upd; split <;> rfl
theorem OwnV.top_alloc {B : Nat} {w w1 : World} {v : Value} {n : Nat} {G M C N Q : Nat → Nat} {Y : Nat → Nat → K} (h : OwnV B w v n G M C N Q Y) (hb : Below w.heap.size w w1) (o : Obj) :
    (w1.alloc o).ownsRow B 22 1 v n (vals n fun i => .slice (some ⟨G i, 0, none⟩) (M i) (C i)) :=
  (own_keepV h.top (fun b q => hb.block b (h.top.lt b q).2)).alloc o
theorem news_one (w : World) (u : Value) : ∀ q x, [u][q]? = some x → (w.alloc (.cells #[u] 22)).cell? ((⟨w.heap.size, 0, none⟩ : Addr).add q) = some x :=
  World.news_of_block (cs := #[u]) (t := 22) (fr := (0, 0)) (heap_alloc_new _ _)

theorem on_row (w : World) (n i B : Nat) (hn : n ≤ 100) (hB : B ≤ w.heap.size) : (w.alloc (.cells ((madeCells #[.int .u8 0] n).setIfInBounds i (.int .u8 1)) 5)).ownsRow B 5 1 (.slice (some ⟨w.heap.size, 0, none⟩) n n) n (vals n fun j => kv (on i j)) := by
  have h := ((own_made w 5 (.int .u8 0) n B (by omega) hB).stored i (kv 1)).1
  rw [World.setCell_alloc_new, vals_set] at h
  rw [vals_congr (W := fun j => kv (on i j)) (fun j _ => by
    unfold upd on
    by_cases e : j = i
    · rw [if_pos e, if_pos e.symm]
    · rw [if_neg e, if_neg (fun q => e q.symm)]; rfl)] at h
  exact h

set_option maxRecDepth 100000 in
set_option maxHeartbeats 1000000 in
theorem rone_any (n : Nat) (w : World) (h0 : 1 ≤ n) (hn : n ≤ 32) :
    Calls Try.prog 56 #[.int .i64 n] w fun e w' => ∃ g c G, e = .returned (.slice (some ⟨g, 0, none⟩) n c) ∧ OwnMat w.heap.size w' g c n n G (fun _ => n) on ∧ Below w.heap.size w w' := by
  obtain ⟨i0, hi0, hz0, hz1, hz2⟩ := info_parts Try.info22
  go_enter Try.func56, Try.ntmps56
  go_wp2
  go_loopw [3, 4] (fun v x wr => ∃ i : Nat, ∃ G : Nat → Nat, i ≤ n ∧ x = .int .i64 i ∧ OwnV w.heap.size wr v i G (fun _ => n) (fun _ => n) (fun _ => n) (fun _ => n) on ∧ Below w.heap.size w wr) (fun _ x _ => (n - intOf x).toNat)
  case atStart => exact ⟨0, fun _ => 0, by omega, rfl, OwnV.start _ _ _ _ _ _ _ _, Below.refl _ _⟩
  case round =>
    obtain ⟨i, G, hi, rfl, hv, hb⟩ := hrel
    by_cases hlt : i < n
    · have hmk := run_make_u8 n (by omega) wr
      have hsz := hb.size
      have c1 : (wr.alloc (.cells (madeCells #[.int .u8 0] n) 5)).cell? ⟨wr.heap.size, i, none⟩ = some (.int .u8 0) := own_cell (V := fun _ => .int .u8 0) (own_made wr 5 (.int .u8 0) n wr.heap.size (by omega) (Nat.le_refl _)) i hlt
      have hb1 : Below wr.heap.size wr (wr.alloc (.cells ((madeCells #[.int .u8 0] n).setIfInBounds i (.int .u8 1)) 5)) := (Below.refl _ _).alloc (Nat.le_refl _) _
      have HT := hid (hv.top_alloc hb1 (.cells #[.slice (some ⟨wr.heap.size, 0, none⟩) n n] 22))
      have HN := hid (news_one (wr.alloc (.cells ((madeCells #[.int .u8 0] n).setIfInBounds i (.int .u8 1)) 5)) (.slice (some ⟨wr.heap.size, 0, none⟩) n n))
      have HR := hid (on_row wr n i w.heap.size (by omega) hsz)
      have HB1 := hid hb1
      have HV := hid hv
      have HB := hid hb
      clear hv hb hb1
      go_wp2_with (at_builtin; refine wpList_append_lies _ rfl _ _ 24 rfl w.heap.size 22 i0 (.slice none 0 0) 1 24 Try.underlying24 hi0 hz0 hz1 hz2 rfl (by omega) u3 i _ rfl HT.out ⟨wr.heap.size + 1, 0, none⟩ 1 1 [.slice (some ⟨wr.heap.size, 0, none⟩) n n] rfl rfl (by have := HN.out; simp only [World.size_alloc] at this; exact this) (by intro u hu; simp at hu; subst hu; rfl) (by omega) (by unfold maxLen; omega) (by omega) (by simp; omega) _ rfl ?_; intro gg cap w4 hown4 hgrow hat hlt4)
      have HX := hid (HV.out.push HB1.out wr.heap.size n n (Nat.le_refl _) HR.out hgrow hown4)
      have HBX := hid (HV.out.bound (HB.out.trans (HB1.out.mono hsz)) (by simp; omega) hgrow)
      rw [upd_const] at HX
      clear hown4 hgrow hat hlt4 HT HN HR HB1 HV HB hmk
      go_wp2
      go_roundw
      case rel => exact ⟨i + 1, _, by omega, by go_num, HX.out, HBX.out⟩
      case measure => simp [intOf]; omega
    · have e : i = n := by omega
      subst e
      obtain ⟨g, c, rfl, hm⟩ := hv.toMat (by omega)
      have HM := hid hm
      have HB := hid hb
      clear hv hb hm
      go_wp2
      go_ret
      exact ⟨g, c, G, rfl, HM.out, HB.out⟩
end Go.Proofs.Ytapgdenodhcliaa
