/- Contracts of LentBytes (once more, over whole blocks) and LentLists of the statements' kit: copies in new memory, each with three marked bytes behind it; what was there is as it was. -/
import Derived.Test.YtapgdenodhcliaaPc
namespace Go.Proofs.Ytapgdenodhcliaa
open Go.RowKit

/-- What a lent row reads as, its spare room with it. -/
def lentK (L : Nat) (x : Nat → K) (j : Nat) : K := if j < L then x j else kb (160 + j % 90)

/-- A row of N numbers in block g, which the call has made. -/
structure Mk (w wr : World) (g N : Nat) (x : Nat → K) : Prop where
  row : wr.ownsRow w.heap.size 5 1 (.slice (some ⟨g, 0, none⟩) N N) N (vals N fun c => kv (x c))
  bel : Below w.heap.size w wr
theorem Mk.congr {w wr : World} {g N : Nat} {x y : Nat → K} (h : Mk w wr g N x) (e : ∀ c, c < N → x c = y c) : Mk w wr g N y :=
  ⟨by have := h.row; rwa [vals_congr (W := fun c => kv (y c)) (fun c hc => by show kv (x c) = kv (y c); rw [e c hc])] at this, h.bel⟩
theorem Mk.set {w wr : World} {g N : Nat} {x : Nat → K} (h : Mk w wr g N x) (k : Nat) (v : K) : Mk w (wr.setCell ⟨g, k, none⟩ (.int .u8 ((v.val : Nat) : Int))) g N (fun c => if c = k then v else x c) := by
  refine ⟨?_, h.bel.setCell (p := ⟨g, k, none⟩) (own_ge h.row).1 _⟩
  have h1 := (h.row.stored k (kv v)).1
  rw [vals_set, vals_congr (W := fun c => kv (if c = k then v else x c)) (fun c _ => by unfold upd; by_cases e : c = k <;> simp [e])] at h1
  exact h1
theorem Mk.made (w : World) (N : Nat) (hN : N ≤ 70003) : Mk w (w.alloc (.cells (madeCells #[.int .u8 0] N) 5)) w.heap.size N (fun _ => 0) :=
  ⟨own_made w 5 (.int .u8 0) N w.heap.size hN (Nat.le_refl _), (Below.refl _ _).alloc (Nat.le_refl _) _⟩
theorem Mk.sets {w : World} {g N : Nat} : ∀ (ks : List K) (o : Nat) (wr : World) (x : Nat → K), Mk w wr g N x → Mk w (wr.setCells g o (ks.map kv)) g N (fun c => if o ≤ c ∧ c < o + ks.length then (ks[c - o]?).getD 0 else x c)
  | [], o, wr, x, h => h.congr (fun c _ => by rw [if_neg (by simp)])
  | k :: ks, o, wr, x, h => by
    have ih := Mk.sets ks (o + 1) _ _ (h.set o k)
    refine Mk.congr (x := _) ih (fun c _ => ?_)
    by_cases e1 : c = o
    · subst e1
      rw [if_neg (by omega), if_pos rfl, if_pos (by simp)]; simp
    · by_cases e2 : o + 1 ≤ c ∧ c < o + 1 + ks.length
      · rw [if_pos e2, if_pos (by simp; omega), show c - o = (c - (o + 1)) + 1 by omega]; rfl
      · rw [if_neg e2, if_neg e1, if_neg (by simp; omega)]
/-- The first n numbers, as a list. -/
def ksOf (n : Nat) (x : Nat → K) : List K := (List.range n).map x
theorem ksOf_vals (n : Nat) (x : Nat → K) : (ksOf n x).map kv = valN n fun j => (x j).val := by unfold ksOf valN kv; rw [List.map_map]; rfl
theorem ksOf_get (n : Nat) (x : Nat → K) (c : Nat) (h : c < n) : ((ksOf n x)[c]?).getD 0 = x c := by unfold ksOf; simp [h]
theorem Mk.copied {w wr : World} {g N : Nat} {y : Nat → K} (h : Mk w wr g N y) (n : Nat) (x : Nat → K) : Mk w (wr.setCells g 0 (valN n fun j => (x j).val)) g N (fun c => if c < n then x c else y c) := by
  rw [← ksOf_vals]
  refine (Mk.sets (ksOf n x) 0 wr y h).congr (fun c _ => ?_)
  have hl : (ksOf n x).length = n := by simp [ksOf]
  by_cases e : c < n
  · rw [if_pos (by omega), if_pos e, Nat.sub_zero, ksOf_get n x c e]
  · rw [if_neg (by omega), if_neg e]

set_option maxRecDepth 100000 in
set_option maxHeartbeats 1000000 in
theorem lentB_core (p : Option Addr) (n c : Nat) (x : Nat → K) (w w1 : World) (hn : n ≤ 70000)
    (hcp : ∀ ty, (Builtin.copy_ #[22, 22] ty #[.slice (some ⟨w.heap.size, 0, none⟩) (n + 3) (n + 3), .slice p n c]).run Try.prog (w.alloc (.cells (madeCells #[.int .u8 0] (n + 3)) 5)) = .ok (goInt n) w1)
    (hrow : Mk w w1 w.heap.size (n + 3) (fun i => if i < n then x i else 0)) :
    Calls Try.prog 9 #[.slice p n c] w fun e w' => e = .returned (.slice (some ⟨w.heap.size, 0, none⟩) n (n + 3)) ∧ Mk w w' w.heap.size (n + 3) (lentK n x) := by
  have hmk := run_make_u8 (n + 3) (by omega) w
  rw [show ((n + 3 : Nat) : Int) = (n : Int) + 3 from by omega] at hmk
  have HR := hid hrow
  clear hrow
  go_enter Try.func9, Try.ntmps9
  go_wp2
  clear hmk hcp
  go_loopw [4] (fun i wr => ∃ k : Nat, n ≤ k ∧ k ≤ n + 3 ∧ i = .int .i64 k ∧ Mk w wr w.heap.size (n + 3) (fun i => if i < k then lentK n x i else 0)) (fun i _ => (n + 3 - intOf i).toNat)
  case atStart => exact ⟨n, by omega, by omega, rfl, HR.out.congr (fun i _ => by by_cases e : i < n <;> simp [lentK, e])⟩
  case round =>
    obtain ⟨k, hk1, hk2, rfl, hrow⟩ := hrel
    clear HR
    by_cases hlt : k < n + 3
    · have c3 : wr.cell? ⟨w.heap.size, k, none⟩ = some (.int .u8 0) := by rw [own_cell hrow.row k hlt]; simp; rfl
      have c4 := hrow.row.frozenAt k
      have HR := hid ((hrow.set k (lentK n x k)).congr (y := fun i => if i < k + 1 then lentK n x i else 0) (fun i _ => by
        by_cases e : i = k
        · subst e; simp
        · by_cases q : i < k
          · simp [e, q, show i < k + 1 by omega]
          · simp [e, q, show ¬ i < k + 1 by omega]))
      have HL : Hid ((((lentK n x k).val : Nat) : Int) = 160 + (k : Int) % 90) := by
        show (((lentK n x k).val : Nat) : Int) = 160 + (k : Int) % 90
        unfold lentK; rw [if_neg (by omega), kb_val _ (by omega)]; omega
      clear hrow
      go_wp2
      go_roundw
      case rel => exact ⟨k + 1, by omega, by omega, by go_num, by rw [← HL.out]; exact HR.out⟩
      case measure => simp [intOf]; omega
    · have E := hid (hrow.congr (y := lentK n x) (fun i hi => by rw [if_pos (by omega)]))
      clear hrow
      go_wp2
      go_ret
      exact ⟨rfl, E.out⟩
theorem lentB_any (p : Option Addr) (n c : Nat) (x : Nat → K) (w : World) (hn : n ≤ 70000) (hx : StrAt w p n fun j => (x j).val) :
    Calls Try.prog 9 #[.slice p n c] w fun e w' => e = .returned (.slice (some ⟨w.heap.size, 0, none⟩) n (n + 3)) ∧ Mk w w' w.heap.size (n + 3) (lentK n x) := by
  have hrow := Mk.made w (n + 3) (by omega)
  by_cases h0 : n = 0
  · subst h0
    refine lentB_core p 0 c x w _ hn (fun ty => ?_) (hrow.congr (fun i _ => by simp))
    exact run_copy_none (P := Try.prog) _ 22 22 ty 5 _ _ _ _ _ _ Try.underlying22 (by kernel_rfl) (by simp)
  · rcases hx with e | ⟨b, o, rfl, hx⟩
    · exact absurd e h0
    · have hb : b < w.heap.size := World.block_lt_of_cell? w _ (hx 0 (by omega))
      have hx1 : RowAt (w.alloc (.cells (madeCells #[.int .u8 0] (n + 3)) 5)) b o n fun j => (x j).val := fun i hi => by rw [World.cell?_alloc_lt _ _ _ hb]; exact hx i hi
      exact lentB_core _ n c x w _ hn (fun ty => run_copy_u8 _ b o n c w.heap.size (n + 3) (n + 3) (fun j => (x j).val) (fun _ => 0) w rfl (NewRow.made w (n + 3)) hx1 (by omega) ty) (hrow.copied n x)

/-- Lent rows: row i of L i numbers, three more behind. -/
def LentAt (B : Nat) (w : World) (v : Value) (n : Nat) (G L : Nat → Nat) (X : Nat → Nat → K) : Prop := OwnV B w v n G L (fun i => L i + 3) (fun i => L i + 3) (fun i => L i + 3) (fun i => lentK (L i) (X i))
theorem upd_self (f : Nat → Nat) (k : Nat) : upd f k (f k) = f := by funext i; unfold upd; split <;> simp_all

set_option maxRecDepth 100000 in
set_option maxHeartbeats 2000000 in
theorem lentLists_any (p : Option Addr) (n c : Nat) (A : Nat → Option Addr) (L C : Nat → Nat) (X : Nat → Nat → K) (w : World) (hn : n ≤ 100) (hL : ∀ i, i < n → L i ≤ 100) (h : MatAt w p n A L C X) :
    Calls Try.prog 19 #[.slice p n c] w fun e w' => ∃ v G, e = .returned v ∧ LentAt w.heap.size w' v n G L X ∧ Below w.heap.size w w' := by
  obtain ⟨i0, hi0, hz0, hz1, hz2⟩ := info_parts Try.info22
  have H := hid h
  have HL := hid hL
  clear h hL
  go_enter Try.func19, Try.ntmps19
  go_wp2
  go_loopw [3, 4] (fun v x wr => ∃ i : Nat, ∃ G : Nat → Nat, i ≤ n ∧ x = .int .i64 i ∧ LentAt w.heap.size wr v i G L X ∧ Below w.heap.size w wr) (fun _ x _ => (n - intOf x).toNat)
  case atStart => exact ⟨0, fun _ => 0, by omega, rfl, OwnV.start _ _ _ _ _ _ _ _, Below.refl _ _⟩
  case round =>
    obtain ⟨i, G, hi, rfl, hv, hb⟩ := hrel
    by_cases hlt : i < n
    · obtain ⟨b, o, rfl, hc⟩ := H.out.top.pos (by omega)
      have hsz := hb.size
      have c1 := Stays.of_below hb _ _ (hc i hlt)
      have s1 := (H.out.row i hlt).keep (Stays.of_below hb)
      have hLi := HL.out i hlt
      have HV := hid hv
      have HB := hid hb
      have S1 := hid s1
      clear hv hb s1 hc H HL
      go_wp2_with fail
      refine (lentB_any (A i) (L i) (C i) (X i) wr (by omega) S1.out).mono ?_
      rintro e w1 ⟨rfl, hmk⟩
      have HB1 := hid hmk.bel
      have HR1 := hid hmk.row
      have HT := hid (HV.out.top_alloc HB1.out (.cells #[.slice (some ⟨wr.heap.size, 0, none⟩) (L i) (L i + 3)] 22))
      have HN := hid (news_one w1 (.slice (some ⟨wr.heap.size, 0, none⟩) (L i) (L i + 3)))
      have hsz1 := HB1.out.size
      clear hmk
      go_wp2_with (at_builtin; refine wpList_append_lies _ rfl _ _ 24 rfl w.heap.size 22 i0 (.slice none 0 0) 1 24 Try.underlying24 hi0 hz0 hz1 hz2 rfl (by omega) u3 i _ rfl HT.out ⟨w1.heap.size, 0, none⟩ 1 1 [.slice (some ⟨wr.heap.size, 0, none⟩) (L i) (L i + 3)] rfl rfl HN.out (by intro u hu; simp at hu; subst hu; rfl) (by omega) (by unfold maxLen; omega) (by omega) (by simp; omega) _ rfl ?_; intro gg cap w4 hown4 hgrow hat hlt4)
      have HX := hid (HV.out.push HB1.out wr.heap.size (L i + 3) (L i + 3) (Nat.le_refl _) (own_base HR1.out hsz) hgrow hown4)
      have HBX := hid (HV.out.bound (HB.out.trans (HB1.out.mono hsz)) (by omega) hgrow)
      rw [upd_self (fun i => L i + 3) i] at HX
      clear hown4 hgrow hat hlt4 HT HN HR1 HB1 HV HB
      go_wp2
      go_roundw
      case rel => exact ⟨i + 1, _, by omega, by go_num, HX.out, HBX.out⟩
      case measure => simp [intOf]; omega
    · have e : i = n := by omega
      subst e
      have HV := hid hv
      have HB := hid hb
      clear hv hb H HL
      go_wp2
      go_ret
      exact ⟨u3, G, rfl, HV.out, HB.out⟩
end Go.Proofs.Ytapgdenodhcliaa
