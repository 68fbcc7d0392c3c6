/- Texts laid into one, cut to what is needed: the remark ahead of each part says what is proved there. -/
import Derived.Test.YtklchjfkkbpipaaGreatDoorPah
/- Files to be committed, in memory; which drives are well; how many are. -/
namespace Go.Proofs.YtklchjfkkbpipaaGreatDoor
open Go Go.RowKit Go.Shelf

/-- A file as it stands in memory. -/
structure FlV where
  nm : Nm
  pb : Option Addr
  cb : Nat
  bs : List Nat
instance : Inhabited FlV := ⟨⟨[], none, 0, []⟩⟩
def FlV.fl (x : FlV) : Fl := (x.nm, x.bs)
abbrev FlV.bv (x : FlV) : Value := .slice x.pb x.bs.length x.cb
structure FlV.ok (w : World) (T : Nat → Prop) (x : FlV) : Prop where
  nl : x.nm.length ≤ maxLen
  b8 : ∀ y ∈ x.bs, y < 256
  bl : x.bs.length ≤ 1000000
  bt : BAt w x.pb x.bs
  nt : ∀ a, x.pb = some a → x.bs ≠ [] → ¬ T a.block
structure RowV where
  po : Option Addr
  c : Nat
  l : List FlV
instance : Inhabited RowV := ⟨⟨none, 0, []⟩⟩
def RowV.fl (r : RowV) : List Fl := r.l.map FlV.fl
abbrev RowV.v (r : RowV) : Value := .slice r.po r.l.length r.c
structure RowV.ok (w : World) (T : Nat → Prop) (r : RowV) : Prop where
  at_ : r.l = [] ∨ ∃ b o, r.po = some ⟨b, o, none⟩ ∧ ¬ T b ∧ ∀ j, j < r.l.length → w.cell? ⟨b, o + j * 2, none⟩ = some (sv (r.l.getD j default).nm) ∧ w.cell? ⟨b, o + j * 2 + 1, none⟩ = some (r.l.getD j default).bv
  el : ∀ x ∈ r.l, x.ok w T
  cp : r.l.length ≤ r.c
/-- The lists of all drives. -/
structure FsV where
  po : Option Addr
  c : Nat
  l : List RowV
abbrev FsV.v (r : FsV) : Value := .slice r.po r.l.length r.c
def FsV.fl (r : FsV) (i : Nat) : List Fl := (r.l.getD i default).fl
structure FsV.ok (w : World) (T : Nat → Prop) (r : FsV) : Prop where
  at_ : r.l = [] ∨ ∃ b o, r.po = some ⟨b, o, none⟩ ∧ ¬ T b ∧ ∀ j, j < r.l.length → w.cell? ⟨b, o + j, none⟩ = some (r.l.getD j default).v
  el : ∀ x ∈ r.l, x.ok w T
theorem add_block (a : Addr) (i : Nat) : (a.add i).block = a.block := by unfold Addr.add; split <;> rfl
section
variable {w w' : World} {T T' : Nat → Prop}
theorem FlV.ok.keep {x : FlV} (h : x.ok w T) (hk : ∀ b, b < w.heap.size → ¬ T b → w'.heap[b]? = w.heap[b]?) (hT : ∀ b, b < w.heap.size → T' b → T b) : x.ok w' T' := by
  have lt : ∀ a, x.pb = some a → x.bs ≠ [] → a.block < w.heap.size := fun a e hne => by
    rcases h.bt with ⟨h1, h2⟩ | ⟨a', h1, h2⟩
    · exact absurd h2 hne
    · rw [h1] at e; cases e
      have := h2 0 (List.length_pos_iff.2 hne)
      have := cell_lt' (w := w) (a := a.add 0) (by rw [this]; simp)
      rwa [add_block] at this
  refine ⟨h.nl, h.b8, h.bl, ?_, fun a e hne ht => h.nt a e hne (hT _ (lt a e hne) ht)⟩
  rcases h.bt with ⟨h1, h2⟩ | ⟨a', h1, h2⟩
  · exact .inl ⟨h1, h2⟩
  · refine .inr ⟨a', h1, fun i hi => ?_⟩
    have hne : x.bs ≠ [] := List.length_pos_iff.1 (by omega)
    refine (World.cell?_of_block ?_).trans (h2 i hi)
    rw [add_block]
    exact hk _ (lt a' h1 hne) (h.nt a' h1 hne)
theorem RowV.ok.keep {x : RowV} (h : x.ok w T) (hk : ∀ b, b < w.heap.size → ¬ T b → w'.heap[b]? = w.heap[b]?) (hT : ∀ b, b < w.heap.size → T' b → T b) : x.ok w' T' := by
  refine ⟨?_, fun y hy => (h.el y hy).keep hk hT, h.cp⟩
  rcases h.at_ with h1 | ⟨b, o, h1, h2, h3⟩
  · exact .inl h1
  · rcases Nat.eq_zero_or_pos x.l.length with h0 | h0
    · exact .inl (List.length_eq_zero_iff.1 h0)
    · have hb := cell_lt2 (h3 0 h0).1
      exact .inr ⟨b, o, h1, fun ht => h2 (hT b hb ht), fun j hj => ⟨(World.cell?_of_block (a := ⟨b, o + j * 2, none⟩) (hk b hb h2)).trans (h3 j hj).1, (World.cell?_of_block (a := ⟨b, o + j * 2 + 1, none⟩) (hk b hb h2)).trans (h3 j hj).2⟩⟩
theorem FsV.ok.keep {x : FsV} (h : x.ok w T) (hk : ∀ b, b < w.heap.size → ¬ T b → w'.heap[b]? = w.heap[b]?) (hT : ∀ b, b < w.heap.size → T' b → T b) : x.ok w' T' := by
  refine ⟨?_, fun y hy => (h.el y hy).keep hk hT⟩
  rcases h.at_ with h1 | ⟨b, o, h1, h2, h3⟩
  · exact .inl h1
  · rcases Nat.eq_zero_or_pos x.l.length with h0 | h0
    · exact .inl (List.length_eq_zero_iff.1 h0)
    · have hb := cell_lt2 (h3 0 h0)
      exact .inr ⟨b, o, h1, fun ht => h2 (hT b hb ht), fun j hj => (World.cell?_of_block (a := ⟨b, o + j, none⟩) (hk b hb h2)).trans (h3 j hj)⟩
theorem FsV.ok.only {x : FsV} {Y : Nat → Prop} (h : x.ok w T) (ho : Only Y w w') (hY : ∀ b, Y b → T b) : x.ok w' T := h.keep (fun b hb hT => ho.block b hb fun hy => hT (hY b hy)) (fun _ _ h => h)
/-- Which drives are well, in memory. -/
def WlAt (w : World) (bw k : Nat) (wl : Nat → Bool) : Prop := ∀ j, j < k → w.cell? ⟨bw, j, none⟩ = some (.bool (wl j)) ∧ w.frozen? ⟨bw, j, none⟩ = false
theorem WlAt.keep {bw k : Nat} {wl : Nat → Bool} (h : WlAt w bw k wl) (e : w'.heap[bw]? = w.heap[bw]?) : WlAt w' bw k wl := fun j hj => ⟨(World.cell?_of_block (a := ⟨bw, j, none⟩) e).trans (h j hj).1, (World.frozen?_of_block (a := ⟨bw, j, none⟩) e).trans (h j hj).2⟩
theorem WlAt.tn {bw k : Nat} {wl : Nat → Bool} {B : Nat} (h : WlAt w bw k wl) (ht : Tn B w w') : WlAt w' bw k wl := by
  rcases Nat.eq_zero_or_pos k with h0 | h0
  · exact fun j hj => absurd hj (by omega)
  · obtain ⟨o, ho, hc⟩ := cells_of_cell (h 0 h0).1
    exact h.keep (ht.other ho (by cases o <;> first | rfl | (simp [Obj.isCells] at hc)))
theorem WlAt.set {bw k : Nat} {wl : Nat → Bool} (h : WlAt w bw k wl) {i : Nat} (hi : i < k) (b : Bool) : WlAt (w.setCell ⟨bw, i, none⟩ (.bool b)) bw k (upd wl i b) := fun j hj => by
  by_cases e : j = i
  · subst e; rw [upd_same]; exact ⟨World.cell?_setCell_same' _ _ _ (by rw [(h j hj).1]; rfl), by rw [World.frozen?_setCell]; exact (h j hj).2⟩
  · rw [upd_ne _ _ e]; exact ⟨(World.cell?_setCell_other w ⟨bw, i, none⟩ ⟨bw, j, none⟩ (.bool b) (by intro e2; cases e2; exact e rfl)).trans (h j hj).1, by rw [World.frozen?_setCell]; exact (h j hj).2⟩
theorem KpL.set {B b : Nat} (hb : b < B) (W : World) (i : Nat) (v : Value) : KpL B W (W.setCell ⟨b, i, none⟩ v) := ⟨Nat.le_of_eq (setCell_size _ _ _).symm, fun r _ hr h _ => (heap_setCell_ne W ⟨b, i, none⟩ v r (by show r ≠ b; omega)).trans h⟩
end
theorem upd_id {α : Type} (d : Nat → α) (i : Nat) : upd d i (d i) = d := by funext j; unfold upd; split <;> simp_all
theorem upd_upd {α : Type} (d : Nat → α) (i : Nat) (x y : α) : upd (upd d i x) i y = upd d i y := by funext j; unfold upd; split <;> rfl
structure CnI (w W : World) (g : Nat) (wl : Nat → Bool) (i : Nat) : Prop where
  be : Below w.heap.size w W
  bn : CAt W w.heap.size #[.int .i64 (cntW wl i : Int)] 3
  bc : CAt W (w.heap.size + 1) #[ptr g] 174
theorem cntW_le (wl : Nat → Bool) : ∀ n, cntW wl n ≤ n
  | 0 => Nat.le_refl _
  | n + 1 => by have := cntW_le wl n; unfold cntW; split <;> omega
set_option maxHeartbeats 1000000 in
set_option maxRecDepth 100000 in
theorem count_any (w : World) (g : Nat) (lv fv : Value) (bw cw k : Nat) (p : Nat → Nat) (wl : Nat → Bool) (hk : k ≤ 1000) (hg : CAt w g #[lv, fv, .slice (some ⟨bw, 0, none⟩) k cw] 120) (hl : LsAt w (fun _ => False) lv k p) (hw : WlAt w bw k wl) :
    Calls Tryz.prog 74 #[ptr g] w fun e w' => e = .returned (.int .i64 (cntW wl k : Int)) ∧ Below w.heap.size w w' := by
  have HG := hid hg
  have HL := hid hl
  have HW := hid hw
  have HK := hid hk
  clear hg hl hw
  refine (callsIn_wide (n := 0)).1 ?_
  refine callsIn_of_wp_marks Tryz.func74 rfl trivial ?_ rfl
  refine wpIn_wide.2 ?_
  simp only [Tryz.ntmps74, List.size_toArray, List.length_cons, List.length_nil, Nat.reduceAdd, Nat.reduceSub, Array.replicate_succ, Array.replicate_zero, List.push_toArray, List.append_toArray, List.nil_append, List.cons_append]
  go_wp2_with (go_at_call 127; refine (working_any _ _).mono ?_; rintro e w5 ⟨rfl, rfl⟩)
  rename_i Kx hKx
  refine (wpIn_wide (n := 0)).1 ?_
  have c0 : CnI w ((w.alloc (.cells #[.int .i64 0] 3)).alloc (.cells #[ptr g] 174)) g wl 0 := by
    have b1 := CAt.made (w.alloc (.cells #[.int .i64 0] 3)) #[ptr g] 174
    rw [size_al] at b1
    exact ⟨((Below.refl _ _).alloc (Nat.le_refl _) _).alloc (by simp) _, (CAt.made w _ _).old _, b1⟩
  have hsz : ((w.alloc (.cells #[.int .i64 0] 3)).alloc (.cells #[ptr g] 174)).heap.size = w.heap.size + 2 := by simp
  generalize ((w.alloc (.cells #[.int .i64 0] 3)).alloc (.cells #[ptr g] 174)) = W0 at c0 hsz ⊢
  have wk : ∀ i W, CnI w W g wl i → WlAt W bw k wl := fun i W h => by
    rcases Nat.eq_zero_or_pos k with h0 | h0
    · exact fun j hj => absurd hj (by omega)
    · exact HW.out.keep (h.be.block bw (cell_lt2 (HW.out 0 h0).1))
  refine range_plain (gf := 151) (lb := #[ptr (w.heap.size + 1)]) rfl (enters_of Tryz.func151 (by kernel_rfl) rfl) k (eEnc p) (fun _ => rfl) (fun i W => W.cell? ⟨bw, i, none⟩ = some (.bool true)) (fun i W => CnI w W g wl i)
    (fun _ _ => False) ?hEn ?hI (fun _ _ _ h _ => h) c0 ?hseq ?asg ?assign ?body ?done (fun _ _ _ _ h _ => h.elim)
  case hEn =>
    intro i A C h ht
    obtain ⟨o, ho, hc⟩ := cells_of_cell h
    exact (World.cell?_of_block (a := ⟨bw, i, none⟩) (ht.other ho (by cases o <;> first | rfl | (simp [Obj.isCells] at hc)))).trans h
  case hI => exact fun i A C h ht => ⟨below_tn h.be ht (by omega), h.bn.tn ht, h.bc.tn ht⟩
  case hseq =>
    refine working_it _ _ g lv fv bw cw k p _ (by omega) (fun i W h => ⟨h.bc, HG.out.below h.be, HL.out.keep (fun b hb _ => h.be.block b hb) (fun _ _ h => h), fun j hj => ⟨_, (wk i W h j hj).1⟩⟩) (fun i W hi h hc => ?_)
    have hf : wl i = false := by have := (wk i W h i hi).1; rw [hc] at this; simpa using this
    exact ⟨h.be, by unfold cntW; rw [hf]; exact h.bn, h.bc⟩
  case assign =>
    intro l i W K hik hK
    unfold eEnc
    refine wpIn_skip ?_
    show K _ _
    simp
    exact hK
  case body =>
    intro l i W hik h hen
    have hf : wl i = true := by have := (wk i W h i hik).1; rw [hen] at this; simpa using this
    have c3 : W.cell? ⟨w.heap.size, 0, none⟩ = some (.int .i64 (cntW wl i : Int)) := h.bn.cell 0
    have f3 : W.frozen? ⟨w.heap.size, 0, none⟩ = false := h.bn.free 0
    have hle := cntW_le wl i
    have hs : cntW wl (i + 1) = cntW wl i + 1 := by
      show cntW wl i + (if wl i then 1 else 0) = _
      rw [hf]; rfl
    have FIN : Hid (CnI w (W.setCell ⟨w.heap.size, 0, none⟩ (.int .i64 ((cntW wl i : Int) + 1))) g wl (i + 1)) := by
      refine ⟨h.be.setCell (p := ⟨w.heap.size, 0, none⟩) (Nat.le_refl _) _, ?_, h.bc.keep (heap_setCell_ne _ _ _ _ (by show w.heap.size + 1 ≠ w.heap.size; omega))⟩
      have := h.bn.set 0 (.int .i64 ((cntW wl i : Int) + 1))
      rw [hs]
      simpa using this
    have hkp : KpL W0.heap.size W (W.setCell ⟨w.heap.size, 0, none⟩ (.int .i64 ((cntW wl i : Int) + 1))) := KpL.set (by omega) _ _ _
    generalize cntW wl i = q at *
    have hq : (q : Int) ≤ 1000 := by have := HK.out; omega
    clear hs h hen
    refine wpIn_block (round_list (fun _ _ h => h) (by kernel_rfl) ?_)
    go_wp2
    exact ⟨hkp, FIN.out⟩
  case done =>
    intro D W hD h hd
    have c3 : W.cell? ⟨w.heap.size, 0, none⟩ = some (.int .i64 (cntW wl k : Int)) := h.bn.cell 0
    have hb : Below w.heap.size w (W.putObj D (.deferred none)) := below_tn h.be (Tn.put (B := W0.heap.size) _ hD hd rfl) (by omega)
    refine hKx _ _ ?_
    dsimp only [endAct]
    clear hKx h
    go_wp2
    refine ⟨by simp, .inl ⟨_, _, rfl, run_takeDeferred hd, ?_⟩⟩
    exact ⟨_, results_tmp rfl _ _ _, rfl, hb⟩
end Go.Proofs.YtklchjfkkbpipaaGreatDoor
