/- Texts laid into one: the remark ahead of each part says what is proved there. -/
import Derived.Test.YtfppmpfmafnfmaaXe
import Derived.Test.YtfppmpfmafnfmaaXc
import Derived.Deep.QuietTactic
import Derived.BigQuiet
/- The document's own drives in memory; contracts of out, Up, ready, burns, At and Used of them. -/
namespace Go.Proofs.Ytfppmpfmafnfmaa
open Go Go.RowKit

def e00 : Nm × Ent := ([], ⟨.slice none 0 0, [], false⟩)
def atL (L : List (Nm × Ent)) (i : Nat) : Nm × Ent := L.getD i e00
def fent (p : Nm × Ent) : List Value := [sv p.1, p.2.v, .bool p.2.l]
def flat : List (Nm × Ent) → List Value
  | [] => []
  | p :: r => sv p.1 :: p.2.v :: .bool p.2.l :: flat r
theorem flat_len : ∀ L : List (Nm × Ent), (flat L).length = L.length * 3
  | [] => rfl
  | p :: r => by simp [flat, flat_len r]; omega
theorem flat_app : ∀ L M : List (Nm × Ent), flat (L ++ M) = flat L ++ flat M
  | [], _ => rfl
  | p :: r, M => by simp [flat, flat_app r M]
theorem flat_get : ∀ (L : List (Nm × Ent)) (i j : Nat), i < L.length → j < 3 → (flat L)[i * 3 + j]? = (fent (atL L i))[j]?
  | [], i, _, h, _ => by simp at h
  | p :: r, 0, j, _, hj => by
    have : j = 0 ∨ j = 1 ∨ j = 2 := by omega
    rcases this with rfl | rfl | rfl <;> rfl
  | p :: r, i + 1, j, h, hj => by
    have := flat_get r i j (by simpa using h) hj
    have e : (i + 1) * 3 + j = (i * 3 + j) + 3 := by omega
    rw [e]
    show (sv p.1 :: p.2.v :: .bool p.2.l :: flat r)[i * 3 + j + 3]? = _
    simpa [atL] using this
def rcells (v : Value) (fu : Option Nat) (d : Pd) : Array Value := #[.int .i64 (d.size : Int), v, .bool d.offl, .bool d.full, .bool d.out, fuV fu, .int .i64 (d.ops : Int)]
/-- A drive of the document's lies at block q, its files in the row v. -/
structure RfC (w : World) (R : Nat → Prop) (q : Nat) (v : Value) (fu : Option Nat) (d : Pd) (L : List (Nm × Ent)) : Prop where
  c : CAt w q (rcells v fu d) 76
  ow : w.ownsRow 0 98 3 v L.length (flat L)
  fs : d.F = gmap Ent.fi L
  by_ : ∀ x ∈ L, w.ownsRow 0 5 1 x.2.v x.2.b.length (x.2.b.map u8)
  sp : R q
  rv : ∀ b, v.ownBlock = some b → R b
  rb : ∀ x ∈ L, ∀ b, x.2.v.ownBlock = some b → R b
  lt : ∀ b, R b → b < w.heap.size
/-- A fuse of the document's, outside R. -/
def FuR (w : World) (R : Nat → Prop) : Option Nat → Fs → Prop
  | none, none => True
  | some q, some (n, g) => CAt w q #[.int .i64 (n : Int), .bool g] 83 ∧ ¬ R q ∧ n ≤ 9223372036854775807
  | _, _ => False
def RfAt (w : World) (R : Nat → Prop) (q : Nat) (fu : Option Nat) (d : Pd) : Prop := ∃ v L, RfC w R q v fu d L
section
variable {w w' : World} {R : Nat → Prop} {q : Nat} {v : Value} {fu : Option Nat} {d : Pd} {L : List (Nm × Ent)} {f : Fs}
theorem RfC.keep (h : RfC w R q v fu d L) (hs : w.heap.size ≤ w'.heap.size) (hk : ∀ b, R b → w'.heap[b]? = w.heap[b]?) : RfC w' R q v fu d L :=
  { h with c := h.c.keep (hk q h.sp), ow := ownsRow_keep h.ow fun b hb => hk b (h.rv b hb), by_ := fun x hx => ownsRow_keep (h.by_ x hx) fun b hb => hk b (h.rb x hx b hb), lt := fun b hb => Nat.lt_of_lt_of_le (h.lt b hb) hs }
theorem RfC.below (h : RfC w R q v fu d L) (hb : Below w.heap.size w w') : RfC w' R q v fu d L := h.keep hb.size fun b hR => hb.block b (h.lt b hR)
theorem RfC.alloc (h : RfC w R q v fu d L) (o : Obj) : RfC (w.alloc o) R q v fu d L := h.below ((Below.refl _ _).alloc (Nat.le_refl _) _)
theorem RfC.wide {R' : Nat → Prop} (h : RfC w R q v fu d L) (hS : ∀ b, R b → R' b) (hl : ∀ b, R' b → b < w.heap.size) : RfC w R' q v fu d L :=
  { h with sp := hS q h.sp, rv := fun b hb => hS b (h.rv b hb), rb := fun x hx b hb => hS b (h.rb x hx b hb), lt := hl }
theorem RfC.lenF (h : RfC w R q v fu d L) : L.length = d.F.length := by rw [h.fs, len_map]
theorem FuR.keep : ∀ {fu : Option Nat} {f : Fs}, FuR w R fu f → (∀ q, fu = some q → w'.heap[q]? = w.heap[q]?) → FuR w' R fu f
  | none, none, _, _ => trivial
  | some q, some (_, _), h, hk => ⟨h.1.keep (hk q rfl), h.2⟩
theorem FuR.lt : ∀ {fu : Option Nat} {f : Fs}, FuR w R fu f → ∀ q, fu = some q → q < w.heap.size
  | some q, some (_, _), h, _, e => by cases e; exact h.1.lt
theorem FuR.ne : ∀ {fu : Option Nat} {f : Fs}, FuR w R fu f → ∀ q, fu = some q → ¬ R q
  | some q, some (_, _), h, _, e => by cases e; exact h.2.1
theorem FuR.below (h : FuR w R fu f) (hb : Below w.heap.size w w') : FuR w' R fu f := h.keep fun q e => hb.block q (h.lt q e)
theorem FuR.alloc (h : FuR w R fu f) (o : Obj) : FuR (w.alloc o) R fu f := h.below ((Below.refl _ _).alloc (Nat.le_refl _) _)
theorem RfC.at (h : RfC w R q v fu d L) {i : Nat} (hi : i < L.length) : ∃ g c, v = .slice (some ⟨g, 0, none⟩) L.length c ∧ w.cell? ⟨g, i * 3, none⟩ = some (sv (atL L i).1) ∧ w.cell? ⟨g, i * 3 + 1, none⟩ = some (atL L i).2.v ∧ w.cell? ⟨g, i * 3 + 2, none⟩ = some (.bool (atL L i).2.l) ∧ ∀ j, w.frozen? ⟨g, j, none⟩ = false := by
  rcases h.ow.2 with ⟨_, h0⟩ | ⟨g, cap, cur, rfl, _, hg, h1, _, h3, h4⟩
  · omega
  · have hc : CAt w g cur 98 := hg
    have get : ∀ j, j < 3 → w.cell? ⟨g, i * 3 + j, none⟩ = (fent (atL L i))[j]? := fun j hj => by
      rw [hc.cell, ← flat_get L i j hi hj, ← h4, List.getElem?_take, if_pos (by omega)]
      simp
    exact ⟨g, cap, rfl, get 0 (by omega), get 1 (by omega), get 2 (by omega), fun j => hc.free j⟩
theorem RfC.form (h : RfC w R q v fu d L) : ∃ po c, v = .slice po L.length c := own_form h.ow
theorem rout_any (h : RfC w R q v fu d L) (hf : FuR w R fu f) : Calls Try.prog 43 #[ptr q] w fun e w' => e = .returned (.bool (d.isOut f)) ∧ w' = w := by
  have c7 : w.cell? ⟨q, 4, none⟩ = some (.bool d.out) := h.c.cell 4
  have c8 : w.cell? ⟨q, 5, none⟩ = some (fuV fu) := h.c.cell 5
  cases ho : d.out
  · match fu, f, hf with
    | none, none, _ =>
      rw [ho] at c7
      simp only [fuV] at c8
      go_enter Try.func43, Try.ntmps43
      go_wp2
      go_ret
      simp [Pd.isOut, ho, goneF]
    | some q, some (n, g), hf =>
      rw [ho] at c7
      simp only [fuV] at c8
      have g1 : w.cell? ⟨q, 1, none⟩ = some (.bool g) := hf.1.cell 1
      go_enter Try.func43, Try.ntmps43
      go_wp2
      go_ret
      simp [Pd.isOut, ho, goneF]
  · rw [ho] at c7
    go_enter Try.func43, Try.ntmps43
    go_wp2
    go_ret
    simp [Pd.isOut, ho]
theorem rup_any (h : RfC w R q v fu d L) (hf : FuR w R fu f) : Calls Try.prog 57 #[ptr q] w fun e w' => e = .returned (.bool (d.up f)) ∧ w' = w := by
  have c2 : w.cell? ⟨q, 2, none⟩ = some (.bool d.offl) := h.c.cell 2
  have hout := rout_any h hf
  cases ho : d.isOut f
  · rw [ho] at hout
    go_enter Try.func57, Try.ntmps57
    go_wp2_with (go_at_call 43; refine hout.mono ?_; rintro e w' ⟨rfl, hw'⟩; have hw2 := hw'.symm; subst hw2)
    go_ret
    simp [Pd.up, ho]
  · rw [ho] at hout
    go_enter Try.func57, Try.ntmps57
    go_wp2_with (go_at_call 43; refine hout.mono ?_; rintro e w' ⟨rfl, hw'⟩; have hw2 := hw'.symm; subst hw2)
    go_ret
    simp [Pd.up, ho]
/-- A change goes by: the fuse burns, and one change more is counted; or the fuse is gone. -/
theorem burns_any (h : RfC w R q v fu d L) (hf : FuR w R fu f) (ho : d.ops < 1000000000000) :
    Calls Try.prog 74 #[ptr q] w fun e w' => e = .returned (.bool (letsF f)) ∧ RfC w' R q v fu (if letsF f then { d with ops := d.ops + 1 } else d) L ∧ FuR w' R fu (burn f) ∧ Only (fun b => b = q ∨ fu = some b) w w' ∧ w'.heap.size = w.heap.size := by
  have c5 : w.cell? ⟨q, 5, none⟩ = some (fuV fu) := h.c.cell 5
  have c6 : w.cell? ⟨q, 6, none⟩ = some (.int .i64 (d.ops : Int)) := h.c.cell 6
  have z6 : w.frozen? ⟨q, 6, none⟩ = false := h.c.free 6
  have hset : ∀ W : World, RfC W R q v fu d L → RfC (W.setCell ⟨q, 6, none⟩ (.int .i64 ((d.ops : Int) + 1))) R q v fu { d with ops := d.ops + 1 } L := fun W h => by
    have hne : ∀ b t cs, CAt W b cs t → t ≠ 76 → b ≠ q := fun b t cs hc ht e => by
      subst e; have e2 : W.heap[b]? = _ := hc; have := h.c; unfold CAt at this; rw [this] at e2; cases e2; exact ht rfl
    have own : ∀ {t s n : Nat} {u : Value} {xs : List Value}, W.ownsRow 0 t s u n xs → t ≠ 76 → (W.setCell ⟨q, 6, none⟩ (.int .i64 ((d.ops : Int) + 1))).ownsRow 0 t s u n xs := fun {t s n u xs} ho ht => ownsRow_keep ho fun b hb => heap_setCell_ne _ _ _ _ (by
      rcases ho.2 with ⟨rfl, _⟩ | ⟨g, cap, cur, rfl, _, hg, _⟩
      · cases hb
      · cases hb; exact hne _ _ _ hg ht)
    exact ⟨by have := h.c.set 6 (.int .i64 ((d.ops : Int) + 1)); simpa [rcells] using this, own h.ow (by decide), h.fs, fun x hx => own (h.by_ x hx) (by decide), h.sp, h.rv, h.rb, fun b hb => by rw [setCell_size]; exact h.lt b hb⟩
  match fu, f, hf with
  | none, none, _ =>
    simp only [fuV] at c5
    have H := hid h
    have HS := hid hset
    clear h hset
    go_enter Try.func74, Try.ntmps74
    go_wp2
    go_ret
    exact ⟨rfl, HS.out _ H.out, trivial, Only.set _ _ _ (by simp), setCell_size _ _ _⟩
  | some q2, some (0, g), hf =>
    simp only [fuV] at c5
    have g0 : w.cell? ⟨q2, 0, none⟩ = some (.int .i64 0) := hf.1.cell 0
    have g1 : w.cell? ⟨q2, 1, none⟩ = some (.bool g) := hf.1.cell 1
    have z1 : w.frozen? ⟨q2, 1, none⟩ = false := hf.1.free 1
    have H := hid h
    have HS := hid hset
    have HF := hid hf
    clear h hset hf
    go_enter Try.func74, Try.ntmps74
    go_wp2
    go_ret
    refine ⟨rfl, ?_, ⟨HF.out.1.set 1 (.bool true), HF.out.2⟩, Only.set _ _ _ (Or.inr rfl), setCell_size _ _ _⟩
    exact H.out.keep (by rw [setCell_size]; exact Nat.le_refl _) fun b hb => heap_setCell_ne _ _ _ _ fun e => HF.out.2.1 ((show b = q2 from e) ▸ hb)
  | some q2, some (n + 1, g), hf =>
    simp only [fuV] at c5
    have g0 : w.cell? ⟨q2, 0, none⟩ = some (.int .i64 ((n + 1 : Nat) : Int)) := hf.1.cell 0
    have z0 : w.frozen? ⟨q2, 0, none⟩ = false := hf.1.free 0
    have hn := hf.2.2
    have hne : q2 ≠ q := fun e => hf.2.1 (e ▸ h.sp)
    have H := hid h
    have HS := hid hset
    have HF := hid hf
    clear h hset hf
    go_enter Try.func74, Try.ntmps74
    go_wp2
    go_ret
    have k1 : RfC (w.setCell ⟨q2, 0, none⟩ (.int .i64 (n : Int))) R q v (some q2) d L := H.out.keep (by rw [setCell_size]; exact Nat.le_refl _) fun b hb => heap_setCell_ne _ _ _ _ fun e => HF.out.2.1 ((show b = q2 from e) ▸ hb)
    have k2 : CAt (w.setCell ⟨q2, 0, none⟩ (.int .i64 (n : Int))) q2 #[.int .i64 (n : Int), .bool g] 83 := by have := HF.out.1.set 0 (.int .i64 (n : Int)); simpa using this
    refine ⟨rfl, HS.out _ k1, ⟨k2.keep (heap_setCell_ne _ _ _ _ hne), HF.out.2.1, by omega⟩, (Only.set _ _ _ (Or.inr rfl)).trans (Only.set _ _ _ (Or.inl rfl)), by rw [setCell_size, setCell_size]⟩
end
#print axioms burns_any
end Go.Proofs.Ytfppmpfmafnfmaa

/- Contracts of ready, At and Used of the document's drives. -/
namespace Go.Proofs.Ytfppmpfmafnfmaa
open Go Go.RowKit
section
variable {w w' : World} {R : Nat → Prop} {q : Nat} {v : Value} {fu : Option Nat} {d : Pd} {L : List (Nm × Ent)} {f : Fs}
/-- A row of bytes or files does not lie where a drive lies. -/
theorem RfC.ne_q (h : RfC w R q v fu d L) {t s n : Nat} {u : Value} {xs : List Value} (ho : w.ownsRow 0 t s u n xs) (ht : t ≠ 76) : ∀ b, u.ownBlock = some b → b ≠ q := fun b hb e => by
  rcases ho.2 with ⟨rfl, _⟩ | ⟨g, cap, cur, rfl, _, hg, _⟩
  · cases hb
  · cases hb
    have h2 : w.heap[q]? = _ := h.c
    have e' : g = q := e
    rw [e', h2] at hg
    cases hg
    exact ht rfl
theorem RfC.setq (h : RfC w R q v fu d L) (i : Nat) (x : Value) {fu2 : Option Nat} {d2 : Pd} (hc : (rcells v fu d).setIfInBounds i x = rcells v fu2 d2) (hF : d2.F = d.F) : RfC (w.setCell ⟨q, i, none⟩ x) R q v fu2 d2 L := by
  have own : ∀ {t s n : Nat} {u : Value} {xs : List Value}, w.ownsRow 0 t s u n xs → t ≠ 76 → (w.setCell ⟨q, i, none⟩ x).ownsRow 0 t s u n xs := fun ho ht => ownsRow_keep ho fun b hb => heap_setCell_ne _ _ _ _ (h.ne_q ho ht b hb)
  exact ⟨by have := h.c.set i x; rw [hc] at this; exact this, own h.ow (by decide), hF.trans h.fs, fun x hx => own (h.by_ x hx) (by decide), h.sp, h.rv, h.rb, fun b hb => by rw [setCell_size]; exact h.lt b hb⟩
theorem RfC.setL (h : RfC w R q v fu d L) (v2 : Value) (L2 : List (Nm × Ent)) (how : w.ownsRow 0 98 3 v2 L2.length (flat L2)) (hby : ∀ x ∈ L2, w.ownsRow 0 5 1 x.2.v x.2.b.length (x.2.b.map u8))
    {R2 : Nat → Prop} (hR : ∀ b, R b → R2 b) (hv : ∀ b, v2.ownBlock = some b → R2 b) (hb : ∀ x ∈ L2, ∀ b, x.2.v.ownBlock = some b → R2 b) (hl : ∀ b, R2 b → b < w.heap.size) {F2 : List (Nm × Fi)} (hF : F2 = gmap Ent.fi L2) :
    RfC (w.setCell ⟨q, 1, none⟩ v2) R2 q v2 fu { d with F := F2 } L2 := by
  have own : ∀ {t s n : Nat} {u : Value} {xs : List Value}, w.ownsRow 0 t s u n xs → t ≠ 76 → (w.setCell ⟨q, 1, none⟩ v2).ownsRow 0 t s u n xs := fun ho ht => ownsRow_keep ho fun b hb => heap_setCell_ne _ _ _ _ (h.ne_q ho ht b hb)
  exact ⟨by have := h.c.set 1 v2; simpa [rcells] using this, own how (by decide), hF, fun x hx => own (hby x hx) (by decide), hR q h.sp, hv, hb, fun b hb => by rw [setCell_size]; exact hl b hb⟩
set_option maxHeartbeats 400000 in
set_option maxRecDepth 100000 in
theorem ready_any (h : RfC w R q v fu d L) (hf : FuR w R fu f) (vn : Value) (ns : List Nm) (hv : TxtAt w vn ns) (hn : ns.length ≤ 1000) (hl : ∀ x ∈ ns, x.length ≤ maxLen) :
    Calls Try.prog 72 #[ptr q, vn] w fun e w' => e = .returned (.int .i64 (d.ans f ns : Int)) ∧ w' = w := by
  have c2 : w.cell? ⟨q, 2, none⟩ = some (.bool d.offl) := h.c.cell 2
  have hout := rout_any h hf
  clear h hf
  cases ho : d.isOut f
  · cases hof : d.offl
    · rw [ho] at hout
      rw [hof] at c2
      have hform : ∃ po c, vn = .slice po ns.length c := by rcases hv with ⟨rfl, rfl⟩ | ⟨b, c, rfl, _⟩ <;> exact ⟨_, _, rfl⟩
      obtain ⟨po, c, rfl⟩ := hform
      have HV := hid hv
      have HL := hid hl
      clear hv hl
      go_enter Try.func72, Try.ntmps72
      go_wp2_with (go_at_call 43; refine hout.mono ?_; rintro e w' ⟨rfl, hw'⟩; have hw2 := hw'.symm; subst hw2)
      go_loopw [5] (fun v wr => ∃ k : Nat, k ≤ ns.length ∧ v = .int .i64 (k : Int) ∧ wr = w ∧ ∀ i, i < k → okNm (ns.getD i []) = true) (fun v _ => (ns.length - intOf v).toNat)
      case atStart => exact ⟨0, by omega, rfl, rfl, fun i hi => by omega⟩
      case round =>
        obtain ⟨k, hk, rfl, hw, hok⟩ := hrel
        have HOK := hid hok
        clear hok
        subst hw
        by_cases hlt : k < ns.length
        · rcases HV.out with ⟨h0, _⟩ | ⟨b, c2, hv, hc⟩
          · rw [h0] at hlt; simp at hlt
          cases hv
          have hx := hc k hlt
          clear hc
          have hnm := rname_any (ns.getD k []) wr (HL.out _ (by rw [getD_in _ _ _ hlt]; exact List.getElem_mem hlt))
          generalize hc : ns.getD k [] = c at hx hnm
          have HC := hid hc
          clear hc
          have hlt' : (k : Int) < (ns.length : Int) := by omega
          cases hb : okNm c
          · rw [hb] at hnm
            go_wp2_with (go_at_call 19; refine hnm.mono ?_; rintro e w' ⟨rfl, hw'⟩; have hw2 := hw'.symm; subst hw2)
            go_ret
            rw [ans_bad ho hof hlt (by rw [HC.out]; exact hb)]; simp
          · rw [hb] at hnm
            go_wp2_with (go_at_call 19; refine hnm.mono ?_; rintro e w' ⟨rfl, hw'⟩; have hw2 := hw'.symm; subst hw2)
            go_roundw
            case rel =>
              refine ⟨k + 1, by omega, by go_num, by trivial, fun i hi => ?_⟩
              by_cases e : i = k
              · rw [e, HC.out]; exact hb
              · exact HOK.out i (by omega)
            case measure => simp [intOf]; omega
        · have hlt' : ¬ (k : Int) < (ns.length : Int) := by omega
          have e : d.ans f ns = 0 := ans_all ho hof fun i hi => HOK.out i (by omega)
          go_wp2
          go_ret
          exact ⟨by first | rfl | (rw [e]; rfl), by first | rfl | trivial⟩
    · have e : d.ans f ns = 12 := by unfold Pd.ans; rw [ho, hof]; rfl
      rw [e]
      rw [ho] at hout
      rw [hof] at c2
      go_enter Try.func72, Try.ntmps72
      go_wp2_with (go_at_call 43; refine hout.mono ?_; rintro e w' ⟨rfl, hw'⟩; have hw2 := hw'.symm; subst hw2)
      go_ret
      simp
  · have e : d.ans f ns = 11 := by unfold Pd.ans; rw [ho]; rfl
    rw [e]
    rw [ho] at hout
    go_enter Try.func72, Try.ntmps72
    go_wp2_with (go_at_call 43; refine hout.mono ?_; rintro e w' ⟨rfl, hw'⟩; have hw2 := hw'.symm; subst hw2)
    go_ret
    simp
/-- Where a file stands. -/
def idx : List (Nm × Ent) → Nm → Option Nat
  | [], _ => none
  | p :: r, s => if p.1 = s then some 0 else (idx r s).map (· + 1)
def atI (L : List (Nm × Ent)) (s : Nm) : Int := match idx L s with | some i => (i : Int) | none => -1
theorem idx_none : ∀ (L : List (Nm × Ent)) (s : Nm), (∀ i, i < L.length → (atL L i).1 ≠ s) → idx L s = none
  | [], _, _ => rfl
  | p :: r, s, h => by
    have h0 : p.1 ≠ s := h 0 (by simp)
    have := idx_none r s fun i hi => h (i + 1) (by simpa using hi)
    simp [idx, h0, this]
theorem idx_some : ∀ (L : List (Nm × Ent)) (s : Nm) (k : Nat), k < L.length → (∀ i, i < k → (atL L i).1 ≠ s) → (atL L k).1 = s → idx L s = some k
  | [], _, k, h, _, _ => by simp at h
  | p :: r, s, 0, _, _, h2 => by have : p.1 = s := h2; simp [idx, this]
  | p :: r, s, k + 1, hk, h, h2 => by
    have h0 : p.1 ≠ s := h 0 (by omega)
    have := idx_some r s k (by simpa using hk) (fun i hi => h (i + 1) (by omega)) h2
    simp [idx, h0, this]
theorem idx_get : ∀ {L : List (Nm × Ent)} {s : Nm} {i : Nat}, idx L s = some i → i < L.length ∧ (atL L i).1 = s ∧ gget L s = some (atL L i).2
  | [], _, _, h => by cases h
  | p :: r, s, i, h => by
    unfold idx at h
    by_cases e : p.1 = s
    · rw [if_pos e] at h; cases h
      exact ⟨by simp, e, by unfold gget; rw [List.find?_cons_of_pos (by simpa using e)]; rfl⟩
    · rw [if_neg e] at h
      cases hi : idx r s with
      | none => rw [hi] at h; cases h
      | some j =>
        rw [hi] at h; cases h
        obtain ⟨h1, h2, h3⟩ := idx_get hi
        refine ⟨by simpa using h1, h2, ?_⟩
        unfold gget at h3 ⊢
        rw [List.find?_cons_of_neg (by simpa using e)]; exact h3
theorem idx_miss : ∀ {L : List (Nm × Ent)} {s : Nm}, idx L s = none → gget L s = none
  | [], _, _ => rfl
  | p :: r, s, h => by
    unfold idx at h
    by_cases e : p.1 = s
    · rw [if_pos e] at h; cases h
    · rw [if_neg e] at h
      have := idx_miss (L := r) (s := s) (by cases hi : idx r s with | none => rfl | some j => rw [hi] at h; cases h)
      unfold gget at this ⊢
      rw [List.find?_cons_of_neg (by simpa using e)]; exact this
set_option maxRecDepth 100000 in
theorem at_any (h : RfC w R q v fu d L) (s : Nm) (hl : L.length < 1000000000000) :
    Calls Try.prog 73 #[ptr q, sv s] w fun e w' => e = .returned (.int .i64 (atI L s)) ∧ w' = w := by
  have c1 : w.cell? ⟨q, 1, none⟩ = some v := h.c.cell 1
  obtain ⟨po, c, rfl⟩ := h.form
  have H := hid h
  have HB := hid (fun x => sv_eq x s)
  clear h
  generalize hA : atI L s = A at *
  have HA := hid hA
  clear hA
  unfold sv
  generalize (⟨s.toArray⟩ : ByteArray) = Y at *
  go_enter Try.func73, Try.ntmps73
  go_wp2
  go_loopw [5] (fun v wr => ∃ k : Nat, k ≤ L.length ∧ v = .int .i64 (k : Int) ∧ wr = w ∧ ∀ i, i < k → (atL L i).1 ≠ s) (fun v _ => (L.length - intOf v).toNat)
  case atStart => exact ⟨0, by omega, rfl, rfl, fun i hi => by omega⟩
  case round =>
    obtain ⟨k, hk, rfl, hw, hok⟩ := hrel
    have HOK := hid hok
    subst hw
    clear hok
    by_cases hlt : k < L.length
    · have hlt' : (k : Int) < (L.length : Int) := by omega
      obtain ⟨g, cc, hv, ck, _⟩ := H.out.at hlt
      cases hv
      have hbq := HB.out (atL L k).1
      unfold sv at ck
      generalize (⟨(atL L k).1.toArray⟩ : ByteArray) = X at *
      by_cases he : (atL L k).1 = s
      · have hxy := hbq.2 he
        subst hxy
        clear hbq
        go_wp2
        go_ret
        exact ⟨by rw [← HA.out]; unfold atI; rw [idx_some L s k hlt HOK.out he]; rfl, rfl⟩
      · have hxy : X ≠ Y := fun e => he (hbq.1 e)
        have hx2 := ba_ne hxy
        clear hbq
        go_wp2
        go_roundw
        case rel =>
          refine ⟨k + 1, by omega, by go_num, by trivial, fun i hi => ?_⟩
          by_cases e : i = k
          · rw [e]; exact he
          · exact HOK.out i (by omega)
        case measure => simp [intOf]; omega
    · have hlt' : ¬ (k : Int) < (L.length : Int) := by omega
      go_wp2
      go_ret
      exact ⟨by rw [← HA.out]; unfold atI; rw [idx_none L s fun i hi => HOK.out i (by omega)]; rfl, rfl⟩
end
#print axioms ready_any
#print axioms at_any
end Go.Proofs.Ytfppmpfmafnfmaa

/- Contracts of Used and without of the document's drives. -/
namespace Go.Proofs.Ytfppmpfmafnfmaa
open Go Go.RowKit

/-- Files that lie in a row of their own. -/
def FilL (B : Nat) (w : World) (v : Value) (L : List (Nm × Ent)) : Prop := w.ownsRow B 98 3 v L.length (flat L)
theorem Try.infoFile : (Try.prog.info? 98).map (fun i => (i.zero, i.size, i.bytes)) = some (some (.agg #[.string ⟨#[]⟩, .slice none 0 0, .bool false]), 3, 48) := by kernel_rfl
theorem fil_one (x : Nm × Ent) (hx : ∃ po n c, x.2.v = .slice po n c) : ∀ u ∈ [sv x.1, x.2.v, .bool x.2.l], u.oneCell' = true := by
  obtain ⟨po, n, c, e⟩ := hx
  intro u hu
  simp at hu
  rcases hu with rfl | rfl | rfl
  · rfl
  · rw [e]; rfl
  · rfl
theorem FilL.push {B : Nat} {w : World} {v : Value} {L : List (Nm × Ent)} (h : FilL B w v L) (x : Nm × Ent) (hx : ∃ po n c, x.2.v = .slice po n c) (hn : L.length ≤ 1000000) (hB : B ≤ w.heap.size) :
    ∃ v' w', (Builtin.append_ #[73, 73] 73 #[v, .slice (some ⟨w.heap.size, 0, none⟩) 1 1]).run Try.prog (w.alloc (.cells #[sv x.1, x.2.v, .bool x.2.l] 98)) = .ok v' w' ∧ FilL B w' v' (L ++ [x]) ∧
      (w.alloc (.cells #[sv x.1, x.2.v, .bool x.2.l] 98)).grownBy w' v.ownBlock := by
  obtain ⟨i0, hi0, hz0, hz1, hz2⟩ := info_parts Try.infoFile
  have h2 : (w.alloc (.cells #[sv x.1, x.2.v, .bool x.2.l] 98)).ownsRow B 98 3 v L.length (flat L) := h.kept (World.grownBy_alloc w _ none) (by
    cases hv : v.ownBlock
    · exact Or.inl rfl
    · exact Or.inr (by simp))
  have hc : CAt (w.alloc (.cells #[sv x.1, x.2.v, .bool x.2.l] 98)) w.heap.size #[sv x.1, x.2.v, .bool x.2.l] 98 := CAt.made w _ _
  obtain ⟨v', w', hr, h3, h4, _, h5⟩ := run_append_own_at (P := Try.prog) (w.alloc (.cells #[sv x.1, x.2.v, .bool x.2.l] 98)) B 73 73 98 i0 _ 3 48 Try.underlying73 hi0 hz0 hz1 hz2 rfl (by decide) v L.length (flat L) h2 ⟨w.heap.size, 0, none⟩ 1 1 [sv x.1, x.2.v, .bool x.2.l] rfl (fun j u hj => by
      rw [add_none, Nat.zero_add, hc.cell]
      have : j = 0 ∨ j = 1 ∨ j = 2 := by rcases j with _ | _ | _ | j <;> simp at hj ⊢
      rcases this with rfl | rfl | rfl <;> simpa using hj) (fil_one x hx) (by unfold maxLen; omega) (by omega) (by rw [size_al]; omega)
  refine ⟨v', w', hr, ?_, h4⟩
  unfold FilL; rw [flat_app]; simpa [flat] using h3
theorem FilL.below {B : Nat} {w w' : World} {v : Value} {L : List (Nm × Ent)} (h : FilL B w v L) (hb : Below w.heap.size w w') : FilL B w' v L := ownsRow_keep h fun b hb' => hb.block b (own_ge h b hb').2
theorem FilL.nil (B : Nat) (w : World) : FilL B w (.slice none 0 0) [] := World.ownsRow_nil _ _ _ _
theorem take_at (L : List (Nm × Ent)) {k : Nat} (h : k < L.length) : L.take (k + 1) = L.take k ++ [atL L k] := by
  rw [List.take_add_one, List.getElem?_eq_getElem h]; simp [atL, List.getD, h]
theorem atL_mem {L : List (Nm × Ent)} {k : Nat} (h : k < L.length) : atL L k ∈ L := by unfold atL; rw [getD_in _ _ _ h]; exact List.getElem_mem h
section
variable {w w' : World} {R : Nat → Prop} {q : Nat} {v : Value} {fu : Option Nat} {d : Pd} {L : List (Nm × Ent)} {f : Fs}
theorem RfC.slice (h : RfC w R q v fu d L) {x : Nm × Ent} (hx : x ∈ L) : ∃ po c, x.2.v = .slice po x.2.b.length c := own_form (h.by_ x hx)
theorem used_take {L : List (Nm × Ent)} {k : Nat} (h : k < L.length) : usedOf (gmap Ent.fi (L.take (k + 1))) = usedOf (gmap Ent.fi (L.take k)) + (atL L k).2.b.length := by
  rw [take_at L h]; simp [gmap, usedOf, Ent.fi]
theorem used_take_le (L : List (Nm × Ent)) (k : Nat) : usedOf (gmap Ent.fi (L.take k)) ≤ usedOf (gmap Ent.fi L) := by
  have : L = L.take k ++ L.drop k := (List.take_append_drop k L).symm
  have h2 : usedOf (gmap Ent.fi L) = usedOf (gmap Ent.fi (L.take k)) + usedOf (gmap Ent.fi (L.drop k)) := by
    have h3 : ∀ A B : List (Nm × Ent), usedOf (gmap Ent.fi (A ++ B)) = usedOf (gmap Ent.fi A) + usedOf (gmap Ent.fi B) := fun A B => by simp [gmap, usedOf]
    rw [← h3, List.take_append_drop]
  omega
set_option maxHeartbeats 400000 in
set_option maxRecDepth 100000 in
theorem rused_any (h : RfC w R q v fu d L) (hl : L.length < 1000000) (hu : usedOf d.F ≤ 1000000000000) :
    Calls Try.prog 55 #[ptr q] w fun e w' => e = .returned (.int .i64 (usedOf d.F : Int)) ∧ w' = w := by
  have c1 : w.cell? ⟨q, 1, none⟩ = some v := h.c.cell 1
  obtain ⟨po, c, rfl⟩ := h.form
  have HU : Hid (∀ k, usedOf (gmap Ent.fi (L.take k)) ≤ 1000000000000) := hid (fun k => Nat.le_trans (used_take_le L k) (by rw [← h.fs]; exact hu))
  have HE : Hid (usedOf (gmap Ent.fi L) = usedOf d.F) := hid (by rw [h.fs])
  have H := hid h
  clear h hu
  generalize usedOf d.F = u at *
  go_enter Try.func55, Try.ntmps55
  go_wp2
  go_loopw [3, 4] (fun v3 v wr => ∃ k : Nat, k ≤ L.length ∧ v = .int .i64 (k : Int) ∧ v3 = .int .i64 (usedOf (gmap Ent.fi (L.take k)) : Int) ∧ wr = w) (fun _ v _ => (L.length - intOf v).toNat)
  case atStart => exact ⟨0, by omega, rfl, rfl, rfl⟩
  case round =>
    obtain ⟨k, hk, rfl, rfl, hw⟩ := hrel
    subst hw
    by_cases hlt : k < L.length
    · have hlt' : (k : Int) < (L.length : Int) := by omega
      obtain ⟨g, cc, hv, _, ck, _⟩ := H.out.at hlt
      obtain ⟨pb, cb, hb⟩ := H.out.slice (atL_mem hlt)
      rw [hb] at ck
      cases hv
      have hst := used_take hlt
      have hle := HU.out (k + 1)
      rw [hst] at hle
      have HST := hid hst
      clear hst
      generalize usedOf (gmap Ent.fi (L.take k)) = u1 at *
      generalize (atL L k).2.b.length = n1 at *
      go_wp2
      go_roundw
      case rel => exact ⟨k + 1, by omega, by go_num, by rw [HST.out]; go_num, by trivial⟩
      case measure => simp [intOf]; omega
    · have hlt' : ¬ (k : Int) < (L.length : Int) := by omega
      have e : k = L.length := by omega
      subst e
      go_wp2
      go_ret
      exact ⟨by rw [HE.out]; rfl, rfl⟩
set_option maxHeartbeats 1000000 in
set_option maxRecDepth 100000 in
theorem without_any (h : RfC w R q v fu d L) (s : Nm) (hl : L.length < 1000000) :
    Calls Try.prog 76 #[ptr q, sv s] w fun e w' => ∃ v2, e = .returned v2 ∧ FilL w.heap.size w' v2 (gdel L s) ∧ Below w.heap.size w w' := by
  have hcq : ∀ W, Below w.heap.size w W → W.cell? ⟨q, 1, none⟩ = some v := fun W hb => (h.below hb).c.cell 1
  obtain ⟨po, c, rfl⟩ := h.form
  have HCQ := hid hcq
  have c1 := hcq w (Below.refl _ _)
  have H := hid h
  have HB := hid (fun x => sv_eq x s)
  have HL0 := hid (len_del L s)
  clear h hcq
  have HG : Hid (gdel (L.take L.length) s = gdel L s) := hid (by rw [List.take_length])
  unfold sv
  generalize hY : (⟨s.toArray⟩ : ByteArray) = Y at *
  clear hY
  go_enter Try.func76, Try.ntmps76
  go_wp2
  go_loopw [5, 6] (fun v5 v wr => ∃ k : Nat, k ≤ L.length ∧ v = .int .i64 (k : Int) ∧ FilL w.heap.size wr v5 (gdel (L.take k) s) ∧ Below w.heap.size w wr) (fun _ v _ => (L.length - intOf v).toNat)
  case atStart => exact ⟨0, by omega, rfl, FilL.nil _ _, Below.refl _ _⟩
  case round =>
    obtain ⟨k, hk, rfl, hF, hb⟩ := hrel
    obtain ⟨po5, c5, hv5⟩ := own_form hF
    subst hv5
    have HF := hid hF
    have HBE := hid hb
    have d1 := HCQ.out wr hb
    clear c1 hF hb
    by_cases hlt : k < L.length
    · have hlt' : (k : Int) < (L.length : Int) := by omega
      obtain ⟨g, cc, hv, ck, ck1, ck2, _⟩ := (H.out.below HBE.out).at hlt
      obtain ⟨pb, cb, hb⟩ := H.out.slice (atL_mem hlt)
      have HPB := hid hb
      cases hv
      have hbq := HB.out (atL L k).1
      have HT := hid (take_at L hlt)
      by_cases he : (atL L k).1 = s
      · have hxy := hbq.2 he
        have HD : Hid (gdel (L.take (k + 1)) s = gdel (L.take k) s) := hid (by rw [HT.out]; simp [gdel, he])
        unfold sv at ck
        rw [hxy] at ck
        clear hbq ck1 ck2 hb
        go_wp2
        go_roundw
        case rel => exact ⟨k + 1, by omega, by go_num, by rw [HD.out]; exact HF.out, HBE.out⟩
        case measure => simp [intOf]; omega
      · have hxy : (⟨(atL L k).1.toArray⟩ : ByteArray) ≠ Y := fun e => he (hbq.1 e)
        have hx2 := ba_ne hxy
        have HD : Hid (gdel (L.take (k + 1)) s = gdel (L.take k) s ++ [atL L k]) := hid (by rw [HT.out]; simp [gdel, he])
        have HLN : Hid ((gdel (L.take k) s).length ≤ 1000000) := hid (by have := len_del (L.take k) s; rw [List.length_take] at this; omega)
        obtain ⟨v4, w4, hrun, hF4, hg4⟩ := HF.out.push (atL L k) ⟨_, _, _, hb⟩ HLN.out HBE.out.size
        have HRUN := hid hrun
        have HF4 := hid hF4
        have HG4 := hid hg4
        clear hbq hrun hF4 hg4 hb hxy
        generalize hX : atL L k = X at *
        obtain ⟨xn, xv, xb, xl⟩ := X
        simp only at ck ck1 ck2 HRUN HG4 HPB hx2
        have HX := hid hX
        clear hX
        unfold sv at ck HRUN HG4
        generalize (⟨xn.toArray⟩ : ByteArray) = XX at *
        go_wp2_with (at_builtin; refine wpList_append_run _ _ 73 rfl rfl _ _ v4 rfl rfl HRUN.out ?_)
        go_roundw
        case rel =>
          refine ⟨k + 1, by omega, by go_num, by rw [HD.out]; exact HF4.out, ?_⟩
          exact below_on_grown (below_on _ _ HBE.out ((Below.refl _ _).alloc (Nat.le_refl _) _)) HG4.out (fun b hb => (own_ge HF.out b hb).1)
        case measure => simp [intOf]; omega
    · have hlt' : ¬ (k : Int) < (L.length : Int) := by omega
      have e : k = L.length := by omega
      subst e
      have HR : Hid (FilL w.heap.size wr (.slice po5 (gdel L s).length c5) (gdel L s)) := hid (by have := HF.out; rw [HG.out] at this; exact this)
      go_wp2
      go_ret
      exact ⟨_, rfl, HR.out, HBE.out⟩
end
#print axioms rused_any
#print axioms without_any
end Go.Proofs.Ytfppmpfmafnfmaa

/- Contract of with of the document's drives. -/
namespace Go.Proofs.Ytfppmpfmafnfmaa
open Go Go.RowKit

theorem gins_has {α : Type} (x : Nm × α) : ∀ (A B : List (Nm × α)), (∃ y ∈ A, bytesBefore x.1 y.1 = true) → gins x (A ++ B) = gins x A ++ B
  | [], _, h => by obtain ⟨y, hy, _⟩ := h; cases hy
  | a :: r, B, h => by
    show gins x (a :: (r ++ B)) = gins x (a :: r) ++ B
    unfold gins
    by_cases e : bytesBefore x.1 a.1 = true
    · simp [e]
    · have h2 : ∃ y ∈ r, bytesBefore x.1 y.1 = true := by
        obtain ⟨y, hy, hb⟩ := h
        rcases List.mem_cons.1 hy with rfl | hy
        · exact absurd hb e
        · exact ⟨y, hy, hb⟩
      simp [e, gins_has x r B h2]
theorem gins_no {α : Type} (x : Nm × α) : ∀ (A B : List (Nm × α)), (∀ y ∈ A, bytesBefore x.1 y.1 = false) → gins x (A ++ B) = A ++ gins x B
  | [], _, _ => rfl
  | a :: r, B, h => by
    show gins x (a :: (r ++ B)) = a :: (r ++ gins x B)
    conv => lhs; unfold gins
    have e := h a (by simp)
    simp [e, gins_no x r B fun y hy => h y (by simp [hy])]
theorem gins_end {α : Type} (x : Nm × α) (A : List (Nm × α)) (h : ∀ y ∈ A, bytesBefore x.1 y.1 = false) : gins x A = A ++ [x] := by
  have := gins_no x A [] h
  simpa [gins] using this
/-- Files of which the first k have been gone through, with x among them (b), or not yet. -/
def soFar (x : Nm × Ent) (G : List (Nm × Ent)) (k : Nat) (b : Bool) : List (Nm × Ent) := if b then gins x (G.take k) else G.take k
structure SoF (x : Nm × Ent) (G : List (Nm × Ent)) (k : Nat) (b : Bool) : Prop where
  t : b = true → ∃ y ∈ G.take k, bytesBefore x.1 y.1 = true
  f : b = false → ∀ y ∈ G.take k, bytesBefore x.1 y.1 = false
theorem sof_in {x : Nm × Ent} {G : List (Nm × Ent)} {k : Nat} (h : SoF x G k true) (hk : k < G.length) : SoF x G (k + 1) true ∧ soFar x G (k + 1) true = soFar x G k true ++ [atL G k] := by
  obtain ⟨y, hy, hb⟩ := h.t rfl
  refine ⟨⟨fun _ => ⟨y, ?_, hb⟩, fun e => by cases e⟩, ?_⟩
  · rw [take_at G hk]; simp [hy]
  · unfold soFar; rw [if_pos rfl, if_pos rfl, take_at G hk, gins_has _ _ _ ⟨y, hy, hb⟩]
theorem sof_now {x : Nm × Ent} {G : List (Nm × Ent)} {k : Nat} (h : SoF x G k false) (hk : k < G.length) (hb : bytesBefore x.1 (atL G k).1 = true) : SoF x G (k + 1) true ∧ soFar x G (k + 1) true = (soFar x G k false ++ [x]) ++ [atL G k] := by
  have h2 := h.f rfl
  refine ⟨⟨fun _ => ⟨atL G k, by rw [take_at G hk]; simp, hb⟩, fun e => by cases e⟩, ?_⟩
  unfold soFar; rw [if_pos rfl, if_neg (by simp), take_at G hk, gins_no _ _ _ h2]; simp [gins, hb]
theorem sof_not {x : Nm × Ent} {G : List (Nm × Ent)} {k : Nat} (h : SoF x G k false) (hk : k < G.length) (hb : bytesBefore x.1 (atL G k).1 = false) : SoF x G (k + 1) false ∧ soFar x G (k + 1) false = soFar x G k false ++ [atL G k] := by
  have h2 := h.f rfl
  refine ⟨⟨fun e => (by cases e), fun _ y hy => ?_⟩, ?_⟩
  · rw [take_at G hk] at hy
    rcases List.mem_append.1 hy with hy | hy
    · exact h2 y hy
    · have : y = atL G k := by simpa using hy
      rw [this]; exact hb
  · unfold soFar; rw [if_neg (by simp), if_neg (by simp), take_at G hk]
theorem sof_end {x : Nm × Ent} {G : List (Nm × Ent)} {b : Bool} (h : SoF x G G.length b) : gins x G = if b then soFar x G G.length b else soFar x G G.length b ++ [x] := by
  cases b
  · have h2 := h.f rfl
    rw [List.take_length] at h2
    simp [soFar, gins_end x G h2]
  · simp [soFar]
theorem sof_len {x : Nm × Ent} {G : List (Nm × Ent)} {k : Nat} {b : Bool} : (soFar x G k b).length ≤ G.length + 1 := by
  unfold soFar
  split
  · rw [(gins_perm x _).length_eq]; simp [List.length_take]; omega
  · simp [List.length_take]; omega
theorem less_before : ∀ a b : Nm, Op.bytesLess a b = bytesBefore a b
  | [], [] => rfl
  | [], _ :: _ => rfl
  | _ :: _, [] => rfl
  | a :: r, b :: s => by simp [Op.bytesLess, bytesBefore, less_before r s]
theorem FilL.at {B : Nat} {w : World} {v : Value} {L : List (Nm × Ent)} (h : FilL B w v L) {i : Nat} (hi : i < L.length) : ∃ g c, v = .slice (some ⟨g, 0, none⟩) L.length c ∧ w.cell? ⟨g, i * 3, none⟩ = some (sv (atL L i).1) ∧ w.cell? ⟨g, i * 3 + 1, none⟩ = some (atL L i).2.v ∧ w.cell? ⟨g, i * 3 + 2, none⟩ = some (.bool (atL L i).2.l) ∧ ∀ j, w.frozen? ⟨g, j, none⟩ = false := by
  rcases h.2 with ⟨_, h0⟩ | ⟨g, cap, cur, rfl, _, hg, h1, _, h3, h4⟩
  · omega
  · have hc : CAt w g cur 98 := hg
    have get : ∀ j, j < 3 → w.cell? ⟨g, i * 3 + j, none⟩ = (fent (atL L i))[j]? := fun j hj => by
      rw [hc.cell, ← flat_get L i j hi hj, ← h4, List.getElem?_take, if_pos (by omega)]
      simp
    exact ⟨g, cap, rfl, get 0 (by omega), get 1 (by omega), get 2 (by omega), fun j => hc.free j⟩
set_option maxHeartbeats 1000000 in
set_option maxRecDepth 100000 in
theorem with_any {w : World} {R : Nat → Prop} {q : Nat} {v : Value} {fu : Option Nat} {d : Pd} {L : List (Nm × Ent)} (h : RfC w R q v fu d L) (s : Nm) (e : Ent) (hl : L.length < 999990) (he : w.ownsRow 0 5 1 e.v e.b.length (e.b.map u8)) (heR : ∀ b, e.v.ownBlock = some b → R b) :
    Calls Try.prog 75 #[ptr q, .agg #[sv s, e.v, .bool e.l]] w fun e1 w' => e1 = .returned (.tuple #[]) ∧ (∃ v2, RfC w' (grw R w w') q v2 fu { d with F := gput d.F s e.fi } (gput L s e)) ∧ Only (fun b => b = q) w w' := by
  have HW := hid (fun o => without_any (h.alloc o) s (by omega))
  have HLG : Hid ((gdel L s).length < 999990) := hid (by have := len_del L s; omega)
  obtain ⟨pe, ce, hev⟩ := own_form he
  have HE := hid he
  have HER := hid heR
  have H := hid h
  clear h he heR
  have HXV : Hid (∃ po n c, ((s, e) : Nm × Ent).2.v = .slice po n c) := hid ⟨_, _, _, hev⟩
  have HEND : Hid (∀ w1 W v4, Below w.heap.size w w1 → Below w1.heap.size w1 W → FilL w1.heap.size W v4 (gput L s e) → (∃ v2, RfC (W.setCell ⟨q, 1, none⟩ v4) (grw R w (W.setCell ⟨q, 1, none⟩ v4)) q v2 fu { d with F := gput d.F s e.fi } (gput L s e)) ∧ Only (fun b => b = q) w (W.setCell ⟨q, 1, none⟩ v4)) := hid (by
    intro w1 W v4 hb1 hbW hF
    have hb := below_on _ _ hb1 hbW
    have h1 := H.out.below hb
    refine ⟨⟨v4, ?_⟩, ?_⟩
    · refine h1.setL v4 (gput L s e) (own_base hF (Nat.zero_le _)) (fun x hx => ?_) (R2 := grw R w (W.setCell ⟨q, 1, none⟩ v4)) (fun b hb => Or.inl hb) (fun b hb' => Or.inr ?_) (fun x hx b hb' => Or.inl ?_) (fun b hb' => ?_) ?_
      · rcases mem_put.1 hx with rfl | ⟨hx, _⟩
        · exact ownsRow_keep HE.out fun b hb' => hb.block b (own_ge HE.out b hb').2
        · exact h1.by_ x hx
      · have h2 := own_ge hF b hb'
        rw [setCell_size]
        exact ⟨Nat.le_trans hb1.size h2.1, h2.2⟩
      · rcases mem_put.1 hx with rfl | ⟨hx, _⟩
        · exact HER.out b hb'
        · exact h1.rb x hx b hb'
      · rcases hb' with hb' | hb'
        · exact h1.lt b hb'
        · rw [setCell_size] at hb'; exact hb'.2
      · rw [H.out.fs, ← gput_map]
    · exact (Only.of_below hb).trans (Only.set _ _ _ rfl))
  obtain ⟨ev, eb, el⟩ := e
  simp only at hev
  subst hev
  generalize hX : ((s, ⟨.slice pe eb.length ce, eb, el⟩) : Nm × Ent) = X at *
  have hx1 : X.1 = s := by rw [← hX]
  have hx2 : X.2.v = .slice pe eb.length ce := by rw [← hX]
  have hx3 : X.2.l = el := by rw [← hX]
  have HX := hid (And.intro hx1 (And.intro hx2 hx3))
  have HGP : Hid (gput L s ⟨.slice pe eb.length ce, eb, el⟩ = gins X (gdel L s)) := hid (by rw [← hX]; rfl)
  have HGS : Hid (∀ y ∈ gdel L s, ∃ po n c, y.2.v = .slice po n c) := hid (fun y hy => by obtain ⟨po, c, e⟩ := H.out.slice (mem_del.1 hy).1; exact ⟨_, _, _, e⟩)
  clear hX hx1 hx2 hx3 HE HER
  generalize hG : gdel L s = G at *
  clear hG
  go_enter Try.func75, Try.ntmps75
  go_wp2_with (go_at_call 76; refine (HW.out _).mono ?_; rintro e w1 ⟨v6, rfl, hF6, hb1⟩; have HF6 := hid hF6; have HB1 := hid hb1; obtain ⟨po6, c6, hv6⟩ := own_form hF6; subst hv6; clear hF6 hb1)
  have HC1 : Hid (CAt w1 w.heap.size #[sv s, .slice pe eb.length ce, .bool el] 98) := hid ((CAt.made w _ _).below HB1.out)
  have hlG := HLG.out
  clear HW
  go_loopw [4, 5, 7] (fun v4 v5 v7 wr => ∃ (k : Nat) (b : Bool), k ≤ G.length ∧ v5 = .bool b ∧ v7 = .int .i64 (k : Int) ∧ SoF X G k b ∧ FilL w1.heap.size wr v4 (soFar X G k b) ∧ Below w1.heap.size w1 wr) (fun _ _ v _ => (G.length - intOf v).toNat)
  case atStart => exact ⟨0, false, by omega, rfl, rfl, ⟨fun e => (by cases e), fun _ y hy => (by simp at hy)⟩, FilL.nil _ _, Below.refl _ _⟩
  case round =>
    obtain ⟨k, b, hk, rfl, rfl, hS, hF, hb⟩ := hrel
    obtain ⟨po4, c4, hv4⟩ := own_form hF
    subst hv4
    have HF := hid hF
    have HS := hid hS
    have HB := hid hb
    have hcb := HC1.out.below hb
    have b0 : wr.cell? ⟨w.heap.size, 0, none⟩ = some (sv s) := hcb.cell 0
    have b1 : wr.cell? ⟨w.heap.size, 1, none⟩ = some (.slice pe eb.length ce) := hcb.cell 1
    have b2 : wr.cell? ⟨w.heap.size, 2, none⟩ = some (.bool el) := hcb.cell 2
    clear hF hS hb hcb
    by_cases hlt : k < G.length
    · have hlt' : (k : Int) < (G.length : Int) := by omega
      obtain ⟨g6, cc6, hv6, k0, k1, k2, _⟩ := (HF6.out.below HB.out).at hlt
      cases hv6
      obtain ⟨py, ny, cy, hyv⟩ := HGS.out _ (atL_mem hlt)
      have HY := hid hyv
      generalize hY : atL G k = Y at *
      have HYE := hid hY
      obtain ⟨yn, yv, yb, yl⟩ := Y
      simp only at k0 k1 k2 hyv
      subst hyv
      clear hY
      cases b
      · cases hbb : bytesBefore X.1 (atL G k).1
        · obtain ⟨hS2, hE2⟩ := sof_not HS.out hlt hbb
          have HS2 := hid hS2
          have HE2 := hid hE2
          clear hS2 hE2
          rw [HYE.out, HX.out.1, ← less_before] at hbb
          simp only at hbb
          go_wp2
          go_quiet (fail)
          obtain ⟨v5, w5, hrun, hF5, hg5⟩ := (HF.out.below (below_drewN wr nq)).push (atL G k) (by rw [HYE.out]; exact ⟨_, _, _, rfl⟩) (by have := @sof_len X G k false; have := HLG.out; omega) HB.out.size
          rw [HYE.out] at hrun hg5
          have HRUN := hid hrun
          have HF5 : Hid (FilL w1.heap.size w5 v5 (soFar X G (k + 1) false)) := hid (by rw [HE2.out]; exact hF5)
          have HG5 := hid (below_on_grown (below_on _ _ (below_on _ _ HB.out (below_drewN wr nq)) ((Below.refl _ _).alloc (Nat.le_refl _) _)) hg5 (fun b hb => (own_ge HF.out b hb).1))
          clear hrun hF5 hg5
          simp only at HRUN
          go_wp2_with (at_builtin; refine wpList_append_run _ _ 73 rfl rfl _ _ v5 rfl rfl HRUN.out ?_)
          go_roundw
          case rel => exact ⟨k + 1, false, by omega, rfl, by go_num, HS2.out, HF5.out, HG5.out⟩
          case measure => simp [intOf]; omega
        · obtain ⟨hS2, hE2⟩ := sof_now HS.out hlt hbb
          have HS2 := hid hS2
          have HE2 := hid hE2
          clear hS2 hE2
          rw [HYE.out, HX.out.1, ← less_before] at hbb
          simp only at hbb
          go_wp2
          go_quiet (fail)
          obtain ⟨v5, w5, hrun, hF5, hg5⟩ := (HF.out.below (below_drewN wr nq)).push X ⟨_, _, _, HX.out.2.1⟩ (by have := @sof_len X G k false; have := HLG.out; omega) HB.out.size
          rw [HX.out.1, HX.out.2.1, HX.out.2.2] at hrun hg5
          have HRUN := hid hrun
          have hML : (soFar X G k false ++ [X]).length ≤ 1000000 := by rw [List.length_append]; have := @sof_len X G k false; have := HLG.out; simp; omega
          generalize hM : soFar X G k false ++ [X] = M at *
          obtain ⟨po5, c5, hv5⟩ := own_form hF5
          subst hv5
          have HRUN := hid hrun
          have HF5 := hid hF5
          have hB5 := (below_on_grown (below_on _ _ (below_on _ _ HB.out (below_drewN wr nq)) ((Below.refl _ _).alloc (Nat.le_refl _) _)) hg5 (fun b hb => (own_ge HF.out b hb).1))
          have HB5 := hid hB5
          obtain ⟨g7, cc7, hv7, m0, m1, m2, _⟩ := (HF6.out.below hB5).at hlt
          cases hv7
          rw [HYE.out] at m0 m1 m2
          simp only at m0 m1 m2
          obtain ⟨v8, w8, hrun8, hF8, hg8⟩ := hF5.push (atL G k) (by rw [HYE.out]; exact ⟨_, _, _, rfl⟩) hML hB5.size
          rw [HYE.out] at hrun8 hg8
          have HRUN8 := hid hrun8
          have HF8 : Hid (FilL w1.heap.size w8 v8 (soFar X G (k + 1) true)) := hid (by rw [HE2.out]; exact hF8)
          have HB8 := hid (below_on_grown (below_on _ _ HB5.out ((Below.refl _ _).alloc (Nat.le_refl _) _)) hg8 (fun b hb => (own_ge HF5.out b hb).1))
          clear hrun hF5 hg5 hB5 hrun8 hF8 hg8 hM hML
          simp only at HRUN HRUN8
          have t1 : True := trivial
          go_wp2_with (first
            | (at_builtin; have _t := t1; refine wpList_append_run _ _ 73 rfl rfl _ _ _ rfl rfl HRUN.out ?_; clear t1)
            | (at_builtin; refine wpList_append_run _ _ 73 rfl rfl _ _ v8 rfl rfl HRUN8.out ?_))
          go_roundw
          case rel => exact ⟨k + 1, true, by omega, rfl, by go_num, HS2.out, HF8.out, HB8.out⟩
          case measure => simp [intOf]; omega
      · obtain ⟨hS2, hE2⟩ := sof_in HS.out hlt
        have HS2 := hid hS2
        have HE2 := hid hE2
        clear hS2 hE2
        go_wp2
        go_quiet (fail)
        obtain ⟨v5, w5, hrun, hF5, hg5⟩ := (HF.out.below (below_drewN wr nq)).push (atL G k) (by rw [HYE.out]; exact ⟨_, _, _, rfl⟩) (by have := @sof_len X G k true; have := HLG.out; omega) HB.out.size
        rw [HYE.out] at hrun hg5
        have HRUN := hid hrun
        have HF5 : Hid (FilL w1.heap.size w5 v5 (soFar X G (k + 1) true)) := hid (by rw [HE2.out]; exact hF5)
        have HG5 := hid (below_on_grown (below_on _ _ (below_on _ _ HB.out (below_drewN wr nq)) ((Below.refl _ _).alloc (Nat.le_refl _) _)) hg5 (fun b hb => (own_ge HF.out b hb).1))
        clear hrun hF5 hg5
        simp only at HRUN
        go_wp2_with (at_builtin; refine wpList_append_run _ _ 73 rfl rfl _ _ v5 rfl rfl HRUN.out ?_)
        go_roundw
        case rel => exact ⟨k + 1, true, by omega, rfl, by go_num, HS2.out, HF5.out, HG5.out⟩
        case measure => simp [intOf]; omega
    · have hlt' : ¬ (k : Int) < (G.length : Int) := by omega
      have ek : k = G.length := by omega
      subst ek
      have HEN := hid (sof_end HS.out)
      cases b
      · obtain ⟨v5, w5, hrun, hF5, hg5⟩ := HF.out.push X ⟨_, _, _, HX.out.2.1⟩ (by have := @sof_len X G G.length false; have := HLG.out; omega) HB.out.size
        rw [HX.out.1, HX.out.2.1, HX.out.2.2] at hrun hg5
        have HEN2 : Hid (gins X G = soFar X G G.length false ++ [X]) := hid (by rw [HEN.out]; rfl)
        generalize soFar X G G.length false ++ [X] = M at *
        obtain ⟨po5, c5, hv5⟩ := own_form hF5
        subst hv5
        have HRUN := hid hrun
        have HF5 : Hid (FilL w1.heap.size w5 _ (gput L s ⟨.slice pe eb.length ce, eb, el⟩)) := hid (by rw [HGP.out, HEN2.out]; exact hF5)
        have HG5 := hid (below_on_grown (below_on _ _ HB.out ((Below.refl _ _).alloc (Nat.le_refl _) _)) hg5 (fun b hb => (own_ge HF.out b hb).1))
        have HZ := hid (HEND.out w1 w5 _ (below_on _ _ ((Below.refl _ _).alloc (Nat.le_refl _) _) HB1.out) HG5.out HF5.out)
        have hq := (H.out.below (below_on _ _ (below_on _ _ ((Below.refl _ _).alloc (Nat.le_refl _) _) HB1.out) HG5.out))
        have cq1 : w5.cell? ⟨q, 1, none⟩ = some v := hq.c.cell 1
        have zq1 : w5.frozen? ⟨q, 1, none⟩ = false := hq.c.free 1
        clear hrun hF5 hg5 hq
        go_wp2_with (at_builtin; refine wpList_append_run _ _ 73 rfl rfl _ _ _ rfl rfl HRUN.out ?_)
        go_end0
        exact ⟨rfl, HZ.out⟩
      · have HF5 : Hid (FilL w1.heap.size wr (.slice po4 (soFar X G G.length true).length c4) (gput L s ⟨.slice pe eb.length ce, eb, el⟩)) := hid (by rw [HGP.out, HEN.out]; exact HF.out)
        have HZ := hid (HEND.out w1 wr _ (below_on _ _ ((Below.refl _ _).alloc (Nat.le_refl _) _) HB1.out) HB.out HF5.out)
        have hq := (H.out.below (below_on _ _ (below_on _ _ ((Below.refl _ _).alloc (Nat.le_refl _) _) HB1.out) HB.out))
        have cq1 : wr.cell? ⟨q, 1, none⟩ = some v := hq.c.cell 1
        have zq1 : wr.frozen? ⟨q, 1, none⟩ = false := hq.c.free 1
        clear hq
        go_wp2
        go_end0
        exact ⟨rfl, HZ.out⟩
#print axioms with_any
end Go.Proofs.Ytfppmpfmafnfmaa

/- Copies; what a change of the document's drives leaves; contracts of Delete and Read. -/
namespace Go.Proofs.Ytfppmpfmafnfmaa
open Go Go.RowKit

theorem grown_made {w w' : World} {o : Obj} (hg : (w.alloc o).grownBy w' (some w.heap.size)) : Below w.heap.size w w' :=
  below_on_grown ((Below.refl _ _).alloc (Nat.le_refl _) _) hg fun b hb => by cases hb; exact Nat.le_refl _
/-- append([]byte{}, b...) -/
theorem copyB {w : World} {po : Option Addr} {bs : List Nat} (h : BAt w po bs) (c : Nat) (hn : bs.length ≤ 1000000000) :
    ∃ po' c' w', (Builtin.append_ #[33, 33] 33 #[.slice (some ⟨w.heap.size, 0, none⟩) 0 0, .slice po bs.length c]).run Try.prog (w.alloc (.cells #[] 5)) = .ok (.slice po' bs.length c') w' ∧ w'.ownsRow w.heap.size 5 1 (.slice po' bs.length c') bs.length (bs.map u8) ∧ Below w.heap.size w w' := by
  have h0 : (w.alloc (.cells #[] 5)).ownsRow w.heap.size 5 1 (.slice (some ⟨w.heap.size, 0, none⟩) 0 0) 0 [] := World.ownsRow_made w #[] 0 (Nat.le_refl _) (by unfold maxLen; omega) (by simp)
  have hi5 : (Try.prog.info? 5).map (fun i => (i.zero, i.size, i.bytes)) = some (some (.int .u8 0), 1, 1) := by kernel_rfl
  obtain ⟨i0, hi0, hz0, hz1, hz2⟩ := info_parts hi5
  rcases h with ⟨rfl, rfl⟩ | ⟨a, rfl, h⟩
  · refine ⟨some ⟨w.heap.size, 0, none⟩, 0, _, ?_, h0, (Below.refl _ _).alloc (Nat.le_refl _) _⟩
    simp [Builtin.append_, run_underlying Try.underlying33, sizeOf, typeInfo, hi0, Builtin.lenOf, Builtin.firstCells, storeCells]
  · obtain ⟨v', w', hr, h3, h4, _, _⟩ := run_append_own_at (P := Try.prog) (w.alloc (.cells #[] 5)) w.heap.size 33 33 5 i0 (.int .u8 0) 1 1 Try.underlying33 hi0 hz0 hz1 hz2 rfl (by decide) _ 0 [] h0 a bs.length c (bs.map u8) (by simp) (fun j u hj => by
      have hjl : j < bs.length := by
        rcases Nat.lt_or_ge j bs.length with q | q
        · exact q
        · rw [List.getElem?_eq_none (by simpa using q)] at hj; cases hj
      have e : u = u8 (bs.getD j 0) := by simp [hjl] at hj; rw [← hj]; simp [List.getD, hjl]
      have hc := h j hjl
      rw [e]
      exact (World.cell?_of_block (((Below.refl w.heap.size w).alloc (Nat.le_refl _) _).block (a.add j).block (cell_lt' (by rw [hc]; simp)))).trans hc) (by intro u hu; simp at hu; obtain ⟨k, _, rfl⟩ := hu; rfl) (by unfold maxLen; omega) (by omega) (by rw [size_al]; omega)
    have h3' : w'.ownsRow w.heap.size 5 1 v' bs.length (bs.map u8) := by simpa using h3
    obtain ⟨po', c', rfl⟩ := own_form h3'
    exact ⟨po', c', w', hr, h3', grown_made h4⟩
/-- append([]File{}, l...) -/
theorem copyF {w : World} {B : Nat} {v : Value} {L : List (Nm × Ent)} (h : FilL B w v L) (hL : ∀ x ∈ L, ∃ po n c, x.2.v = .slice po n c) (hn : L.length ≤ 1000000) :
    ∃ g c' w', (Builtin.append_ #[73, 73] 73 #[.slice (some ⟨w.heap.size, 0, none⟩) 0 0, v]).run Try.prog (w.alloc (.cells #[] 98)) = .ok (.slice (some ⟨g, 0, none⟩) L.length c') w' ∧ FilL w.heap.size w' (.slice (some ⟨g, 0, none⟩) L.length c') L ∧ Below w.heap.size w w' := by
  have h0 : (w.alloc (.cells #[] 98)).ownsRow w.heap.size 98 3 (.slice (some ⟨w.heap.size, 0, none⟩) 0 0) 0 [] := World.ownsRow_made w #[] 0 (Nat.le_refl _) (by unfold maxLen; omega) (by simp)
  obtain ⟨i0, hi0, hz0, hz1, hz2⟩ := info_parts Try.infoFile
  rcases h.2 with ⟨rfl, hl0⟩ | ⟨g, cap, cur, rfl, hbg, hg, h1, hm, h3, h4⟩
  · have : L = [] := List.eq_nil_of_length_eq_zero hl0
    subst this
    refine ⟨w.heap.size, 0, _, ?_, h0, (Below.refl _ _).alloc (Nat.le_refl _) _⟩
    simp [Builtin.append_, run_underlying Try.underlying73, sizeOf, typeInfo, hi0, Builtin.lenOf, Builtin.firstCells, storeCells]
  · have hc : CAt w g cur 98 := hg
    obtain ⟨v', w', hr, k3, k4, k5, _⟩ := run_append_own_at (P := Try.prog) (w.alloc (.cells #[] 98)) w.heap.size 73 73 98 i0 _ 3 48 Try.underlying73 hi0 hz0 hz1 hz2 rfl (by decide) _ 0 [] h0 ⟨g, 0, none⟩ L.length cap (flat L) (by rw [flat_len]) (fun j u hj => by
      rw [add_none, Nat.zero_add]
      rw [World.cell?_of_block (((Below.refl w.heap.size w).alloc (Nat.le_refl _) _).block g hc.lt), hc.cell]
      have hjl : j < L.length * 3 := by
        rcases Nat.lt_or_ge j (L.length * 3) with q | q
        · exact q
        · rw [List.getElem?_eq_none (by rw [flat_len]; exact q)] at hj; cases hj
      rw [← hj, ← h4, List.getElem?_take, if_pos hjl]; simp) (fun u hu => by
      have : ∀ (M : List (Nm × Ent)), (∀ x ∈ M, ∃ po n c, x.2.v = .slice po n c) → ∀ u ∈ flat M, u.oneCell' = true := fun M => by
        induction M with
        | nil => intro _ u hu; cases hu
        | cons p r ih =>
          intro hM u hu
          simp only [flat, List.mem_cons] at hu
          rcases hu with rfl | rfl | rfl | hu
          · rfl
          · obtain ⟨po, n, c, e⟩ := hM p (by simp); rw [e]; rfl
          · rfl
          · exact ih (fun x hx => hM x (by simp [hx])) u hu
      exact this L hL u hu) (by unfold maxLen; omega) (by omega) (by rw [size_al]; omega)
    have k3' : FilL w.heap.size w' v' L := by unfold FilL; simpa using k3
    rcases k3'.2 with ⟨e, hl0⟩ | ⟨g2, cap2, cur2, rfl, _⟩
    · exfalso
      have := (k5.1 e).1
      cases this
    · exact ⟨g2, cap2, w', hr, k3', grown_made k4⟩
def RDone (w : World) (R : Nat → Prop) (q : Nat) (fu : Option Nat) (r : Nat × Pd × Fs) (e : Ending) (w' : World) : Prop :=
  e = .returned (.int .i64 (r.1 : Int)) ∧ ∃ R2, Grows w R R2 ∧ RfAt w' R2 q fu r.2.1 ∧ FuR w' R2 fu r.2.2 ∧ Only (fun b => R b ∨ fu = some b) w w'
section
variable {w w' : World} {R : Nat → Prop} {q : Nat} {v : Value} {fu : Option Nat} {d : Pd} {L : List (Nm × Ent)} {f : Fs}
theorem rdone_same (h : RfC w R q v fu d L) (hf : FuR w R fu f) {r : Nat × Pd × Fs} (n : Nat) (hr : r = (n, d, f)) (hb : Below w.heap.size w w') : RDone w R q fu r (.returned (.int .i64 (n : Int))) w' := by
  subst hr
  exact ⟨rfl, R, Grows.refl _ _, ⟨v, L, h.below hb⟩, hf.below hb, Only.of_below hb⟩
/-- What burns leaves. -/
structure Burnt (w0 w1 : World) (R : Nat → Prop) (q : Nat) (v : Value) (fu : Option Nat) (d : Pd) (L : List (Nm × Ent)) (f : Fs) : Prop where
  rf : RfC w1 R q v fu d L
  fz : FuR w1 R fu (burn f)
  on : Only (fun b => b = q ∨ fu = some b) w0 w1
theorem rdone_not {w0 : World} (hR : R q) (hb : Below w.heap.size w w0) (hlt : letsF f = false) (F2 : List (Nm × Fi)) (hB : Burnt w0 w' R q v fu d L f) : RDone w R q fu (d.chg f F2) (.returned (.int .i64 11)) w' := by
  unfold Pd.chg
  rw [hlt]
  exact ⟨rfl, R, Grows.refl _ _, ⟨v, L, hB.rf⟩, hB.fz, (Only.of_below hb).then hB.on (fun b _ (e : b = q ∨ fu = some b) => e.elim (fun e => Or.inl (by rw [e]; exact hR)) Or.inr)⟩
theorem FuR.grow (h : FuR w R fu f) (ho : Only (fun b => b = q) w w') (hR : R q) {R2 : Nat → Prop} (hG : ∀ b, R2 b → R b ∨ w.heap.size ≤ b) : FuR w' R2 fu f := by
  match fu, f, h with
  | none, none, _ => trivial
  | some p, some (n, g), h => exact ⟨h.1.keep (ho.block p h.1.lt fun e => h.2.1 (e ▸ hR)), fun hp => (hG p hp).elim h.2.1 (fun hle => by have := h.1.lt; omega), h.2.2⟩
/-- A drive's list is laid anew. -/
theorem RfC.relist (h : RfC w R q v fu d L) {W : World} (hb : Below w.heap.size w W) {v4 : Value} {L2 : List (Nm × Ent)} (hF : FilL w.heap.size W v4 L2) (hL : ∀ x ∈ L2, W.ownsRow 0 5 1 x.2.v x.2.b.length (x.2.b.map u8) ∧ ∀ b, x.2.v.ownBlock = some b → R b ∨ w.heap.size ≤ b) {F2 : List (Nm × Fi)} (hF2 : F2 = gmap Ent.fi L2) :
    RfC (W.setCell ⟨q, 1, none⟩ v4) (grw R w (W.setCell ⟨q, 1, none⟩ v4)) q v4 fu { d with F := F2 } L2 ∧ Only (fun b => b = q) w (W.setCell ⟨q, 1, none⟩ v4) := by
  have h1 := h.below hb
  refine ⟨?_, (Only.of_below hb).trans (Only.set _ _ _ rfl)⟩
  refine h1.setL v4 L2 (own_base hF (Nat.zero_le _)) (fun x hx => (hL x hx).1) (R2 := grw R w (W.setCell ⟨q, 1, none⟩ v4)) (fun b hb => Or.inl hb) (fun b hb' => Or.inr ?_) (fun x hx b hb' => ?_) (fun b hb' => ?_) hF2
  · rw [setCell_size]; exact own_ge hF b hb'
  · rcases (hL x hx).2 b hb' with hr | hr
    · exact Or.inl hr
    · exact Or.inr ⟨hr, by rw [setCell_size]; exact (own_ge (hL x hx).1 b hb').2⟩
  · rcases hb' with hb' | hb'
    · exact h1.lt b hb'
    · rw [setCell_size] at hb'; exact hb'.2
theorem rdone_chg {w0 w1 : World} (h : RfC w R q v fu d L) (hb0 : Below w.heap.size w w0) (hlt : letsF f = true) (hB : Burnt w0 w1 R q v fu { d with ops := d.ops + 1 } L f) {W2 : World} {v4 : Value} {L2 : List (Nm × Ent)} {F2 : List (Nm × Fi)}
    (hr : RfC W2 (grw R w1 W2) q v4 fu { d with ops := d.ops + 1, F := F2 } L2 ∧ Only (fun b => b = q) w1 W2) : RDone w R q fu (d.chg f F2) (.returned (.int .i64 0)) W2 := by
  unfold Pd.chg
  rw [hlt]
  have hs : w.heap.size ≤ w1.heap.size := Nat.le_trans hb0.size hB.on.size
  refine ⟨rfl, grw R w1 W2, ⟨fun b hb => Or.inl hb, fun b hb => hb.imp id fun e => Nat.le_trans hs e.1⟩, ⟨v4, L2, hr.1⟩, hB.fz.grow hr.2 h.sp fun b hb => hb.imp id (·.1), ?_⟩
  exact ((Only.of_below hb0).then hB.on (fun b _ e => e.imp (fun e => e ▸ h.sp) id)).then hr.2 (fun b _ e => Or.inl (e ▸ h.sp))
theorem gget_fi (h : RfC w R q v fu d L) (s : Nm) : gget d.F s = (gget L s).map Ent.fi := by rw [h.fs, gget_map]
set_option maxHeartbeats 1000000 in
set_option maxRecDepth 100000 in
theorem rdelete_any (h : RfC w R q v fu d L) (hf : FuR w R fu f) (s : Nm) (hs : s.length ≤ maxLen) (ho : d.ops < 1000000000000) (hl : L.length < 999000) :
    Calls Try.prog 50 #[ptr q, sv s] w (RDone w R q fu (d.delete f s)) := by
  have H := hid h
  have HF := hid hf
  have HR := hid (fun (o : Obj) vn hv => ready_any (h.alloc o) (hf.alloc o) vn [s] hv (by simp) (by simpa using hs))
  have HA := hid (fun (o : Obj) => at_any (h.alloc o) s (by omega))
  have HBU := hid (fun (o : Obj) => burns_any (h.alloc o) (hf.alloc o) ho)
  have HGG := gget_fi h s
  have HB0 := hid (fun (o : Obj) => (Below.refl w.heap.size w).alloc (Nat.le_refl _) o)
  clear h hf
  by_cases ha : d.ans f [s] = 0
  · rw [ha] at HR
    cases hi : idx L s with
    | none =>
      have HE : Hid (d.delete f s = (6, d, f)) := hid (by unfold Pd.delete; rw [if_neg (by omega), HGG, idx_miss hi]; rfl)
      have e : atI L s = -1 := by unfold atI; rw [hi]
      rw [e] at HA
      clear HGG
      go_enter Try.func50, Try.ntmps50
      go_wp2_with (first
        | (go_at_call 72; refine (HR.out _ _ (txt_one _ _ _ _ _ rfl)).mono ?_; rintro e w' ⟨rfl, hw'⟩; have hw2 := hw'.symm; subst hw2)
        | (go_at_call 73; refine (HA.out _).mono ?_; rintro e w' ⟨rfl, hw'⟩; have hw2 := hw'.symm; subst hw2))
      go_ret
      exact rdone_same H.out HF.out 6 HE.out (HB0.out _)
    | some i =>
      have HE : Hid (d.delete f s = d.chg f (gdel d.F s)) := hid (by unfold Pd.delete; rw [if_neg (by omega), HGG, (idx_get hi).2.2]; rfl)
      have e : atI L s = (i : Int) := by unfold atI; rw [hi]
      rw [e] at HA
      have hni : ¬ (i : Int) < 0 := by omega
      clear HGG
      cases hlt : letsF f
      · rw [hlt] at HBU
        go_enter Try.func50, Try.ntmps50
        go_wp2_with (first
          | (go_at_call 72; refine (HR.out _ _ (txt_one _ _ _ _ _ rfl)).mono ?_; rintro e w' ⟨rfl, hw'⟩; have hw2 := hw'.symm; subst hw2)
          | (go_at_call 73; refine (HA.out _).mono ?_; rintro e w' ⟨rfl, hw'⟩; have hw2 := hw'.symm; subst hw2)
          | (go_at_call 74; refine (HBU.out _).mono ?_; rintro e w1 ⟨rfl, hr, hfz, hon, _⟩; have HBT := hid (Burnt.mk hr hfz hon); clear hr hfz hon))
        go_ret
        rw [HE.out]
        exact rdone_not H.out.sp (HB0.out _) hlt _ HBT.out
      · rw [hlt] at HBU
        have HLT := hid hlt
        go_enter Try.func50, Try.ntmps50
        go_wp2_with (first
          | (go_at_call 72; refine (HR.out _ _ (txt_one _ _ _ _ _ rfl)).mono ?_; rintro e w' ⟨rfl, hw'⟩; have hw2 := hw'.symm; subst hw2)
          | (go_at_call 73; refine (HA.out _).mono ?_; rintro e w' ⟨rfl, hw'⟩; have hw2 := hw'.symm; subst hw2)
          | (go_at_call 74; refine (HBU.out _).mono ?_; rintro e w1 ⟨rfl, hr, hfz, hon, _⟩; have HBT := hid (Burnt.mk hr hfz hon); clear hr hfz hon)
          | (go_at_call 76; refine (without_any HBT.out.rf s (by omega)).mono ?_; rintro e w2 ⟨v2, rfl, hF2, hb2⟩
             obtain ⟨po2, c2, hv2⟩ := own_form hF2; subst hv2
             have hq2 := HBT.out.rf.below hb2
             have cq1 : w2.cell? ⟨q, 1, none⟩ = some v := hq2.c.cell 1
             have zq1 : w2.frozen? ⟨q, 1, none⟩ = false := hq2.c.free 1
             have HF2 := hid hF2; have HB2 := hid hb2; clear hF2 hb2 hq2))
        go_ret
        rw [HE.out]
        exact rdone_chg H.out (HB0.out _) HLT.out HBT.out (HBT.out.rf.relist HB2.out HF2.out (fun x hx => ⟨(HBT.out.rf.below HB2.out).by_ x (mem_del.1 hx).1, fun b hb => Or.inl (HBT.out.rf.rb x (mem_del.1 hx).1 b hb)⟩) (by rw [H.out.fs, gdel_map]))
  · have HE : Hid (d.delete f s = (d.ans f [s], d, f)) := hid (by unfold Pd.delete; rw [if_pos ha])
    have ha' : ¬ ((d.ans f [s] : Nat) : Int) = 0 := by omega
    clear HGG
    generalize d.ans f [s] = n at *
    go_enter Try.func50, Try.ntmps50
    go_wp2_with (go_at_call 72; refine (HR.out _ _ (txt_one _ _ _ _ _ rfl)).mono ?_; rintro e w' ⟨rfl, hw'⟩; have hw2 := hw'.symm; subst hw2)
    go_ret
    exact rdone_same H.out HF.out n HE.out (HB0.out _)
end
#print axioms rdelete_any
end Go.Proofs.Ytfppmpfmafnfmaa

/- Contracts of Read and Sync of the document's drives. -/
namespace Go.Proofs.Ytfppmpfmafnfmaa
open Go Go.RowKit

theorem own_set {w : World} {B e s n g c : Nat} {xs : List Value} (h : w.ownsRow B e s (.slice (some ⟨g, 0, none⟩) n c) n xs) (k : Nat) (x : Value) : (w.setCell ⟨g, k, none⟩ x).ownsRow B e s (.slice (some ⟨g, 0, none⟩) n c) n (xs.set k x) := by
  rcases h with ⟨h1, h2⟩
  refine ⟨by rw [List.length_set]; exact h1, ?_⟩
  rcases h2 with ⟨h2, _⟩ | ⟨g', cap, cur, hv, hB, hb, h3, h4, h5, h6⟩
  · cases h2
  · cases hv
    have hc : CAt w g cur e := hb
    exact Or.inr ⟨g, c, cur.setIfInBounds k x, rfl, hB, hc.set k x, h3, h4, by simpa using h5, by rw [Array.toList_setIfInBounds, List.take_set, h6]⟩
theorem flat_set2 : ∀ (L : List (Nm × Ent)) (i : Nat) (b : Bool), i < L.length → (flat L).set (i * 3 + 2) (.bool b) = flat (L.set i ((atL L i).1, ⟨(atL L i).2.v, (atL L i).2.b, b⟩))
  | [], i, _, h => by simp at h
  | p :: r, 0, b, _ => by simp [flat, atL]
  | p :: r, i + 1, b, h => by
    have := flat_set2 r i b (by simpa using h)
    have e : (i + 1) * 3 + 2 = (i * 3 + 2) + 3 := by omega
    rw [e]
    show (sv p.1 :: p.2.v :: .bool p.2.l :: flat r).set (i * 3 + 2 + 3) (.bool b) = _
    simp [flat, atL] at this ⊢
    exact this
theorem flat_set1 : ∀ (L : List (Nm × Ent)) (i : Nat) (v : Value) (bs : List Nat), i < L.length → (flat L).set (i * 3 + 1) v = flat (L.set i ((atL L i).1, ⟨v, bs, (atL L i).2.l⟩))
  | [], i, _, _, h => by simp at h
  | p :: r, 0, v, bs, _ => by simp [flat, atL]
  | p :: r, i + 1, v, bs, h => by
    have := flat_set1 r i v bs (by simpa using h)
    have e : (i + 1) * 3 + 1 = (i * 3 + 1) + 3 := by omega
    rw [e]
    show (sv p.1 :: p.2.v :: .bool p.2.l :: flat r).set (i * 3 + 1 + 3) v = _
    simp [flat, atL] at this ⊢
    exact this
theorem set_put : ∀ {L : List (Nm × Ent)} {s : Nm} {i : Nat} (e : Ent), Srt L → idx L s = some i → L.set i (s, e) = gput L s e
  | [], _, _, _, _, h => by cases h
  | p :: r, s, i, e, hs, h => by
    have hs' := List.pairwise_cons.1 hs
    unfold idx at h
    by_cases ep : p.1 = s
    · rw [if_pos ep] at h; cases h
      have h1 : gdel (p :: r) s = r := by
        unfold gdel
        rw [List.filter_cons_of_neg (by simp [ep]), List.filter_eq_self.2 fun y hy => by have := bb_ne (hs'.1 y hy); rw [ep] at this; simpa using fun e => this e.symm]
      unfold gput
      rw [h1]
      cases r with
      | nil => rfl
      | cons y t => have := hs'.1 y (by simp); rw [ep] at this; simp [gins, this]
    · rw [if_neg ep] at h
      cases hi : idx r s with
      | none => rw [hi] at h; cases h
      | some j =>
        rw [hi] at h; cases h
        have ih := set_put e hs'.2 hi
        obtain ⟨h1, h2, h3⟩ := idx_get hi
        have hb : bytesBefore p.1 s = true := by rw [← h2]; exact hs'.1 _ (atL_mem h1)
        have hb2 : bytesBefore s p.1 = false := by
          cases hx : bytesBefore s p.1
          · rfl
          · have := bb_trans hb hx; rw [bb_irrefl] at this; cases this
        unfold gput
        have h4 : gdel (p :: r) s = p :: gdel r s := by unfold gdel; rw [List.filter_cons_of_pos (by simpa using ep)]
        rw [h4]
        show p :: r.set j (s, e) = gins (s, e) (p :: gdel r s)
        conv => rhs; unfold gins
        rw [if_neg (by simp [hb2]), ih]; rfl
section
variable {w w' : World} {R : Nat → Prop} {q : Nat} {v : Value} {fu : Option Nat} {d : Pd} {L : List (Nm × Ent)} {f : Fs}
/-- A cell of a drive's own row of files is written. -/
theorem RfC.setE {g c : Nat} (h : RfC w R q (.slice (some ⟨g, 0, none⟩) L.length c) fu d L) {i j : Nat} {x : Value} {y : Nm × Ent} (hf : (flat L).set (i * 3 + j) x = flat (L.set i y)) (hy : w.ownsRow 0 5 1 y.2.v y.2.b.length (y.2.b.map u8)) (hyR : ∀ b, y.2.v.ownBlock = some b → R b) {F2 : List (Nm × Fi)} (hF : F2 = gmap Ent.fi (L.set i y)) :
    RfC (w.setCell ⟨g, i * 3 + j, none⟩ x) R q (.slice (some ⟨g, 0, none⟩) L.length c) fu { d with F := F2 } (L.set i y) := by
  have hgq : g ≠ q := h.ne_q h.ow (by decide) g rfl
  have hcg : ∃ cs, CAt w g cs 98 := by
    rcases h.ow.2 with ⟨h2, _⟩ | ⟨g', cap, cur, hv, _, hb, _⟩
    · cases h2
    · cases hv; exact ⟨cur, hb⟩
  obtain ⟨cs, hcg⟩ := hcg
  have own : ∀ {n : Nat} {u : Value} {xs : List Value}, w.ownsRow 0 5 1 u n xs → (w.setCell ⟨g, i * 3 + j, none⟩ x).ownsRow 0 5 1 u n xs := fun {n u xs} ho => ownsRow_keep ho fun b hb => heap_setCell_ne _ _ _ _ (fun e => by
    rcases ho.2 with ⟨rfl, _⟩ | ⟨g2, cap, cur, rfl, _, hg2, _⟩
    · cases hb
    · cases hb
      have e' : g2 = g := e
      rw [e'] at hg2
      have h2 : w.heap[g]? = _ := hcg
      rw [h2] at hg2; cases hg2)
  have hmem : ∀ z ∈ L.set i y, z ∈ L ∨ z = y := fun z hz => List.mem_or_eq_of_mem_set hz
  refine ⟨h.c.keep (heap_setCell_ne _ _ _ _ (fun e => hgq e.symm)), ?_, hF, fun z hz => ?_, h.sp, h.rv, fun z hz b hb => ?_, fun b hb => by rw [setCell_size]; exact h.lt b hb⟩
  · rw [List.length_set, ← hf]; exact own_set h.ow _ _
  · rcases hmem z hz with hz | rfl
    · exact own (h.by_ z hz)
    · exact own hy
  · rcases hmem z hz with hz | rfl
    · exact h.rb z hz b hb
    · exact hyR b hb
set_option maxHeartbeats 1000000 in
set_option maxRecDepth 100000 in
theorem rread_any (h : RfC w R q v fu d L) (hf : FuR w R fu f) (s : Nm) (hs : s.length ≤ maxLen) (hl : L.length < 999000) (hbn : ∀ x ∈ L, x.2.b.length ≤ 1000000000) :
    Calls Try.prog 51 #[ptr q, sv s] w (ReadAt w (d.readE f s) (d.readB f s)) := by
  have H := hid h
  have HR := hid (fun (o : Obj) vn hv => ready_any (h.alloc o) (hf.alloc o) vn [s] hv (by simp) (by simpa using hs))
  have HA := hid (fun (o : Obj) => at_any (h.alloc o) s (by omega))
  have HGG := gget_fi h s
  have HB0 := hid (fun (o : Obj) => (Below.refl w.heap.size w).alloc (Nat.le_refl _) o)
  have HBN := hid hbn
  have c1 : w.cell? ⟨q, 1, none⟩ = some v := h.c.cell 1
  have hql := h.c.lt
  clear h hf hbn
  by_cases ha : d.ans f [s] = 0
  · rw [ha] at HR
    cases hi : idx L s with
    | none =>
      have HE : Hid (d.readE f s = 6 ∧ d.readB f s = []) := hid (by unfold Pd.readE Pd.readB; rw [if_neg (by omega), if_neg (by omega), HGG, idx_miss hi]; exact ⟨rfl, rfl⟩)
      have e : atI L s = -1 := by unfold atI; rw [hi]
      rw [e] at HA
      clear HGG
      go_enter Try.func51, Try.ntmps51
      go_wp2_with (first
        | (go_at_call 72; refine (HR.out _ _ (txt_one _ _ _ _ _ rfl)).mono ?_; rintro e w' ⟨rfl, hw'⟩; have hw2 := hw'.symm; subst hw2)
        | (go_at_call 73; refine (HA.out _).mono ?_; rintro e w' ⟨rfl, hw'⟩; have hw2 := hw'.symm; subst hw2))
      go_ret2
      rw [HE.out.1, HE.out.2]
      exact ⟨none, 0, rfl, World.ownsRow_nil _ _ _ _, HB0.out _⟩
    | some i =>
      obtain ⟨hi1, hi2, hi3⟩ := idx_get hi
      have HE : Hid (d.readE f s = 0 ∧ d.readB f s = (atL L i).2.b) := hid (by unfold Pd.readE Pd.readB; rw [if_neg (by omega), if_neg (by omega), HGG, hi3]; exact ⟨rfl, rfl⟩)
      have e : atI L s = (i : Int) := by unfold atI; rw [hi]
      rw [e] at HA
      have hni : ¬ (i : Int) < 0 := by omega
      have hni2 : (i : Int) < (L.length : Int) := by omega
      obtain ⟨g, cc, hv, _, k1, _⟩ := (H.out).at hi1
      subst hv
      obtain ⟨pe, ce, hpe⟩ := H.out.slice (atL_mem hi1)
      rw [hpe] at k1
      have hgl : g < w.heap.size := cell_lt' (a := ⟨g, i * 3 + 1, none⟩) (by rw [k1]; simp)
      have HAT : Hid (BAt w pe (atL L i).2.b) := hid (by have := H.out.by_ _ (atL_mem hi1); rw [hpe] at this; exact own_BAt this)
      have hbl := HBN.out _ (atL_mem hi1)
      have HCP := hid (fun (o : Obj) => copyB (HAT.out.keepB (HB0.out o)) ce hbl)
      clear HGG hpe hi2 hi3
      generalize (atL L i).2.b = bs at *
      go_enter Try.func51, Try.ntmps51
      go_wp2_with (first
        | (go_at_call 72; refine (HR.out _ _ (txt_one _ _ _ _ _ rfl)).mono ?_; rintro e w' ⟨rfl, hw'⟩; have hw2 := hw'.symm; subst hw2)
        | (go_at_call 73; refine (HA.out _).mono ?_; rintro e w' ⟨rfl, hw'⟩; have hw2 := hw'.symm; subst hw2
           obtain ⟨po', c', w5, hrun, how, hb5⟩ := HCP.out (.cells #[sv s] 9); rw [size_al] at hrun
           have HRUN := hid hrun; have HOW := hid how; have HB5 := hid hb5; clear hrun how hb5)
        | (at_builtin; refine wpList_append_run _ _ 33 rfl rfl _ _ _ rfl rfl HRUN.out ?_))
      go_ret2
      rw [HE.out.1, HE.out.2]
      exact ⟨po', c', rfl, own_base HOW.out (by rw [size_al]; omega), below_on _ _ (HB0.out _) HB5.out⟩
  · have HE : Hid (d.readE f s = d.ans f [s] ∧ d.readB f s = []) := hid (by unfold Pd.readE Pd.readB; rw [if_pos ha, if_pos ha]; exact ⟨rfl, rfl⟩)
    have ha' : ¬ ((d.ans f [s] : Nat) : Int) = 0 := by omega
    clear HGG
    generalize d.ans f [s] = n at *
    go_enter Try.func51, Try.ntmps51
    go_wp2_with (go_at_call 72; refine (HR.out _ _ (txt_one _ _ _ _ _ rfl)).mono ?_; rintro e w' ⟨rfl, hw'⟩; have hw2 := hw'.symm; subst hw2)
    go_ret2
    rw [HE.out.1, HE.out.2]
    exact ⟨none, 0, rfl, World.ownsRow_nil _ _ _ _, HB0.out _⟩
end
#print axioms rread_any
end Go.Proofs.Ytfppmpfmafnfmaa

/- Contracts of Sync and Rename of the document's drives. -/
namespace Go.Proofs.Ytfppmpfmafnfmaa
open Go Go.RowKit
section
variable {w w' : World} {R : Nat → Prop} {q : Nat} {v : Value} {fu : Option Nat} {d : Pd} {L : List (Nm × Ent)} {f : Fs}
set_option maxHeartbeats 1000000 in
set_option maxRecDepth 100000 in
theorem rsync_any (h : RfC w R q v fu d L) (hf : FuR w R fu f) (s : Nm) (hs : s.length ≤ maxLen) (ho : d.ops < 1000000000000) (hl : L.length < 999000) (hso : Srt d.F) :
    Calls Try.prog 48 #[ptr q, sv s] w (RDone w R q fu (d.sync f s)) := by
  have H := hid h
  have HF := hid hf
  have HSO : Hid (Srt L) := hid (srt_map (by rw [← h.fs]; exact hso))
  have HR := hid (fun (o : Obj) vn hv => ready_any (h.alloc o) (hf.alloc o) vn [s] hv (by simp) (by simpa using hs))
  have HA := hid (fun (o : Obj) => at_any (h.alloc o) s (by omega))
  have HBU := hid (fun (o : Obj) => burns_any (h.alloc o) (hf.alloc o) ho)
  have HGG := gget_fi h s
  have HB0 := hid (fun (o : Obj) => (Below.refl w.heap.size w).alloc (Nat.le_refl _) o)
  clear h hf hso
  by_cases ha : d.ans f [s] = 0
  · rw [ha] at HR
    cases hi : idx L s with
    | none =>
      have HE : Hid (d.sync f s = (6, d, f)) := hid (by unfold Pd.sync; rw [if_neg (by omega), HGG, idx_miss hi]; rfl)
      have e : atI L s = -1 := by unfold atI; rw [hi]
      rw [e] at HA
      clear HGG
      go_enter Try.func48, Try.ntmps48
      go_wp2_with (first
        | (go_at_call 72; refine (HR.out _ _ (txt_one _ _ _ _ _ rfl)).mono ?_; rintro e w' ⟨rfl, hw'⟩; have hw2 := hw'.symm; subst hw2)
        | (go_at_call 73; refine (HA.out _).mono ?_; rintro e w' ⟨rfl, hw'⟩; have hw2 := hw'.symm; subst hw2))
      go_ret
      exact rdone_same H.out HF.out 6 HE.out (HB0.out _)
    | some i =>
      obtain ⟨hi1, hi2, hi3⟩ := idx_get hi
      have HE : Hid (d.sync f s = d.chg f (gput d.F s ((atL L i).2.b, false))) := hid (by unfold Pd.sync; rw [if_neg (by omega), HGG, hi3]; rfl)
      have e : atI L s = (i : Int) := by unfold atI; rw [hi]
      rw [e] at HA
      have HI := hid hi
      have HI2 := hid hi2
      have hni : ¬ (i : Int) < 0 := by omega
      have hni2 : (i : Int) < (L.length : Int) := by omega
      clear HGG hi2 hi3 hi
      cases hlt : letsF f
      · rw [hlt] at HBU
        go_enter Try.func48, Try.ntmps48
        go_wp2_with (first
          | (go_at_call 72; refine (HR.out _ _ (txt_one _ _ _ _ _ rfl)).mono ?_; rintro e w' ⟨rfl, hw'⟩; have hw2 := hw'.symm; subst hw2)
          | (go_at_call 73; refine (HA.out _).mono ?_; rintro e w' ⟨rfl, hw'⟩; have hw2 := hw'.symm; subst hw2)
          | (go_at_call 74; refine (HBU.out _).mono ?_; rintro e w1 ⟨rfl, hr, hfz, hon, _⟩; have HBT := hid (Burnt.mk hr hfz hon); clear hr hfz hon))
        go_ret
        rw [HE.out]
        exact rdone_not H.out.sp (HB0.out _) hlt _ HBT.out
      · rw [hlt] at HBU
        have HLT := hid hlt
        go_enter Try.func48, Try.ntmps48
        go_wp2_with (first
          | (go_at_call 72; refine (HR.out _ _ (txt_one _ _ _ _ _ rfl)).mono ?_; rintro e w' ⟨rfl, hw'⟩; have hw2 := hw'.symm; subst hw2)
          | (go_at_call 73; refine (HA.out _).mono ?_; rintro e w' ⟨rfl, hw'⟩; have hw2 := hw'.symm; subst hw2)
          | (go_at_call 74; refine (HBU.out _).mono ?_; rintro e w1 ⟨rfl, hr, hfz, hon, hsz⟩; have HBT := hid (Burnt.mk hr hfz hon); clear hsz; have hql1 := hr.c.lt
             have cq1 : w1.cell? ⟨q, 1, none⟩ = some v := hr.c.cell 1
             obtain ⟨g, c', W, hrun, hF3, hb3⟩ := copyF (w := w1) (B := 0) hr.ow (fun x hx => (by obtain ⟨po, c, e⟩ := hr.slice hx; exact ⟨_, _, _, e⟩)) (by omega)
             have hq3 := hr.below hb3
             have cq3 : W.cell? ⟨q, 1, none⟩ = some v := hq3.c.cell 1
             have zq3 : W.frozen? ⟨q, 1, none⟩ = false := hq3.c.free 1
             have hgq : g ≠ q := hq3.ne_q (own_base hF3 (Nat.zero_le _)) (by decide) g rfl
             have hgq2 : q ≠ g := fun e => hgq e.symm
             obtain ⟨g2, c2, hv2, _, _, k2, kz⟩ := FilL.at hF3 hi1
             cases hv2
             have kz2 := kz (i * 3 + 2)
             have HRUN := hid hrun; have HF3 := hid hF3; have HB3 := hid hb3; clear hr hfz hon hrun hF3 hb3 hq3 kz)
          | (at_builtin; refine wpList_append_run _ _ 73 rfl rfl _ _ _ rfl rfl HRUN.out ?_))
        go_ret
        rw [HE.out]
        have hm := HBT.out.rf.relist HB3.out HF3.out (fun x hx => ⟨(HBT.out.rf.below HB3.out).by_ x hx, fun b hb => Or.inl (HBT.out.rf.rb x hx b hb)⟩) (F2 := d.F) H.out.fs
        have hE := hm.1.setE (i := i) (j := 2) (flat_set2 L i false hi1) (hm.1.by_ (atL L i) (atL_mem hi1)) (hm.1.rb (atL L i) (atL_mem hi1)) (F2 := gput d.F s ((atL L i).2.b, false)) (by
          rw [HI2.out, set_put _ HSO.out HI.out, H.out.fs, ← gput_map]; rfl)
        refine rdone_chg H.out (HB0.out _) HLT.out HBT.out (And.intro (a := RfC _ _ q (.slice (some ⟨g, 0, none⟩) L.length c') fu _ (L.set i ((atL L i).1, ⟨(atL L i).2.v, (atL L i).2.b, false⟩))) ?_ (hm.2.then (T := fun b => b = g) (Only.set _ _ _ rfl) ?_))
        · have e : grw R w1 ((W.setCell ⟨q, 1, none⟩ (.slice (some ⟨g, 0, none⟩) L.length c')).setCell ⟨g, i * 3 + 2, none⟩ (.bool false)) = grw R w1 (W.setCell ⟨q, 1, none⟩ (.slice (some ⟨g, 0, none⟩) L.length c')) := by unfold grw; rw [setCell_size _ ⟨g, i * 3 + 2, none⟩]
          rw [e]
          exact hE
        · intro b hb e
          have e' : b = g := e
          have := (own_ge HF3.out g rfl).1
          omega
  · have HE : Hid (d.sync f s = (d.ans f [s], d, f)) := hid (by unfold Pd.sync; rw [if_pos ha])
    have ha' : ¬ ((d.ans f [s] : Nat) : Int) = 0 := by omega
    clear HGG
    generalize d.ans f [s] = n at *
    go_enter Try.func48, Try.ntmps48
    go_wp2_with (go_at_call 72; refine (HR.out _ _ (txt_one _ _ _ _ _ rfl)).mono ?_; rintro e w' ⟨rfl, hw'⟩; have hw2 := hw'.symm; subst hw2)
    go_ret
    exact rdone_same H.out HF.out n HE.out (HB0.out _)
/-- Between the two: the file's box has another name. -/
theorem rename_mid {w2 : World} {W1 : World} {v2 : Value} {d2 : Pd} {L2 : List (Nm × Ent)} {bx : Nat} {e : Ent} {pe : Option Addr} {ce : Nat} (h : RfC (w2.setCell ⟨q, 1, none⟩ v2) (grw R W1 (w2.setCell ⟨q, 1, none⟩ v2)) q v2 fu d2 L2) (hb : bx < W1.heap.size) (hnR : ¬ R bx) (y : Value)
    (he : w2.ownsRow 0 5 1 e.v e.b.length (e.b.map u8)) (heR : ∀ b, e.v.ownBlock = some b → R b) (hpe : e.v = .slice pe e.b.length ce) :
    ((((w2.setCell ⟨q, 1, none⟩ v2).setCell ⟨bx, 0, none⟩ y).ownsRow 0 5 1 (.slice pe e.b.length ce) e.b.length (e.b.map u8)) ∧ ∀ b, (Value.slice pe e.b.length ce).ownBlock = some b → grw R W1 (w2.setCell ⟨q, 1, none⟩ v2) b) ∧ RfC ((w2.setCell ⟨q, 1, none⟩ v2).setCell ⟨bx, 0, none⟩ y) (grw R W1 (w2.setCell ⟨q, 1, none⟩ v2)) q v2 fu d2 L2 := by
  have hnot : ∀ b, grw R W1 (w2.setCell ⟨q, 1, none⟩ v2) b → b ≠ bx := fun b hb' e => by
    rcases hb' with h1 | h1
    · exact hnR (e ▸ h1)
    · omega
  refine ⟨⟨?_, fun b hb' => Or.inl (heR b (by rw [hpe]; exact hb'))⟩, h.keep (by rw [setCell_size _ ⟨bx, 0, none⟩]; exact Nat.le_refl _) fun b hb' => heap_setCell_ne _ _ _ _ (hnot b hb')⟩
  rw [← hpe]
  refine ownsRow_keep he fun b hb' => ?_
  rw [heap_setCell_ne _ _ _ _ (hnot b (Or.inl (heR b hb'))), heap_setCell_ne]
  intro e2
  rcases he.2 with ⟨h1, _⟩ | ⟨g, cap, cur, h1, _, hg, _⟩
  · rw [h1] at hb'; cases hb'
  · rw [h1] at hb'; cases hb'
    have h2 : (w2.setCell ⟨q, 1, none⟩ v2).heap[q]? = _ := h.c
    have e' : g = q := e2
    rw [e'] at hg
    have hs : CAt w2 q cur 5 := hg
    have := hs.set 1 v2
    unfold CAt at this
    rw [h2] at this
    injection Option.some.inj this with _ h6 _
    exact absurd h6 (by decide)
set_option maxHeartbeats 1000000 in
set_option maxRecDepth 100000 in
theorem rrename_any (h : RfC w R q v fu d L) (hf : FuR w R fu f) (s t : Nm) (hs : s.length ≤ maxLen) (ht : t.length ≤ maxLen) (ho : d.ops < 1000000000000) (hl : L.length < 999000) :
    Calls Try.prog 49 #[ptr q, sv s, sv t] w (RDone w R q fu (d.rename f s t)) := by
  have H := hid h
  have HF := hid hf
  have HR := hid (fun (o : Obj) vn hv => ready_any (h.alloc o) (hf.alloc o) vn [s, t] hv (by simp) (by simp; exact ⟨hs, ht⟩))
  have HA := hid (fun (o : Obj) => at_any (h.alloc o) s (by omega))
  have HBU := hid (fun (o : Obj) => burns_any (h.alloc o) (hf.alloc o) ho)
  have HGG := gget_fi h s
  have HB0 := hid (fun (o : Obj) => (Below.refl w.heap.size w).alloc (Nat.le_refl _) o)
  clear h hf
  by_cases ha : d.ans f [s, t] = 0
  · rw [ha] at HR
    cases hi : idx L s with
    | none =>
      have HE : Hid (d.rename f s t = (6, d, f)) := hid (by unfold Pd.rename; rw [if_neg (by omega), HGG, idx_miss hi]; rfl)
      have e : atI L s = -1 := by unfold atI; rw [hi]
      rw [e] at HA
      clear HGG
      go_enter Try.func49, Try.ntmps49
      go_wp2_with (first
        | (go_at_call 72; refine (HR.out _ _ (txt_two _ _ _ _ _ _ rfl)).mono ?_; rintro e w' ⟨rfl, hw'⟩; have hw2 := hw'.symm; subst hw2)
        | (go_at_call 73; refine (HA.out _).mono ?_; rintro e w' ⟨rfl, hw'⟩; have hw2 := hw'.symm; subst hw2))
      go_ret
      exact rdone_same H.out HF.out 6 HE.out (HB0.out _)
    | some i =>
      obtain ⟨hi1, hi2, hi3⟩ := idx_get hi
      have HE : Hid (d.rename f s t = d.chg f (gput (gdel d.F s) t (atL L i).2.fi)) := hid (by unfold Pd.rename; rw [if_neg (by omega), HGG, hi3]; rfl)
      have e : atI L s = (i : Int) := by unfold atI; rw [hi]
      rw [e] at HA
      have hni : ¬ (i : Int) < 0 := by omega
      have hni2 : (i : Int) < (L.length : Int) := by omega
      clear HGG hi2 hi3 hi
      cases hlt : letsF f
      · rw [hlt] at HBU
        go_enter Try.func49, Try.ntmps49
        go_wp2_with (first
          | (go_at_call 72; refine (HR.out _ _ (txt_two _ _ _ _ _ _ rfl)).mono ?_; rintro e w' ⟨rfl, hw'⟩; have hw2 := hw'.symm; subst hw2)
          | (go_at_call 73; refine (HA.out _).mono ?_; rintro e w' ⟨rfl, hw'⟩; have hw2 := hw'.symm; subst hw2)
          | (go_at_call 74; refine (HBU.out _).mono ?_; rintro e w1 ⟨rfl, hr, hfz, hon, _⟩; have HBT := hid (Burnt.mk hr hfz hon); clear hr hfz hon))
        go_ret
        rw [HE.out]
        exact rdone_not H.out.sp (HB0.out _) hlt _ HBT.out
      · rw [hlt] at HBU
        have HLT := hid hlt
        go_enter Try.func49, Try.ntmps49
        go_wp2_with (first
          | (go_at_call 72; refine (HR.out _ _ (txt_two _ _ _ _ _ _ rfl)).mono ?_; rintro e w' ⟨rfl, hw'⟩; have hw2 := hw'.symm; subst hw2)
          | (go_at_call 73; refine (HA.out _).mono ?_; rintro e w' ⟨rfl, hw'⟩; have hw2 := hw'.symm; subst hw2)
          | (go_at_call 74; refine (HBU.out _).mono ?_; rintro e w1 ⟨rfl, hr, hfz, hon, hsz⟩; have HBT := hid (Burnt.mk hr hfz hon); clear hsz; have hql1 := hr.c.lt
             have cq1 : w1.cell? ⟨q, 1, none⟩ = some v := hr.c.cell 1
             obtain ⟨g, cc, hv, k0, k1, k2, _⟩ := hr.at hi1
             cases hv
             obtain ⟨pe, ce, hpe⟩ := hr.slice (atL_mem hi1)
             rw [hpe] at k1
             have HPE := hid hpe
             have hgl : g < w1.heap.size := cell_lt' (a := ⟨g, i * 3 + 2, none⟩) (by rw [k2]; simp)
             clear hr hfz hon hpe)
          | (go_at_call 76; refine (without_any (HBT.out.rf.alloc _) s (by omega)).mono ?_; rintro e w2 ⟨v2, rfl, hF2, hb2⟩
             obtain ⟨po2, c2, hv2⟩ := own_form hF2; subst hv2
             have hq2 := (HBT.out.rf.alloc (.cells #[sv (atL L i).1, .slice pe (atL L i).2.b.length ce, .bool (atL L i).2.l] 98)).below hb2
             have cq2 : w2.cell? ⟨q, 1, none⟩ = some _ := hq2.c.cell 1
             have zq2 : w2.frozen? ⟨q, 1, none⟩ = false := hq2.c.free 1
             have hbx := (CAt.made w1 #[sv (atL L i).1, .slice pe (atL L i).2.b.length ce, .bool (atL L i).2.l] 98).below hb2
             have x0 : w2.cell? ⟨w1.heap.size, 0, none⟩ = some (sv (atL L i).1) := hbx.cell 0
             have x1 : w2.cell? ⟨w1.heap.size, 1, none⟩ = some (.slice pe (atL L i).2.b.length ce) := hbx.cell 1
             have x2 : w2.cell? ⟨w1.heap.size, 2, none⟩ = some (.bool (atL L i).2.l) := hbx.cell 2
             have xz : w2.frozen? ⟨w1.heap.size, 0, none⟩ = false := hbx.free 0
             have hxq : w1.heap.size ≠ q := (by omega)
             have hxq2 : q ≠ w1.heap.size := (by omega)
             have hre := (HBT.out.rf.alloc (.cells #[sv (atL L i).1, .slice pe (atL L i).2.b.length ce, .bool (atL L i).2.l] 98)).relist hb2 hF2 (fun x hx => ⟨hq2.by_ x (mem_del.1 hx).1, fun b hb => Or.inl (hq2.rb x (mem_del.1 hx).1 b hb)⟩) (F2 := gdel d.F s) (by rw [H.out.fs, gdel_map])
             have HRE := hid (rename_mid hre.1 (bx := w1.heap.size) (by rw [size_al]; omega) (fun hR => by have := HBT.out.rf.lt _ hR; omega) (sv t) (hq2.by_ _ (atL_mem hi1)) (hq2.rb _ (atL_mem hi1)) HPE.out)
             have HON := hid hre.2
             have HB2 := hid hb2; clear hF2 hb2 hq2 hbx hre)
          | (go_at_call 75; refine (with_any (HRE.out.2) t ⟨.slice pe (atL L i).2.b.length ce, (atL L i).2.b, (atL L i).2.l⟩ (by have := len_del L s; omega) HRE.out.1.1 HRE.out.1.2).mono ?_; rintro e w5 ⟨rfl, ⟨v5, hr5⟩, ho5⟩; have HR5 := hid hr5; have HO5 := hid ho5; clear hr5 ho5))
        go_ret
        rw [HE.out]
        have hon : Only (fun b => b = q) w1 w5 := (((Only.alloc w1 _).trans HON.out).then (T := fun b => b = w1.heap.size) (Only.set _ _ _ rfl) (fun b hb e => by omega)).trans HO5.out
        have s1 := HON.out.size
        have s2 := HO5.out.size
        rw [size_al] at s1
        rw [setCell_size _ ⟨w1.heap.size, 0, none⟩] at s2
        refine rdone_chg H.out (HB0.out _) HLT.out HBT.out ⟨HR5.out.wide (R' := grw R w1 w5) (fun b hb => ?_) (fun b hb => ?_), hon⟩
        · rcases hb with (hb | hb) | hb
          · exact Or.inl hb
          · rw [size_al] at hb; exact Or.inr ⟨by omega, by omega⟩
          · rw [setCell_size _ ⟨w1.heap.size, 0, none⟩] at hb; exact Or.inr ⟨by omega, hb.2⟩
        · rcases hb with hb | hb
          · exact Nat.lt_of_lt_of_le (HBT.out.rf.lt b hb) hon.size
          · exact hb.2
  · have HE : Hid (d.rename f s t = (d.ans f [s, t], d, f)) := hid (by unfold Pd.rename; rw [if_pos ha])
    have ha' : ¬ ((d.ans f [s, t] : Nat) : Int) = 0 := by omega
    clear HGG
    generalize d.ans f [s, t] = n at *
    go_enter Try.func49, Try.ntmps49
    go_wp2_with (go_at_call 72; refine (HR.out _ _ (txt_two _ _ _ _ _ _ rfl)).mono ?_; rintro e w' ⟨rfl, hw'⟩; have hw2 := hw'.symm; subst hw2)
    go_ret
    exact rdone_same H.out HF.out n HE.out (HB0.out _)
end
#print axioms rsync_any
#print axioms rrename_any
end Go.Proofs.Ytfppmpfmafnfmaa
