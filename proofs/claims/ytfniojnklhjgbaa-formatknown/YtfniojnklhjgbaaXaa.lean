/- Texts laid into one: the remark ahead of each part says what is proved there. -/
import Derived.Test.YtfniojnklhjgbaaPaa
import Derived.Test.YtfniojnklhjgbaaPab
import Derived.Test.YtfniojnklhjgbaaPac
import Derived.Test.YtfniojnklhjgbaaPad
import Derived.Test.YtfniojnklhjgbaaPae
import Derived.Test.YtfniojnklhjgbaaPaf
import Derived.Test.YtfniojnklhjgbaaPag
import Derived.Test.YtfniojnklhjgbaaPah
import Derived.Test.YtfniojnklhjgbaaPai
import Derived.Test.YtfniojnklhjgbaaPaj
import Derived.Test.YtfniojnklhjgbaaPak
import Derived.Test.YtfniojnklhjgbaaPal
import Derived.Test.YtfniojnklhjgbaaPam
import Derived.Test.YtfniojnklhjgbaaPan
import Derived.Test.YtfniojnklhjgbaaPao
import Derived.Test.YtfniojnklhjgbaaPap
import Derived.Test.YtfniojnklhjgbaaPaq
import Derived.Test.YtfniojnklhjgbaaPar
import Derived.Deep.Cut
import Derived.Lib.SlBytesConst
import Derived.Deep.MidRow
/- Contracts of what writes numbers and texts: clipped, fresh, appendNumber, appendText, Uint, Text of package record. -/
namespace Go.Proofs.Ytfniojnklhjgbaa
open Go Go.RowKit

def BufS (B : Nat) (w : World) (L : List Nat) (e : Ending) (w' : World) : Prop := ∃ v', e = .returned v' ∧ Buf B w' v' L ∧ Below B w w'
end Go.Proofs.Ytfniojnklhjgbaa

/- Contracts of the document's ReadText; of SameBytes and CopyBytes of the statements' kit. -/
namespace Go.Proofs.Ytfniojnklhjgbaa
open Go Go.RowKit

theorem Buf.made0 (w : World) (B : Nat) (hB : B ≤ w.heap.size) : Buf B (w.alloc (.cells #[] 5)) (.slice (some ⟨w.heap.size, 0, none⟩) 0 0) [] := World.ownsRow_made w #[] 0 hB (by unfold maxLen; omega) (by simp)
theorem copyB_any {w : World} {v : Value} {x : List Nat} (hv : SL w v x) (hn : x.length ≤ 1000000) (hnil : ∀ n c, v = .slice none n c → c = 0) : Calls Try.prog 24 #[v] w (BufS w.heap.size w x) := by
  obtain ⟨p, c, rfl, hp, _⟩ := hv
  obtain ⟨v', w', hr, hb, hg⟩ := (Buf.made0 w w.heap.size (Nat.le_refl _)).app p c x (hp.below (below_al _ _)) (fun e => by subst e; exact hnil _ _ rfl) (by simp; omega) (by rw [size_al]; omega)
  have HRUN := hid hr
  clear hr
  go_enter Try.func24, Try.ntmps24
  go_wp2_with (at_builtin; refine wpList_append_run _ _ 24 24 rfl rfl _ _ _ rfl rfl HRUN.out ?_)
  go_ret
  exact ⟨v', rfl, by simpa using hb, below_grown (below_al _ _) hg (Nat.le_refl _) (fun b hb => by cases hb; exact Nat.le_refl _)⟩

end Go.Proofs.Ytfniojnklhjgbaa

/- Copies (what drives answer) and lists of them in memory; bools in memory. -/
namespace Go.Proofs.Ytfniojnklhjgbaa
open Go Go.RowKit

def cps (l : List Cv) : List Cp := l.map Cv.cp
theorem cps_len (l : List Cv) : (cps l).length = l.length := by simp [cps]
theorem cps_get (l : List Cv) (i : Nat) : (cps l)[i]? = l[i]?.map Cv.cp := by simp [cps]
end Go.Proofs.Ytfniojnklhjgbaa

/- Formats: the mathematics: which may be, their bytes, which format any bytes are, all formats of k, m and so many sets, how each copy is judged. -/
namespace Go.Proofs.Ytfniojnklhjgbaa
open Go Go.RowKit

instance : Inhabited FmV := ⟨⟨0, 0, 0, 0, 0⟩⟩
theorem alG_ok {k m s : Int} (h : okAl k m s = true) {i : Nat} (hi : i < alN k m s) : okFm (alG k m s i) = true := by
  have h0 := okFm_of (f := ⟨k, m, s, 0, 0⟩) h
  simp only at h0
  have hn : 0 < (k + m).toNat := by omega
  have h1 : i % (k + m).toNat < (k + m).toNat := Nat.mod_lt _ hn
  have h2 : i / (k + m).toNat < s.toNat := by
    unfold alN at hi
    exact Nat.div_lt_of_lt_mul hi
  show okFm ⟨k, m, s, ((i / (k + m).toNat : Nat) : Int), ((i % (k + m).toNat : Nat) : Int)⟩ = true
  generalize i / (k + m).toNat = q at *
  generalize i % (k + m).toNat = r at *
  unfold okFm
  simp only [decide_eq_true_eq]
  omega
theorem alG_inj {k m s : Int} {i j : Nat} (e : alG k m s i = alG k m s j) : i = j := by
  unfold alG at e
  simp only [FmV.mk.injEq, true_and] at e
  obtain ⟨h1, h2⟩ := e
  have h1' : i / (k + m).toNat = j / (k + m).toNat := by omega
  have h2' : i % (k + m).toNat = j % (k + m).toNat := by omega
  rw [← Nat.div_add_mod i (k + m).toNat, ← Nat.div_add_mod j (k + m).toNat, h1', h2']
end Go.Proofs.Ytfniojnklhjgbaa

/- The document's data: what is read, step by step; bytes beside a record's block. -/
namespace Go.Proofs.Ytfniojnklhjgbaa
open Go Go.RowKit

section
variable {po : Option Addr} {w w' : World} {v : Value} {d : List Nat} (h : SLn po w v d) (hl : d.length ≤ 100000) (h8 : ∀ x ∈ d, x < 256)
include h
include hl h8
end
section


end
/-- The cells of a row of ints. -/
theorem IBuf.open_ {B : Nat} {w : World} {v : Value} {xs : List Nat} (h : IBuf B w v xs) (hne : xs ≠ []) : ∃ gi c, v = .slice (some ⟨gi, 0, none⟩) xs.length c ∧ xs.length ≤ c ∧ B ≤ gi ∧ gi < w.heap.size ∧ ∀ i, i < xs.length → w.cell? ⟨gi, i, none⟩ = some (i64 ((xs.getD i 0 : Nat) : Int)) := by
  rcases h.2 with ⟨_, h0⟩ | ⟨g, cap, cur, rfl, hB, hg, h1, _, h3, h4⟩
  · exact absurd (List.eq_nil_of_length_eq_zero h0) hne
  · have hc : CAt w g cur 3 := hg
    refine ⟨g, cap, rfl, h1, hB, hc.lt, fun i hi => ?_⟩
    have := congrArg (fun l => l[i]?) h4
    simp [hi] at this
    rw [hc.cell, this]
    simp [List.getD, hi]
end Go.Proofs.Ytfniojnklhjgbaa

/- The chapter's examples: mathematics; of; lists of three copies; awake. -/
namespace Go.Proofs.Ytfniojnklhjgbaa
open Go Go.RowKit

theorem Try.infoCp : (Try.prog.info? 39).map (fun i => (i.zero, i.size, i.bytes)) = some (some (.agg (cC 0 (.slice none 0 0))), 2, 32) := by kernel_rfl
theorem Buf.cv {B : Nat} {w : World} {p : Option Addr} {n c : Nat} {L : List Nat} (h : Buf B w (.slice p n c) L) (hn : n = L.length) (h1 : L.length ≤ 100000) (h8 : ∀ z ∈ L, z < 256) (e : Int) : CvOk w ⟨e, .slice p n c, L⟩ := by
  subst hn
  refine ⟨⟨p, c, rfl, h.bl, h.cap.2, fun e => ?_⟩, h1, h8⟩
  subst e
  rcases h.2 with ⟨e2, _⟩ | ⟨g, cap, cur, e2, _⟩
  · simp at e2; exact e2.2
  · simp at e2
end Go.Proofs.Ytfniojnklhjgbaa

/- copies: copies in memory of their own. -/
namespace Go.Proofs.Ytfniojnklhjgbaa
open Go Go.RowKit

theorem crow_len (L : List Cv) : ∀ r ∈ L.map Cv.row, r.length = 2 := fun r hr => by obtain ⟨x, _, rfl⟩ := List.mem_map.1 hr; rfl
theorem own_blk9 {B e sz n : Nat} {w : World} {v : Value} {xs : List Value} (h : w.ownsRow B e sz v n xs) {b : Nat} (hb : v.ownBlock = some b) : ∃ cur, CAt w b cur e := by
  rcases h.2 with ⟨e2, _⟩ | ⟨g', cap, cur, e2, _, hg', _⟩
  · rw [e2] at hb; cases hb
  · rw [e2] at hb
    cases hb
    exact ⟨cur, hg'⟩
theorem CI.cl {B : Nat} {w : World} {v : Value} {L : List Cv} (h : CI B w v L) (hn : L.length ≤ 1000) : CL w v L := by
  obtain ⟨po, c, e, h1, h2⟩ := h.buf.form
  rw [List.length_map] at e h1
  refine ⟨po, c, e, h1, hn, h2, ?_, fun x hx => ?_⟩
  · by_cases h0 : 0 < L.length
    · obtain ⟨g, c2, e2, _, _, _, h3⟩ := h.buf.cells (crow_len L) (by rw [List.length_map]; exact h0)
      rw [List.length_map] at e2
      rw [e] at e2
      cases e2
      refine Or.inr ⟨g, 0, rfl, fun i x hx => ?_⟩
      have h4 := h3 i x.row (by rw [List.getElem?_map, hx]; rfl)
      exact ⟨by have := h4 0 (i64 x.err) rfl; simpa using this, h4 1 x.v rfl⟩
    · exact Or.inl (List.eq_nil_of_length_eq_zero (by omega))
  · obtain ⟨h3, h4, h5⟩ := h.each x hx
    obtain ⟨p, c3, e3⟩ := h3.form
    have h6 := h3
    rw [e3] at h6
    have := h6.cv rfl h5 h4 x.err
    rw [← e3] at this
    exact this
theorem exec_bsC {a : Act} {o : Oper} {x : Operand} {e : Int} {v : Value} {W : World} (ho : o.op = .buildSlice 37 1 #[(0, x)]) (hx : a.eval x = .agg (cC e v)) : (execOp a.eval o).run Try.prog W = .ok (.value (.slice (some ⟨W.heap.size, 0, none⟩) 1 1)) (W.alloc (.cells (cC e v) 39)) := by
  have h := run_buildX (T := 37) Try.underlying37 Try.infoCp (by decide) (by decide) W (cC e v) rfl
  unfold execOp
  simp only [ho, List.map_toArray, List.map_cons, List.map_nil, hx, Sem.run_bind, h, Result.andThen_ok, Sem.run_pure]
end Go.Proofs.Ytfniojnklhjgbaa

/- Contracts of SameInts and CopyBytes of the statements' kit; small laws for the walks of the statements. -/
namespace Go.Proofs.Ytfniojnklhjgbaa.H
open Go Go.RowKit

/-- Numbers in memory. -/
def IntAt (w : World) (p : Option Addr) (n : Nat) (x : Nat → Nat) : Prop := n = 0 ∨ ∃ b o, p = some ⟨b, o, none⟩ ∧ ∀ i, i < n → w.cell? ⟨b, o + i, none⟩ = some (.int .i64 (x i : Nat))
theorem ints_new (w : World) (cs : Array Value) (t : TypeId) (fr : Nat × Nat) (L : List Nat) (h : cs = (L.map i64v).toArray) : IntAt (w.alloc (.cells cs t fr)) (some ⟨w.heap.size, 0, none⟩) L.length (fun i => L.getD i 0) := by
  subst h
  exact .inr ⟨_, _, rfl, fun i hi => by rw [Nat.zero_add, cell_of_row _ _ i _ t fr (heap_alloc_new _ _)]; simp [hi, i64v]⟩
set_option maxHeartbeats 400000 in
theorem sameInts_true (p q : Option Addr) (n c d : Nat) (x : Nat → Nat) (w : World) (hn : n ≤ 100000) (hp : IntAt w p n x) (hq : IntAt w q n x) :
    Calls Try.prog 23 #[.slice p n c, .slice q n d] w fun e w' => e = .returned (.bool true) ∧ ∃ k, w' = w.drewN k := by
  have HP := hid hp
  have HQ := hid hq
  clear hp hq
  go_enter Try.func23, Try.ntmps23
  go_wp2
  go_loopw [5] (fun v wr => ∃ i : Nat, i ≤ n ∧ v = .int .i64 (i : Int) ∧ ∃ k, wr = w.drewN k) (fun v _ => (n - intOf v).toNat)
  case atStart => exact ⟨0, by omega, rfl, 0, rfl⟩
  case round =>
    obtain ⟨i, hi, rfl, hw⟩ := hrel
    have HW := hid hw
    have hcell : ∀ a : Addr, wr.cell? a = w.cell? a := by obtain ⟨k, rfl⟩ := hw; intro a; rfl
    have HCE := hid hcell
    clear hw hcell
    by_cases hlt : i < n
    · rcases HP.out with h | ⟨b, o, rfl, hb⟩
      · omega
      rcases HQ.out with h | ⟨b2, o2, rfl, hb2⟩
      · omega
      have c1 := (HCE.out _).trans (hb i hlt)
      have c2 := (HCE.out _).trans (hb2 i hlt)
      have hlt' : (i : Int) < (n : Int) := by omega
      clear hb hb2
      go_wp2
      go_quiet (fail)
      go_wp2
      go_roundw
      case rel =>
        refine ⟨i + 1, by omega, by go_num, ?_⟩
        obtain ⟨k, rfl⟩ := HW.out
        first | exact ⟨_, rfl⟩ | exact ⟨k + nq, by simp [World.drewN, Nat.add_assoc]⟩
      case measure => simp [intOf]; omega
    · have hlt' : ¬ (i : Int) < (n : Int) := by omega
      go_wp2
      go_ret
      exact ⟨rfl, HW.out⟩
end Go.Proofs.Ytfniojnklhjgbaa.H

/- Contracts of of and all of the statements on shard: the record of bytes; files as drives answer them, in new memory; what was there is as it was. -/
namespace Go.Proofs.Ytfniojnklhjgbaa
open Go Go.RowKit

theorem infoCp11 : (Try.prog.info? 39).map (fun i => (i.zero, i.size, i.bytes)) = some (some (.agg #[.int .i64 0, .slice none 0 0]), 2, 32) := by kernel_rfl
end Go.Proofs.Ytfniojnklhjgbaa

/- copies of the statements on shard: copies in memory of their own (as stage 9's). -/
namespace Go.Proofs.Ytfniojnklhjgbaa
open Go Go.RowKit

theorem own_otherO11 {BA e1 z1 n1 BB e2 z2 n2 : Nat} {w w' : World} {u v : Value} {xs ys : List Value} (h1 : w.ownsRow BA e1 z1 u n1 xs) (h2 : w.ownsRow BB e2 z2 v n2 ys) (ht : e1 ≠ e2) (hO : Only (fun b => v.ownBlock = some b) w w') : w'.ownsRow BA e1 z1 u n1 xs :=
  ownsRow_keep h1 fun b hb => hO.block b (own_ge h1 b hb).2 (fun k => by
    obtain ⟨c1, k1⟩ := own_blk9 h1 hb
    obtain ⟨c2, k2⟩ := own_blk9 h2 k
    exact k1.apart k2 ht rfl)
theorem CI.push11 {B : Nat} {w : World} {v : Value} {L : List Cv} (h : CI B w v L) (x : Cv) (hx : Buf B w x.v x.bs) (h8 : ∀ z ∈ x.bs, z < 256) (hs : x.bs.length ≤ 100000) (hn : L.length ≤ 1000) (hB : B ≤ w.heap.size) (ty : TypeId) :
    ∃ v' w', (Builtin.append_ #[37, 37] ty #[v, .slice (some ⟨w.heap.size, 0, none⟩) 1 1]).run Try.prog (w.alloc (.cells (cC x.err x.v) 39)) = .ok v' w' ∧ CI B w' v' (L ++ [x]) ∧ Below B w w' := by
  have hal := below_al w (.cells (cC x.err x.v) 39)
  have hc : CAt (w.alloc (.cells (cC x.err x.v) 39)) w.heap.size (cC x.err x.v) 39 := CAt.made w _ _
  have h1 := h.on hal
  have hB1 : B ≤ (w.alloc (.cells (cC x.err x.v) 39)).heap.size := by rw [size_al]; omega
  obtain ⟨px, cx, hxf⟩ := hx.form
  obtain ⟨v', w', hr, h2, h3, _⟩ := h1.buf.app (ty := ty) (T := 37) Try.underlying37 infoCp11 rfl (by decide) w.heap.size 0 1 [x.row] (fun r hr => by rcases List.mem_singleton.1 hr with rfl; rfl) (fun r hr => by
    rcases List.mem_singleton.1 hr with rfl
    intro u hu
    simp only [Cv.row, List.mem_cons, List.not_mem_nil, or_false] at hu
    rcases hu with rfl | rfl
    · rfl
    · rw [hxf]; rfl) (fun i r hr j u hu => by
    rcases i with _ | i
    · simp at hr
      subst hr
      rw [Nat.zero_mul, Nat.zero_add, hc.cell]
      simpa [cC, Cv.row] using hu
    · simp at hr) (by rw [List.length_map]; simp; omega) (by decide) hB1
  have hO : Only (fun b => v.ownBlock = some b) (w.alloc (.cells (cC x.err x.v) 39)) w' := Only.of_grown h3 fun b e _ => e
  refine ⟨v', w', hr, ⟨by rw [List.map_append]; exact h2, fun y hy => ?_⟩, below_tr (below_less hal hB) (XB.mono hB1 h3 h1.buf)⟩
  rcases List.mem_append.1 hy with hy | hy
  · exact ⟨own_otherO11 (h1.each y hy).1 h1.buf (by decide) hO, (h1.each y hy).2⟩
  · rcases List.mem_singleton.1 hy with rfl
    exact ⟨own_otherO11 (hx.below hal) h1.buf (by decide) hO, h8, hs⟩

end Go.Proofs.Ytfniojnklhjgbaa

/- copies of the statements; a row of copies one of whose places is written; how turned bytes are judged. -/
namespace Go.Proofs.Ytfniojnklhjgbaa
open Go Go.RowKit

theorem CI.at14 {B : Nat} {w : World} {g n c : Nat} {L : List Cv} (h : CI B w (.slice (some ⟨g, 0, none⟩) n c) L) {i : Nat} {x : Cv} (hx : L[i]? = some x) : ∀ j u, (cC x.err x.v)[j]? = some u → w.cell? ⟨g, i * 2 + j, none⟩ = some u := fun j u hu => by
  have hi := (List.getElem?_eq_some_iff.1 hx).1
  obtain ⟨g2, c2, e2, _, _, _, h3⟩ := h.buf.cells (crow_len L) (by rw [List.length_map]; omega)
  cases e2
  have hk : x.row[j]? = some u := by
    match j, hu with
    | 0, hu => exact hu
    | 1, hu => exact hu
    | j + 2, hu => simp [cC] at hu
  have := h3 i x.row (by rw [List.getElem?_map, hx]; rfl) j u hk
  rwa [Nat.zero_add] at this
theorem CI.base14 {B C : Nat} {w : World} {v : Value} {L : List Cv} (h : CI B w v L) (hC : C ≤ B) : CI C w v L := ⟨XB.base h.buf hC, fun x hx => ⟨own_base (h.each x hx).1 hC, (h.each x hx).2⟩⟩
theorem CI.len14 {B : Nat} {w : World} {po : Option Addr} {n c : Nat} {L : List Cv} (h : CI B w (.slice po n c) L) : n = L.length ∧ L.length ≤ c := by
  obtain ⟨p, c2, e, h1, _⟩ := h.buf.form
  rw [List.length_map] at e h1
  cases e
  exact ⟨rfl, h1⟩
theorem CI.blk14 {B : Nat} {w : World} {po : Option Addr} {n c : Nat} {L : List Cv} (h : CI B w (.slice po n c) L) (h0 : 0 < L.length) : ∃ g, po = some ⟨g, 0, none⟩ ∧ B ≤ g := by
  obtain ⟨g2, c2, e2, h1, h2, _⟩ := h.buf.cells (crow_len L) (by rw [List.length_map]; omega)
  cases e2
  exact ⟨g2, rfl, (own_ge h.buf g2 rfl).1⟩
theorem own_set14 {w : World} {B e s n g c : Nat} {xs : List Value} (h : w.ownsRow B e s (.slice (some ⟨g, 0, none⟩) n c) n xs) (k : Nat) (x : Value) : (w.setCell ⟨g, k, none⟩ x).ownsRow B e s (.slice (some ⟨g, 0, none⟩) n c) n (xs.set k x) := by
  rcases h with ⟨h1, h2⟩
  refine ⟨by rw [List.length_set]; exact h1, ?_⟩
  rcases h2 with ⟨h2, _⟩ | ⟨g', cap, cur, hv, hB, hb, h3, h4, h5, h6⟩
  · cases h2
  · cases hv
    have hc : CAt w g cur e := hb
    exact Or.inr ⟨g, c, cur.setIfInBounds k x, rfl, hB, hc.set k x, h3, h4, by simpa using h5, by rw [Array.toList_setIfInBounds, List.take_set, h6]⟩
theorem flat_setC : ∀ (L : List Cv) (i : Nat) (x : Cv), i < L.length → (((L.map Cv.row).flatten.set (i * 2) (i64 x.err)).set (i * 2 + 1) x.v) = ((L.set i x).map Cv.row).flatten
  | [], i, _, h => by simp at h
  | y :: r, 0, x, _ => by simp [Cv.row]
  | y :: r, i + 1, x, h => by
    have := flat_setC r i x (by simpa using h)
    have e1 : (i + 1) * 2 = i * 2 + 2 := by omega
    rw [e1]
    show (((i64 y.err :: y.v :: (r.map Cv.row).flatten).set (i * 2 + 2) (i64 x.err)).set (i * 2 + 2 + 1) x.v) = _
    simp [Cv.row] at this ⊢
    exact this
theorem CI.set14 {B : Nat} {w : World} {g n c : Nat} {L : List Cv} (h : CI B w (.slice (some ⟨g, 0, none⟩) n c) L) {i : Nat} (hi : i < L.length) (x : Cv) (hx : Buf B w x.v x.bs) (h8 : ∀ z ∈ x.bs, z < 256) (hs : x.bs.length ≤ 100000) :
    CI B (w.setCells g (i * 2) [i64 x.err, x.v]) (.slice (some ⟨g, 0, none⟩) n c) (L.set i x) ∧ Only (fun b => b = g) w (w.setCells g (i * 2) [i64 x.err, x.v]) := by
  have hn : n = (L.map Cv.row).length := by have := h.len14.1; rw [List.length_map]; exact this
  have hO : Only (fun b => b = g) w (w.setCells g (i * 2) [i64 x.err, x.v]) := (Only.set (S := fun b => b = g) w ⟨g, i * 2, none⟩ (i64 x.err) rfl).trans (Only.set (S := fun b => b = g) _ ⟨g, i * 2 + 1, none⟩ x.v rfl)
  have hO2 : Only (fun b => (Value.slice (some ⟨g, 0, none⟩) n c).ownBlock = some b) w (w.setCells g (i * 2) [i64 x.err, x.v]) := hO.mono fun b e => by subst e; rfl
  refine ⟨⟨?_, fun y hy => ?_⟩, hO⟩
  · have hb := h.buf
    unfold XB at hb ⊢
    rw [List.length_map, List.length_set]
    rw [List.length_map] at hb hn
    subst hn
    have := own_set14 (own_set14 hb (i * 2) (i64 x.err)) (i * 2 + 1) x.v
    rw [flat_setC L i x hi] at this
    exact this
  · rcases List.mem_or_eq_of_mem_set hy with hy | rfl
    · exact ⟨own_otherO11 (h.each y hy).1 h.buf (by decide) hO2, (h.each y hy).2⟩
    · exact ⟨own_otherO11 hx h.buf (by decide) hO2, h8, hs⟩
theorem wpList_storeC {ops : Array Oper} {rest : List Oper} {o : Oper} {a : Act} {w : World} {Q : Exit → Act → World → Prop} {B g n c : Nat} {L : List Cv} (h : CI B w (.slice (some ⟨g, 0, none⟩) n c) L) {i : Nat} (hi : i < L.length) (x : Cv) (hx : Buf B w x.v x.bs) (h8 : ∀ z ∈ x.bs, z < 256) (hs : x.bs.length ≤ 100000)
    (hgd : o.guard = none) (hdst : o.dst = none) (X Y : Operand) (ho : o.op = .store 39 X Y) (hX : a.eval X = .pointer (some ⟨g, i * 2, none⟩)) (hY : a.eval Y = .agg (cC x.err x.v))
    (hk : ∀ w', CI B w' (.slice (some ⟨g, 0, none⟩) n c) (L.set i x) → Only (fun b => b = g) w w' → wpList Try.prog ops Q rest a w') : wpList Try.prog ops Q (o :: rest) a w := by
  obtain ⟨k1, k2⟩ := h.set14 hi x hx h8 hs
  obtain ⟨y, hy⟩ : ∃ y, L[i]? = some y := ⟨_, List.getElem?_eq_getElem hi⟩
  obtain ⟨p, cx, hxf⟩ := hx.form
  refine wpList_store_mid hgd 39 X Y ho g (i * 2) (cC x.err x.v) hX hY (fun j hj => ?_) sizeCp (by rw [hxf]; exact cC_one _ _ _ _) ?_
  · obtain ⟨cur, hcur⟩ := own_blk9 h.buf (b := g) rfl
    refine ⟨?_, hcur.free _⟩
    have hj2 : j < 2 := hj
    match j, hj2 with
    | 0, _ => rw [h.at14 hy 0 _ rfl]; rfl
    | 1, _ => rw [h.at14 hy 1 _ rfl]; rfl
  · have e : a.put o.dst undef = a := by rw [hdst]; rfl
    rw [e]
    exact hk _ k1 k2
theorem wpList_bsC {ops : Array Oper} {rest : List Oper} {o : Oper} {a : Act} {w : World} {Q : Exit → Act → World → Prop} (hgd : o.guard = none) (x : Operand) (ho : o.op = .buildSlice 37 1 #[(0, x)]) {e : Int} {v : Value} (hx : a.eval x = .agg (cC e v))
    (hk : wpList Try.prog ops Q rest (a.put o.dst (.slice (some ⟨w.heap.size, 0, none⟩) 1 1)) (w.alloc (.cells (cC e v) 39))) : wpList Try.prog ops Q (o :: rest) a w := by
  refine wpList_plain hgd fun K hK => ?_
  unfold Oper.wp
  rw [exec_bsC ho hx]
  exact hK _ _ hk
theorem builtC14 (v : Value) (po : Option Addr) (n c : Nat) (hv : v = .slice po n c) : Try.prog.built 39 [(1, v)] = some (cC 0 v) := by subst hv; kernel_rfl
theorem builtC15 (e : Int) : Try.prog.built 39 [(0, .int .i64 e)] = some (cC e (.slice none 0 0)) := by kernel_rfl
/-- The copies of the formats, as they were written. -/
def cpF (k m s : Int) (n : Nat) : List Cp := (List.range n).map fun i => ⟨0, fmB (alG k m s i)⟩
theorem cpF_len (k m s : Int) (n : Nat) : (cpF k m s n).length = n := by simp [cpF]
theorem cpF_step (k m s : Int) (n : Nat) : cpF k m s (n + 1) = cpF k m s n ++ [⟨0, fmB (alG k m s n)⟩] := by unfold cpF; rw [List.range_succ, List.map_append]; rfl
theorem cpF_at (k m s : Int) {n i : Nat} (hi : i < n) : (cpF k m s n)[i]? = some ⟨0, fmB (alG k m s i)⟩ := by unfold cpF; simp [hi]
/-- What copies answers. -/
def CpA (w : World) (k m s : Int) (e : Ending) (w' : World) : Prop :=
  (okAl k m s = true ∧ ∃ po c L, e = .returned (.tuple #[.slice po (alN k m s) c, .bool true]) ∧ CI w.heap.size w' (.slice po (alN k m s) c) L ∧ cps L = cpF k m s (alN k m s) ∧ Below w.heap.size w w') ∨
  (okAl k m s = false ∧ e = .returned (.tuple #[.slice none 0 0, .bool false]) ∧ Below w.heap.size w w')
set_option linter.unusedVariables false in
set_option maxRecDepth 100000 in
set_option maxHeartbeats 8000000 in
theorem copies14_any (hF : FmC) (k m s : Int) (w : World) (hk : inI k) (hm : inI m) (hs : inI s) : Calls Try.prog 27 #[.int .i64 k, .int .i64 m, .int .i64 s] w (CpA w k m s) := by
  have HAL := hid (hF.all k m s w hk hm hs)
  cases hok : okAl k m s with
  | false =>
    have HE : Hid (∀ W, Below w.heap.size w W → CpA w k m s (.returned (.tuple #[.slice none 0 0, .bool false])) W) := hid (fun W hb => .inr ⟨hok, rfl, hb⟩)
    have HA : Hid (Calls Try.prog 19 #[.int .i64 k, .int .i64 m, .int .i64 s] w fun e w' => e = .returned (.tuple #[.slice none 0 0, .int .i64 2]) ∧ Below w.heap.size w w') := hid (HAL.out.mono fun e w' h => by
      rcases h with ⟨h, _⟩ | ⟨_, h⟩
      · rw [hok] at h; cases h
      · exact h)
    generalize CpA w k m s = PP at *
    clear HAL hok hF hk hm hs
    go_enter Try.func27, Try.ntmps27
    go_wp2_with (go_at_call 19; refine HA.out.mono ?_; rintro e w2 ⟨rfl, hb2⟩; have HB := hid hb2; clear hb2)
    exact HE.out _ HB.out
  | true =>
    obtain ⟨N, hN⟩ : ∃ N, alN k m s = N := ⟨_, rfl⟩
    have hN64 : N ≤ 64 := by rw [← hN]; exact (alN_le hok).2
    have HE : Hid (∀ po c L W, CI w.heap.size W (.slice po N c) L → cps L = cpF k m s N → Below w.heap.size w W → CpA w k m s (.returned (.tuple #[.slice po N c, .bool true])) W) := hid (fun po c L W h1 h2 hb => .inl ⟨hok, po, c, L, by rw [hN], by rw [hN]; exact h1, by rw [hN]; exact h2, hb⟩)
    have HA : Hid (Calls Try.prog 19 #[.int .i64 k, .int .i64 m, .int .i64 s] w fun e w' => ∃ ga ca, e = .returned (.tuple #[.slice (some ⟨ga, 0, none⟩) N ca, .int .i64 0]) ∧ N ≤ ca ∧ FmL w.heap.size w' (.slice (some ⟨ga, 0, none⟩) N ca) (alL k m s) ∧ Below w.heap.size w w') := hid (HAL.out.mono fun e w' h => by
      rcases h with ⟨_, pa, ca, h1, h2, h3⟩ | ⟨h, _⟩
      · rw [hN] at h1 h2
        obtain ⟨ga, cb, e2, _⟩ := h2.at (i := 0) (by rw [alL_len]; have := (alN_le hok).1; omega)
        rw [alL_len, hN] at e2
        obtain ⟨_, _, e3, hcc, _⟩ := h2.form
        rw [alL_len, hN] at e3 hcc
        cases e2; cases e3
        exact ⟨ga, ca, h1, hcc, h2, h3⟩
      · rw [hok] at h; cases h)
    have HAT : Hid (∀ i, i < N → ∀ W ga ca, FmL w.heap.size W (.slice (some ⟨ga, 0, none⟩) N ca) (alL k m s) → (Instr.loadAt 23 (.pointer (some ⟨ga, i * 5, none⟩))).run Try.prog W = .ok (.agg (alG k m s i).cs) W) := hid (fun i hi W ga ca h => by
      obtain ⟨g, c, e, hc⟩ := h.at (i := i) (by rw [alL_len]; omega)
      rw [alL_len, hN] at e
      cases e
      rw [alL_at (by omega)] at hc
      exact load_atF hc)
    have HBY : Hid (∀ i, i < N → ∀ W, Calls Try.prog 10 #[.agg (alG k m s i).cs] W fun e w' => ∃ po c, e = .returned (.tuple #[.slice po 40 c, .int .i64 0]) ∧ Buf W.heap.size w' (.slice po 40 c) (fmB (alG k m s i)) ∧ Below W.heap.size W w') := hid (fun i hi W => (hF.bytes _ W (okFm.wf (alG_ok hok (by omega)))).mono fun e w' h => by
      rcases h with ⟨_, po, c, h1, h2, _, h3⟩ | ⟨h, _⟩
      · exact ⟨po, c, h1, h2, h3⟩
      · rw [alG_ok hok (by omega)] at h; cases h)
    have HB8 : Hid (∀ i, i < N → ∀ z ∈ fmB (alG k m s i), z < 256) := hid (fun i hi => fmB_lt (alG_ok hok (by omega)))
    generalize CpA w k m s = PP at *
    clear HAL hok hF hk hm hs hN
    go_enter Try.func27, Try.ntmps27
    go_wp2_with (go_at_call 19; refine HA.out.mono ?_; rintro e w2 ⟨ga, ca, rfl, hca, hfl, hb2⟩; have HB := hid hb2; have HFL := hid hfl; clear hb2 hfl)
    go_loopg [10, 11] N (fun gg u x wr => ∃ (i : Nat) (L : List Cv), i ≤ N ∧ N - i ≤ gg ∧ x = .int .i64 (i : Int) ∧ Hid (CI w2.heap.size wr u L) ∧ Hid (cps L = cpF k m s i) ∧ Hid (Below w2.heap.size w2 wr))
    case atStart => exact ⟨0, [], by omega, by omega, rfl, hid (CI.nil _ _), hid rfl, hid (Below.refl _ _)⟩
    case round =>
      clear HA
      obtain ⟨i, L, hi, hg, rfl, HI, HCE, HBW⟩ := hrel
      have hLi : L.length = i := by have := congrArg List.length HCE.out; rw [cps_len, cpF_len] at this; exact this
      obtain ⟨pv, cv, hvf, -, -⟩ := HI.out.buf.form
      rw [List.length_map, hLi] at hvf
      subst hvf
      by_cases hlt : i < N
      · have hlt' : (i : Int) < (N : Int) := by omega
        have hic : (i : Int) < (ca : Int) := by omega
        have hi64 : (i : Int) < 64 := by omega
        have HLD : Hid ((Instr.loadAt 23 (.pointer (some ⟨ga, i * 5, none⟩))).run Try.prog wr = .ok (.agg (alG k m s i).cs) wr) := hid (HAT.out i hlt wr ga ca (HFL.out.below HBW.out))
        have HBI := hid (HBY.out i hlt wr)
        have HB8I := hid (HB8.out i hlt)
        have HST := hid (cpF_step k m s i)
        have HWS : Hid (w2.heap.size ≤ wr.heap.size) := hid HBW.out.size
        clear HE HAT HBY HB8
        generalize alG k m s i = f at *
        go_wp2_with (first
          | ((with_reducible refine wpList_loadW 23 _ rfl ?_ (.pointer (some ⟨ga, i * 5, none⟩)) (.agg f.cs) ?_ HLD.out ?_); kernel_rfl; exact rfl)
          | (go_at_call 10; refine HBI.out.mono ?_; rintro e w3 ⟨pb, cb, rfl, hbf, hb3⟩; obtain ⟨v', w6, hrun, hci, hbw⟩ := (HI.out.on hb3).push11 ⟨0, .slice pb 40 cb, fmB f⟩ (own_base hbf HWS.out) HB8I.out (by show (fmB f).length ≤ 100000; rw [fmB_len]; decide) (by rw [hLi]; omega) (Nat.le_trans HWS.out hb3.size) 37; have HRUN := hid hrun; have HCI := hid hci; have HBX := hid (below_tr (below_on HBW.out hb3) hbw); have HBT := hid (builtC14 _ pb 40 cb rfl); clear hrun hci hbw hbf hb3)
          | ((with_reducible refine wpList_build_want 39 _ rfl ?_ (cC 0 (.slice pb 40 cb)) ?_ ?_); kernel_rfl; exact HBT.out)
          | ((with_reducible refine wpList_bsC rfl _ rfl (e := 0) (v := .slice pb 40 cb) ?_ ?_); exact rfl)
          | (at_builtin; refine wpList_append_run _ _ 37 37 rfl rfl _ _ _ rfl rfl HRUN.out ?_))

        go_roundg (N - (i + 1))
        case measure => omega
        case rel => exact ⟨i + 1, _, by omega, Nat.le_refl _, by go_num, HCI, hid (by rw [HST.out, ← HCE.out]; simp [cps, Cv.cp]), HBX⟩
      · have hlt' : ¬ (i : Int) < (N : Int) := by omega
        have e : i = N := by omega
        subst e
        have HP := hid (HE.out _ _ _ _ (HI.out.base14 HB.out.size) HCE.out (below_on HB.out HBW.out))
        clear HE HI HCE
        go_wp2
        exact HP.out
end Go.Proofs.Ytfniojnklhjgbaa

/- FormatPlaces: the mathematics, and what is asked of the calls. (Written by tools/gen_Gn15.py.) -/
namespace Go.Proofs.Ytfniojnklhjgbaa
open Go Go.RowKit

def dfC : Cv := ⟨0, .slice none 0 0, []⟩
/-- All in it was written. -/
def Wr (L : List Cv) (N : Nat) : Prop := L.length = N ∧ ∀ i, i < N → ∃ p c f, okFm f = true ∧ L[i]? = some ⟨0, .slice p 40 c, fmB f⟩
theorem CI.wr {B : Nat} {w : World} {v : Value} {L : List Cv} (h : CI B w v L) {k m s : Int} {N : Nat} (hN : alN k m s = N) (hok : okAl k m s = true) (h0 : cps L = cpF k m s N) : Wr L N := by
  have hl : L.length = N := by have := congrArg List.length h0; rw [cps_len, cpF_len] at this; exact this
  refine ⟨hl, fun i hi => ?_⟩
  obtain ⟨x, hx⟩ : ∃ x, L[i]? = some x := ⟨_, List.getElem?_eq_getElem (by omega)⟩
  have h1 : (cps L)[i]? = (cpF k m s N)[i]? := by rw [h0]
  rw [cps_get, hx, cpF_at k m s hi] at h1
  simp only [Option.map_some, Option.some.injEq, Cv.cp, Cp.mk.injEq] at h1
  obtain ⟨e1, e2⟩ := h1
  obtain ⟨p, c, hv⟩ := (h.each x (List.mem_of_getElem? hx)).1.form
  refine ⟨p, c, alG k m s i, alG_ok hok (by omega), ?_⟩
  rw [hx]
  obtain ⟨xe, xv, xb⟩ := x
  simp only at e1 e2 hv
  subst e1
  rw [e2] at hv
  rw [fmB_len] at hv
  rw [hv, e2]
/-- What FormatPlaces carries. -/
structure FP (w : World) (g N c : Nat) (L : List Cv) (W : World) : Prop where
  be : Below w.heap.size w W
  ci : CI w.heap.size W (.slice (some ⟨g, 0, none⟩) N c) L
theorem FP.on {w W W' : World} {g N c : Nat} {L : List Cv} (h : FP w g N c L W) (hb : Below W.heap.size W W') : FP w g N c L W' := ⟨below_on h.be hb, h.ci.on hb⟩
theorem FP.load {w W : World} {g N c : Nat} {L : List Cv} (h : FP w g N c L W) {i : Nat} {x : Cv} (hx : L[i]? = some x) : (Instr.loadAt 39 (.pointer (some ⟨g, i * 2, none⟩))).run Try.prog W = .ok (.agg (cC x.err x.v)) W := load_atC (h.ci.at14 hx)
theorem FP.store {ops : Array Oper} {rest : List Oper} {o : Oper} {a : Act} {w W : World} {Q : Exit → Act → World → Prop} {g N c : Nat} {L : List Cv} (h : FP w g N c L W) {i : Nat} (hi : i < L.length) (x : Cv) (hx : Buf w.heap.size W x.v x.bs) (h8 : ∀ z ∈ x.bs, z < 256) (hs : x.bs.length ≤ 100000)
    (hgd : o.guard = none) (hdst : o.dst = none) (X Y : Operand) (ho : o.op = .store 39 X Y) (hX : a.eval X = .pointer (some ⟨g, i * 2, none⟩)) (hY : a.eval Y = .agg (cC x.err x.v))
    (hk : ∀ w', FP w g N c (L.set i x) w' → Only (fun b => b = g) W w' → wpList Try.prog ops Q rest a w') : wpList Try.prog ops Q (o :: rest) a W := by
  refine wpList_storeC h.ci hi x hx h8 hs hgd hdst X Y ho hX hY fun w' h1 h2 => hk w' ⟨?_, h1⟩ h2
  exact below_tr h.be (h2.below h.be.size (fun b e => by have h9 := (own_ge h.ci.buf g rfl).1; have e9 : b = g := e; omega))
theorem Buf.nil14 (B : Nat) (w : World) : Buf B w (.slice none 0 0) [] := World.ownsRow_nil w B 5 1
/-- Four contracts, as FormatPlaces asks them. -/
theorem copies14_ok (hF : FmC) {k m s : Int} {N : Nat} (hk : inI k) (hm : inI m) (hs : inI s) (hok : okAl k m s = true) (hN : alN k m s = N) (w W : World) (hb : Below w.heap.size w W) : Calls Try.prog 27 #[.int .i64 k, .int .i64 m, .int .i64 s] W fun e w' => ∃ g c L, e = .returned (.tuple #[.slice (some ⟨g, 0, none⟩) N c, .bool true]) ∧ N ≤ c ∧ FP w g N c L w' ∧ g < w'.heap.size ∧ cps L = cpF k m s N ∧ Wr L N := (copies14_any hF k m s W hk hm hs).mono fun e w' h => by
  rcases h with ⟨_, po, c, L, h1, h2, h3, h4⟩ | ⟨h, _⟩
  · rw [hN] at h1 h2 h3
    have hl : L.length = N := by have := congrArg List.length h3; rw [cps_len, cpF_len] at this; exact this
    obtain ⟨g, rfl, hg⟩ := h2.blk14 (by have := (alN_le hok).1; omega)
    exact ⟨g, c, L, h1, by have := h2.len14.2; omega, ⟨below_on hb h4, h2.base14 hb.size⟩, (own_ge h2.buf g rfl).2, h3, h2.wr hN hok h3⟩
  · rw [hok] at h; cases h
end Go.Proofs.Ytfniojnklhjgbaa

/- FormatPlaces: a format with a byte turned. (Written by tools/gen_Gp15.py.) -/
namespace Go.Proofs.Ytfniojnklhjgbaa
open Go Go.RowKit

theorem set_lt14 {L : List Nat} (h : ∀ z ∈ L, z < 256) {i y : Nat} (hy : y < 256) : ∀ z ∈ L.set i y, z < 256 := fun z hz => by
  rcases List.mem_or_eq_of_mem_set hz with h1 | rfl
  · exact h z h1
  · exact hy
theorem Buf.sl14 {B : Nat} {w : World} {v : Value} {L : List Nat} (h : Buf B w v L) : SL w v L := by
  obtain ⟨p, c, rfl⟩ := h.form
  exact ⟨p, c, rfl, h.bl, h.cap.2⟩
theorem Buf.nil14' {B : Nat} {w : World} {v : Value} {L : List Nat} (h : Buf B w v L) {n c : Nat} (e : v = .slice none n c) : c = 0 := by
  subst e
  rcases h.2 with ⟨e, _⟩ | ⟨g, cap, cur, e, _⟩
  · cases e; rfl
  · cases e
theorem copy14 {B : Nat} {w : World} {p : Option Addr} {c : Nat} {f : FmV} (h : Buf B w (.slice p 40 c) (fmB f)) : Calls Try.prog 24 #[.slice p 40 c] w fun e w' => ∃ pt ct, e = .returned (.slice pt 40 ct) ∧ 40 ≤ ct ∧ Buf w.heap.size w' (.slice pt 40 ct) (fmB f) ∧ Below w.heap.size w w' := (copyB_any h.sl14 (by rw [fmB_len]; decide) (fun n c e => h.nil14' e)).mono fun e w' hq => by
  obtain ⟨v', h1, h2, h3⟩ := hq
  obtain ⟨pt, ct, hv⟩ := h2.form
  subst hv
  have h4 := h2.cap.2
  rw [fmB_len] at h1 h2 h4
  exact ⟨pt, ct, h1, h4, h2, h3⟩
end Go.Proofs.Ytfniojnklhjgbaa

/- FormatKnown: the chapter's examples, as mathematics, and what is asked of the calls. -/
namespace Go.Proofs.Ytfniojnklhjgbaa
open Go Go.RowKit

/-- How a copy is judged. -/
def jdc (c : Cp) (f : FmV) : Nat := if c.err = 6 then 1 else if c.err = 0 then (if rdFe c.b ≠ 0 then 1 else if rdFv c.b = f then 2 else 3) else 4
theorem jdg_c (x : Cv) (f : FmV) : jdg x f = jdc x.cp f := rfl
theorem cps_set (L : List Cv) (i : Nat) (x : Cv) : cps (L.set i x) = (cps L).set i x.cp := by unfold cps; rw [List.map_set]
theorem cps_getD (L : List Cv) (i : Nat) : (L.getD i dfC).cp = (cps L).getD i dfC.cp := by
  simp only [List.getD, cps_get]
  cases L[i]? <;> rfl
theorem jdc_w {f g : FmV} (hf : okFm f = true) : jdc ⟨0, fmB f⟩ g = if f = g then 2 else 3 := by
  unfold jdc
  rw [if_neg (show ¬ ((0 : Int) = 6) by decide), if_pos rfl, (rd_fmB hf).1, (rd_fmB hf).2, if_neg (by decide)]
theorem jdc_off (b : List Nat) (g : FmV) : jdc ⟨12, b⟩ g = 4 := by unfold jdc; rw [if_neg (show ¬ ((12 : Int) = 6) by decide), if_neg (show ¬ ((12 : Int) = 0) by decide)]
theorem jdc_none (b : List Nat) (g : FmV) : jdc ⟨6, b⟩ g = 1 := by unfold jdc; rw [if_pos rfl]
abbrev kG (i : Nat) : FmV := alG 2 1 2 i
abbrev kC (i : Nat) : Cp := ⟨0, fmB (kG i)⟩
theorem k_ok : okAl 2 1 2 = true := by decide
theorem k_six : alN 2 1 2 = 6 := by decide
theorem kG_ok {i : Nat} (h : i < 6) : okFm (kG i) = true := alG_ok k_ok (by rw [k_six]; exact h)
theorem six_cases {P : Nat → Prop} (h0 : P 0) (h1 : P 1) (h2 : P 2) (h3 : P 3) (h4 : P 4) (h5 : P 5) : ∀ i, i < 6 → P i := fun i hi => by
  rcases (show i = 0 ∨ i = 1 ∨ i = 2 ∨ i = 3 ∨ i = 4 ∨ i = 5 by omega) with rfl | rfl | rfl | rfl | rfl | rfl
  · exact h0
  · exact h1
  · exact h2
  · exact h3
  · exact h4
  · exact h5
theorem kj (a b : Nat) (ha : a < 6) : jdc (kC a) (kG b) = if a = b then 2 else 3 := by
  rw [jdc_w (kG_ok ha)]
  by_cases e : a = b
  · subst e; rw [if_pos rfl, if_pos rfl]
  · rw [if_neg (fun h => e (alG_inj h)), if_neg e]
theorem k_own : ∀ i, i < 6 → jdc (([kC 0, kC 1, kC 2, kC 3, kC 4, kC 5] : List Cp).getD i dfC.cp) (kG i) = ([2, 2, 2, 2, 2, 2] : List Nat).getD i 0 :=
  six_cases (kj 0 0 (by decide)) (kj 1 1 (by decide)) (kj 2 2 (by decide)) (kj 3 3 (by decide)) (kj 4 4 (by decide)) (kj 5 5 (by decide))
theorem k_two : ∀ i, i < 6 → jdc (([kC 1, kC 0, kC 2, kC 3, kC 4, kC 5] : List Cp).getD i dfC.cp) (kG i) = ([3, 3, 2, 2, 2, 2] : List Nat).getD i 0 :=
  six_cases (kj 1 0 (by decide)) (kj 0 1 (by decide)) (kj 2 2 (by decide)) (kj 3 3 (by decide)) (kj 4 4 (by decide)) (kj 5 5 (by decide))
theorem k_off : ∀ i, i < 6 → jdc (([kC 0, kC 1, kC 2, kC 3, ⟨12, []⟩, ⟨6, []⟩] : List Cp).getD i dfC.cp) (kG i) = ([2, 2, 2, 2, 4, 1] : List Nat).getD i 0 :=
  six_cases (kj 0 0 (by decide)) (kj 1 1 (by decide)) (kj 2 2 (by decide)) (kj 3 3 (by decide)) (jdc_off _ _) (jdc_none _ _)
theorem k_nine : rdFe ((fmB (kG 0)).set 3 3) = 14 := by decide +kernel
theorem k_three : (fmB (kG 0)).getD 3 0 = 2 := by decide +kernel
theorem CI.wr15 {B : Nat} {w : World} {v : Value} {L : List Cv} (h : CI B w v L) (h0 : cps L = cpF 2 1 2 6) {i : Nat} (hi : i < 6) : ∃ p c, L[i]? = some ⟨0, .slice p 40 c, fmB (kG i)⟩ ∧ 40 ≤ c := by
  have hl : L.length = 6 := by have := congrArg List.length h0; rw [cps_len, cpF_len] at this; exact this
  obtain ⟨x, hx⟩ : ∃ x, L[i]? = some x := ⟨_, List.getElem?_eq_getElem (by omega)⟩
  have h1 : (cps L)[i]? = (cpF 2 1 2 6)[i]? := by rw [h0]
  rw [cps_get, hx, cpF_at 2 1 2 hi] at h1
  simp only [Option.map_some, Option.some.injEq, Cv.cp, Cp.mk.injEq] at h1
  obtain ⟨e1, e2⟩ := h1
  have hbf := (h.each x (List.mem_of_getElem? hx)).1
  obtain ⟨p, c, hv⟩ := hbf.form
  obtain ⟨xe, xv, xb⟩ := x
  simp only at e1 e2 hv hbf
  subst e1
  subst hv
  subst e2
  have hc := hbf.cap.2
  rw [fmB_len] at hc
  refine ⟨p, c, ?_, hc⟩
  rw [hx, fmB_len]
theorem copies14K (hF : FmC) (w W : World) (hb : Below w.heap.size w W) : Calls Try.prog 27 #[.int .i64 2, .int .i64 1, .int .i64 2] W fun e w' => ∃ g c L, e = .returned (.tuple #[.slice (some ⟨g, 0, none⟩) 6 c, .bool true]) ∧ 6 ≤ c ∧ FP w g 6 c L w' ∧ g < w'.heap.size ∧ L.length = 6 ∧ cps L = [kC 0, kC 1, kC 2, kC 3, kC 4, kC 5] ∧ (∃ p0 c0, L[0]? = some ⟨0, .slice p0 40 c0, fmB (kG 0)⟩ ∧ 40 ≤ c0) ∧ ∃ p1 c1, L[1]? = some ⟨0, .slice p1 40 c1, fmB (kG 1)⟩ := (copies14_ok hF (by unfold inI; omega) (by unfold inI; omega) (by unfold inI; omega) k_ok k_six w W hb).mono fun e w' h => by
  obtain ⟨g, c, L, h1, h2, h3, h4, h5, h6⟩ := h
  obtain ⟨p1, c1, h7, _⟩ := h3.ci.wr15 h5 (i := 1) (by decide)
  exact ⟨g, c, L, h1, h2, h3, h4, h6.1, h5, h3.ci.wr15 h5 (by decide), p1, c1, h7⟩
/-- Six states lie there. -/
def StA (W : World) (gs : Nat) (J : List Nat) : Prop := gs < W.heap.size ∧ ∀ i, i < 6 → W.cell? ⟨gs, i, none⟩ = some (.int .i64 ((J.getD i 0 : Nat) : Int))
theorem StA.below {W W' : World} {gs : Nat} {J : List Nat} (h : StA W gs J) (hb : Below W.heap.size W W') : StA W' gs J := ⟨Nat.lt_of_lt_of_le h.1 hb.size, fun i hi => (World.cell?_of_block (a := ⟨gs, i, none⟩) (hb.block gs h.1)).trans (h.2 i hi)⟩
theorem StA.only {W W' : World} {gs g : Nat} {J : List Nat} (h : StA W gs J) (ho : Only (fun b => b = g) W W') (hg : gs ≠ g) : StA W' gs J := ⟨Nat.lt_of_lt_of_le h.1 ho.size, fun i hi => (World.cell?_of_block (a := ⟨gs, i, none⟩) (ho.block gs h.1 hg)).trans (h.2 i hi)⟩
theorem StA.int {W : World} {gs : Nat} {J : List Nat} (h : StA W gs J) : H.IntAt W (some ⟨gs, 0, none⟩) 6 (fun i => J.getD i 0) := .inr ⟨gs, 0, rfl, fun i hi => by rw [Nat.zero_add]; exact h.2 i hi⟩
theorem judge14K (hF : FmC) {w W : World} {g c : Nat} {L : List Cv} (h : FP w g 6 c L W) {M : List Cp} (hM : cps L = M) {J : List Nat} (hJ : ∀ i, i < 6 → jdc (M.getD i dfC.cp) (kG i) = J.getD i 0) : Calls Try.prog 21 #[.slice (some ⟨g, 0, none⟩) 6 c, .int .i64 2, .int .i64 1, .int .i64 2] W fun e w' => ∃ gs cs, e = .returned (.tuple #[.slice (some ⟨gs, 0, none⟩) 6 cs, .int .i64 0]) ∧ StA w' gs J ∧ W.heap.size ≤ gs ∧ Below W.heap.size W w' := by
  have hl : L.length = 6 := h.ci.len14.1.symm
  have hj : jdE L 2 1 2 = 0 := by unfold jdE; rw [if_pos ⟨k_ok, by rw [hl, k_six]⟩]
  refine (hF.judge _ L 2 1 2 W (h.ci.cl (by omega)) (by unfold inI; omega) (by unfold inI; omega) (by unfold inI; omega)).mono fun e w' hq => ?_
  rcases hq with ⟨_, po, cs, rfl, h3, h4⟩ | ⟨h3, _⟩
  · have hjl : jdL L 2 1 2 = jdN L 2 1 2 L.length := by unfold jdL jdN; rw [if_pos hj]
    rw [hjl] at h3
    obtain ⟨gs, c2, e2, h5, h8, h6, h7⟩ := h3.open_ (fun e => by have := congrArg List.length e; rw [jdN_len, List.length_nil] at this; omega)
    rw [jdN_len] at e2 h5 h7
    cases e2
    rw [hl]
    refine ⟨gs, cs, rfl, ⟨h6, fun i hi => ?_⟩, h8, h4⟩
    rw [h7 i (by omega)]
    have h9 : (jdN L 2 1 2 L.length).getD i 0 = jdg (L.getD i dfC) (kG i) := by
      unfold jdN
      simp [List.getD, show i < L.length by omega, dfC]
    rw [h9, jdg_c, cps_getD, hM, hJ i hi]
  · exact absurd hj h3
theorem all14K (hF : FmC) (k m s : Int) (hk : inI k) (hm : inI m) (hs : inI s) (hok : okAl k m s = false) (W : World) : Calls Try.prog 19 #[.int .i64 k, .int .i64 m, .int .i64 s] W fun e w' => e = .returned (.tuple #[.slice none 0 0, .int .i64 2]) ∧ Below W.heap.size W w' := (hF.all k m s W hk hm hs).mono fun e w' h => by
  rcases h with ⟨h, _⟩ | ⟨_, h⟩
  · rw [hok] at h; cases h
  · exact h
theorem read14K (hF : FmC) {B : Nat} {W : World} {p : Option Addr} {c : Nat} (h : Buf B W (.slice p 40 c) ((fmB (kG 0)).set 3 3)) : Calls Try.prog 11 #[.slice p 40 c] W fun e w' => e = .returned (.tuple #[.agg zF.cs, .int .i64 14]) ∧ Below W.heap.size W w' := by
  have hl : ((fmB (kG 0)).set 3 3).length = 40 := by rw [List.length_set, fmB_len]
  have hc := h.cap.2
  have := hF.read p c ((fmB (kG 0)).set 3 3) W h.bl hc (by rw [hl]; decide) (fun e => by subst e; exact h.nil14' rfl) (set_lt14 (fmB_lt (kG_ok (by decide))) (by decide))
  rw [hl] at this
  refine this.mono fun e w' h => ?_
  obtain ⟨h1, h2⟩ := h
  rw [rdFv_bad (by rw [k_nine]; decide), k_nine] at h1
  exact ⟨h1, h2⟩
theorem read14H (hF : FmC) {B : Nat} {W : World} {p : Option Addr} {c : Nat} (h : Buf B W (.slice p 40 c) (fmB (kG 0))) : Calls Try.prog 11 #[.slice p 39 c] W fun e w' => e = .returned (.tuple #[.agg zF.cs, .int .i64 4]) ∧ Below W.heap.size W w' := by
  have hl : ((fmB (kG 0)).take 39).length = 39 := by rw [List.length_take, fmB_len]; decide
  have hc := h.cap.2
  have := hF.read p c ((fmB (kG 0)).take 39) W (h.bl.take _) (by rw [hl]; omega) (by rw [hl]; decide) (fun e => by subst e; exact h.nil14' rfl) (fun z hz => fmB_lt (kG_ok (by decide)) z (List.mem_of_mem_take hz))
  rw [hl] at this
  refine this.mono fun e w' h => ?_
  obtain ⟨h1, h2⟩ := h
  have e4 : rdFe ((fmB (kG 0)).take 39) = 4 := rd_len (by rw [hl]; decide)
  rw [rdFv_bad (by rw [e4]; decide), e4] at h1
  exact ⟨h1, h2⟩
theorem FP.buf {w W : World} {g N c : Nat} {L : List Cv} (h : FP w g N c L W) {i : Nat} {x : Cv} (hx : L[i]? = some x) : Buf w.heap.size W x.v x.bs := (h.ci.each x (List.mem_of_getElem? hx)).1
theorem FP.other {w W W' : World} {g N c : Nat} {L : List Cv} (h : FP w g N c L W) {v : Value} {bs : List Nat} (hx : Buf w.heap.size W v bs) (ho : Only (fun b => b = g) W W') : Buf w.heap.size W' v bs := own_otherO11 hx h.ci.buf (by decide) (ho.mono fun b e => by have e9 : b = g := e; rw [e9]; rfl)
theorem FP.lt {w W : World} {g N c : Nat} {L : List Cv} (h : FP w g N c L W) : g < W.heap.size := (own_ge h.ci.buf g rfl).2
theorem own_other14 {B e sz n : Nat} {w w' : World} {v : Value} {xs : List Value} {g : Nat} {C : Array Value} {t : TypeId} (ht : t ≠ e) (h : w.ownsRow B e sz v n xs) (hc : CAt w g C t) (ho : Only (fun b => b = g) w w') : w'.ownsRow B e sz v n xs := by
  refine ownsRow_keep h fun b hb => ?_
  rcases h.2 with ⟨e2, _⟩ | ⟨g', cap, cur, e2, _, hg', _⟩
  · rw [e2] at hb; cases hb
  · rw [e2] at hb
    cases hb
    have h2 : CAt w g' cur e := hg'
    exact ho.block g' h2.lt (fun k => hc.apart h2 ht k.symm)
theorem FP.box {w W W' : World} {g N c q : Nat} {L : List Cv} {C : Array Value} (h : FP w g N c L W) (hc : CAt W q C 39) (hq : g ≠ q) (hB : w.heap.size ≤ q) (ho : Only (fun b => b = q) W W') : FP w g N c L W' := by
  refine ⟨below_tr h.be (ho.below h.be.size (fun b e => by have e9 : b = q := e; omega)), ⟨XB.keep h.ci.buf fun b hb => ho.block b (own_ge h.ci.buf b hb).2 (fun e => ?_), fun x hx => ⟨own_other14 (by decide) (h.ci.each x hx).1 hc ho, (h.ci.each x hx).2⟩⟩⟩
  have e8 : g = b := by simpa [Value.ownBlock] using hb
  have e9 : b = q := e
  omega
end Go.Proofs.Ytfniojnklhjgbaa

/- FormatKnown. (Written by tools/gen_Gu15.py.) -/
namespace Go.Proofs.Ytfniojnklhjgbaa
open Go Go.RowKit

set_option linter.unusedVariables false in
set_option maxRecDepth 100000 in
set_option maxHeartbeats 16000000 in
theorem formatKnown_core (hF : FmC) (w : World) : Calls Try.prog 7 #[] w fun e w' => e = .returned (.bool true) ∧ Below w.heap.size w w' := by
  have HAW := hid (fun W => awake14_any hF W)
  have HCP := hid (copies14K hF w w (Below.refl _ _))
  have HJ := hid (fun (g c : Nat) (L : List Cv) (W : World) (h : FP w g 6 c L W) (M : List Cp) (hM : cps L = M) (J : List Nat) (hJ : ∀ i, i < 6 → jdc (M.getD i dfC.cp) (kG i) = J.getD i 0) => judge14K hF h hM hJ)
  have HA1 := hid (fun W => all14K hF 0 1 1 (by unfold inI; omega) (by unfold inI; omega) (by unfold inI; omega) (by decide) W)
  have HA2 := hid (fun W => all14K hF 8 9 1 (by unfold inI; omega) (by unfold inI; omega) (by unfold inI; omega) (by decide) W)
  have HA3 := hid (fun W => all14K hF 1 1 5 (by unfold inI; omega) (by unfold inI; omega) (by unfold inI; omega) (by decide) W)
  have HCPY := hid (fun (B : Nat) (W : World) (p : Option Addr) (c : Nat) (h : Buf B W (.slice p 40 c) (fmB (kG 0))) => copy14 h)
  have HRT := hid (fun (B : Nat) (W : World) (p : Option Addr) (c : Nat) (h : Buf B W (.slice p 40 c) ((fmB (kG 0)).set 3 3)) => read14K hF h)
  have HRH := hid (fun (B : Nat) (W : World) (p : Option Addr) (c : Nat) (h : Buf B W (.slice p 40 c) (fmB (kG 0))) => read14H hF h)
  have HF8 := hid (fmB_lt (kG_ok (i := 0) (by decide)))
  have HF81 := hid (fmB_lt (kG_ok (i := 1) (by decide)))
  have HK3 := hid k_three
  have hxo : bits .xor .u8 (2 : Int) 1 = 3 := by decide
  have HB6 := hid (builtC15 6)
  have HB12 := hid (builtC15 12)
  obtain ⟨F0, hF0⟩ : ∃ F, fmB (kG 0) = F := ⟨_, rfl⟩
  obtain ⟨F1, hF1⟩ : ∃ F, fmB (kG 1) = F := ⟨_, rfl⟩
  have HL0 : Hid (F0.length = 40) := hid (by rw [← hF0]; exact fmB_len _)
  have HL1 : Hid (F1.length = 40) := hid (by rw [← hF1]; exact fmB_len _)
  have HKC0 : Hid (∀ v, (⟨0, v, F0⟩ : Cv).cp = kC 0) := hid (fun v => by rw [← hF0]; rfl)
  have HKC1 : Hid (∀ v, (⟨0, v, F1⟩ : Cv).cp = kC 1) := hid (fun v => by rw [← hF1]; rfl)
  rw [hF0] at HRT HRH HF8 HK3 HCP HCPY
  rw [hF1] at HF81 HCP
  clear hF hF0 hF1
  have TA : Hid True := hid trivial
  have TB : Hid True := hid trivial
  have TC : Hid True := hid trivial
  go_enter Try.func7, Try.ntmps7
  go_upto_region 2 with (go_at_call 27; refine HCP.out.mono ?_; rintro e w1 ⟨g, c, L, rfl, hc6, hfp, hgl, hlen, hcp, ⟨p0, c0, hx0, hc0⟩, p1, c1, hx1⟩)
  have HFP := hid hfp
  have HGL := hid hgl
  have HLN := hid hlen
  have HCE := hid hcp
  have HX0 := hid hx0
  have HX1 := hid hx1
  have cell1 : w1.cell? ⟨g, 1, none⟩ = some (.slice p0 40 c0) := hfp.ci.at14 hx0 1 _ rfl
  have hc6' : (6 : Int) ≤ (c : Int) := by omega
  have hc40 : (40 : Int) ≤ (c0 : Int) := by omega
  have hc1c : (1 : Int) < (c : Int) := by omega
  clear HCP hfp hgl hlen hcp hx0 hx1 hc6
  go_upto_region 5 with (go_at_call 21; refine (HJ.out g c L _ HFP.out _ HCE.out _ k_own).mono ?_; rintro e w2 ⟨gs1, cs1, rfl, hi1, hg1, hb2⟩)
  replace HFP := hid (HFP.out.on hb2)
  have HS1 := hid hi1
  have HG1 : Hid (gs1 ≠ g) := hid (by have := HGL.out; omega)
  have HLD0 := hid (show (Instr.loadAt 39 (.pointer (some ⟨g, 0, none⟩))).run Try.prog w2 = .ok (.agg (cC 0 (.slice p0 40 c0))) w2 from HFP.out.load HX0.out)
  have HFPW := hid (show Below w.heap.size w w2 from HFP.out.be)
  have HS1L := hid hi1.1
  clear cell1 hi1 hg1
  have hgl2 : g < w2.heap.size := Nat.lt_of_lt_of_le HGL.out hb2.size
  clear hb2
  go_upto_region 6 with (first
    | ((with_reducible refine wpList_loadW 39 _ rfl ?_ (.pointer (some ⟨g, 0, none⟩)) (.agg (cC 0 (.slice p0 40 c0))) ?_ HLD0.out ?_); kernel_rfl; exact rfl)
    | ((with_reducible refine wpList_allocX 39 _ zeroCp rfl rfl ?_); intro w3 g5 hz2 hb2 hg2; have HZ2 := hid hz2; have HB2 := hid hb2; have HG2 := hid hg2; clear hz2 hb2 hg2)
    | ((with_reducible refine wpList_storeX 39 2 sizeCp rfl rfl _ _ rfl g5 ?_ (D := cC 0 (.slice p0 40 c0)) ?_ ?_ ?_ ?_ HZ2.out ?_); exact rfl; exact rfl; exact rfl; exact rfl; exact cC_one _ _ _ _; intro w4 h3 o3))
  have hbx := ownX HB2.out HG2.out o3
  replace HFP := hid (HFP.out.on hbx)
  replace HS1 := hid (HS1.out.below hbx)
  have HGG : Hid (g ≠ g5) := hid (by have := HG2.out; omega)
  have HG5 : Hid (w.heap.size ≤ g5) := hid (by have := HFPW.out.size; have := HG2.out; omega)
  have HG15 : Hid (gs1 ≠ g5) := hid (by have := HS1L.out; have := HG2.out; omega)
  have HC5 := hid h3
  have HLD1 := hid (show (Instr.loadAt 39 (.pointer (some ⟨g, 2, none⟩))).run Try.prog w4 = .ok (.agg (cC 0 (.slice p1 40 c1))) w4 from HFP.out.load HX1.out)
  clear HLD0 hgl2 h3 o3 hbx HZ2 HB2 HG2
  -- the first exchange
  go_upto_region 7 with (first
    | ((with_reducible refine wpList_loadW 39 _ rfl ?_ (.pointer (some ⟨g, 2, none⟩)) (.agg (cC 0 (.slice p1 40 c1))) ?_ HLD1.out ?_); kernel_rfl; exact rfl)
    | ((with_reducible refine HFP.out.store (i := 0) ?_ ⟨0, .slice p1 40 c1, F1⟩ ?_ ?_ ?_ rfl rfl _ _ rfl ?_ ?_ ?_); (rw [HLN.out]; decide); exact HFP.out.buf HX1.out; exact HF81.out; (show F1.length ≤ 100000; rw [HL1.out]; decide); exact rfl; exact rfl; intro w5 hf5 o5))
  have HFA := hid hf5
  have HC6 := hid (HC5.out.keep (o5.block g5 HC5.out.lt (fun e => HGG.out e.symm)))
  have HM0 := hid (HFP.out.other (HFP.out.buf HX0.out) o5)
  replace HS1 := hid (HS1.out.only o5 HG1.out)
  clear hf5 o5 HLD1
  go_upto_region 8 with (first
    | ((with_reducible refine wpList_load_at 39 _ rfl ?_ g5 0 ?_ (cC 0 (.slice p0 40 c0)) _ ?_ underCp rfl ?_ ?_); exact rfl; exact rfl; exact HC6.out.whole; exact sizeCp)
    | ((with_reducible refine HFA.out.store (i := 1) ?_ ⟨0, .slice p0 40 c0, F0⟩ ?_ ?_ ?_ rfl rfl _ _ rfl ?_ ?_ ?_); (rw [List.length_set, HLN.out]; decide); exact HM0.out; exact HF8.out; (show F0.length ≤ 100000; rw [HL0.out]; decide); exact rfl; exact rfl; intro w6 hf6 o6))
  obtain ⟨L1, hL1⟩ : ∃ L1, (L.set 0 ⟨0, .slice p1 40 c1, F1⟩).set 1 ⟨0, .slice p0 40 c0, F0⟩ = L1 := ⟨_, rfl⟩
  rw [hL1] at hf6
  have HFB := hid hf6
  have HC7 := hid (HC6.out.keep (o6.block g5 HC6.out.lt (fun e => HGG.out e.symm)))
  replace HS1 := hid (HS1.out.only o6 HG1.out)
  have HLN1 : Hid (L1.length = 6) := hid (by rw [← hL1, List.length_set, List.length_set, HLN.out])
  have HCE1 : Hid (cps L1 = [kC 1, kC 0, kC 2, kC 3, kC 4, kC 5]) := hid (by rw [← hL1, cps_set, cps_set, HCE.out, HKC0.out, HKC1.out]; rfl)
  have HX10 : Hid (L1[0]? = some ⟨0, .slice p1 40 c1, F1⟩) := hid (by rw [← hL1, List.getElem?_set_ne (by decide), List.getElem?_set_self (by rw [HLN.out]; decide)])
  have HX11 : Hid (L1[1]? = some ⟨0, .slice p0 40 c0, F0⟩) := hid (by rw [← hL1, List.getElem?_set_self (by rw [List.length_set, HLN.out]; decide)])
  clear hL1 hf6 o6 HM0 HFA HC6 HFP HLN HCE HX0 HX1 HC5
  go_upto_region 9 with (go_at_call 21; refine (HJ.out g c L1 _ HFB.out _ HCE1.out _ k_two).mono ?_; rintro e w7 ⟨gs2, cs2, rfl, hi2, hg2, hb7⟩)
  have HG2 : Hid (gs2 ≠ g) := hid (by have := HFB.out.lt; omega)
  have HG25 : Hid (gs2 ≠ g5) := hid (by have := HC7.out.lt; omega)
  replace HFB := hid (HFB.out.on hb7)
  replace HS1 := hid (HS1.out.below hb7)
  replace HC7 := hid (HC7.out.below hb7)
  have HS2 := hid hi2
  have HLD := hid (show (Instr.loadAt 39 (.pointer (some ⟨g, 0, none⟩))).run Try.prog w7 = .ok (.agg (cC 0 (.slice p1 40 c1))) w7 from HFB.out.load HX10.out)
  have HCE0 := HCE1
  clear hi2 hg2 hb7 HCE1
  go_upto_region 10 with (first
    | ((with_reducible refine wpList_loadW 39 _ rfl ?_ (.pointer (some ⟨g, 0, none⟩)) (.agg (cC 0 (.slice p1 40 c1))) ?_ HLD.out ?_); kernel_rfl; exact rfl)
    | ((with_reducible refine wpList_storeX 39 2 sizeCp rfl rfl _ _ rfl g5 ?_ (D := cC 0 (.slice p1 40 c1)) ?_ ?_ ?_ ?_ HC7.out ?_); exact rfl; exact rfl; exact rfl; exact rfl; exact cC_one _ _ _ _; intro w8 h8 o8))
  replace HFB := hid (HFB.out.box HC7.out HGG.out HG5.out o8)
  replace HS1 := hid (HS1.out.only o8 HG15.out)
  replace HS2 := hid (HS2.out.only o8 HG25.out)
  have HC8 := hid h8
  have HLD1 := hid (show (Instr.loadAt 39 (.pointer (some ⟨g, 2, none⟩))).run Try.prog w8 = .ok (.agg (cC 0 (.slice p0 40 c0))) w8 from HFB.out.load HX11.out)
  clear h8 o8 HC7 HLD
  go_upto_region 11 with (first
    | ((with_reducible refine wpList_loadW 39 _ rfl ?_ (.pointer (some ⟨g, 2, none⟩)) (.agg (cC 0 (.slice p0 40 c0))) ?_ HLD1.out ?_); kernel_rfl; exact rfl)
    | ((with_reducible refine HFB.out.store (i := 0) ?_ ⟨0, .slice p0 40 c0, F0⟩ ?_ ?_ ?_ rfl rfl _ _ rfl ?_ ?_ ?_); (rw [HLN1.out]; decide); exact HFB.out.buf HX11.out; exact HF8.out; (show F0.length ≤ 100000; rw [HL0.out]; decide); exact rfl; exact rfl; intro w9 hf9 o9))
  have HFC := hid hf9
  have HC9 := hid (HC8.out.keep (o9.block g5 HC8.out.lt (fun e => HGG.out e.symm)))
  have HM1 := hid (HFB.out.other (HFB.out.buf HX10.out) o9)
  replace HS1 := hid (HS1.out.only o9 HG1.out)
  replace HS2 := hid (HS2.out.only o9 HG2.out)
  clear hf9 o9 HLD1
  go_upto_region 12 with (first
    | ((with_reducible refine wpList_load_at 39 _ rfl ?_ g5 0 ?_ (cC 0 (.slice p1 40 c1)) _ ?_ underCp rfl ?_ ?_); exact rfl; exact rfl; exact HC9.out.whole; exact sizeCp)
    | ((with_reducible refine HFC.out.store (i := 1) ?_ ⟨0, .slice p1 40 c1, F1⟩ ?_ ?_ ?_ rfl rfl _ _ rfl ?_ ?_ ?_); (rw [List.length_set, HLN1.out]; decide); exact HM1.out; exact HF81.out; (show F1.length ≤ 100000; rw [HL1.out]; decide); exact rfl; exact rfl; intro w10 hf10 o10))
  have HFD := hid hf10
  replace HS1 := hid (HS1.out.only o10 HG1.out)
  replace HS2 := hid (HS2.out.only o10 HG2.out)
  clear hf10 o10 HFB HFC HC8 HC9 HM1
  go_upto_region 13 with (first
    | ((with_reducible refine wpList_build_want 39 _ rfl ?_ (cC 12 (.slice none 0 0)) ?_ ?_); kernel_rfl; exact HB12.out)
    | ((with_reducible refine HFD.out.store (i := 4) ?_ ⟨12, .slice none 0 0, []⟩ ?_ ?_ ?_ rfl rfl _ _ rfl ?_ ?_ ?_); (rw [List.length_set, List.length_set, HLN1.out]; decide); exact Buf.nil14 _ _; (intro z hz; cases hz); exact Nat.zero_le _; exact rfl; exact rfl; intro w11 hf11 o11))
  have HFE := hid hf11
  replace HS1 := hid (HS1.out.only o11 HG1.out)
  replace HS2 := hid (HS2.out.only o11 HG2.out)
  clear hf11 o11 HFD
  go_upto_region 14 with (first
    | ((with_reducible refine wpList_build_want 39 _ rfl ?_ (cC 6 (.slice none 0 0)) ?_ ?_); kernel_rfl; exact HB6.out)
    | ((with_reducible refine HFE.out.store (i := 5) ?_ ⟨6, .slice none 0 0, []⟩ ?_ ?_ ?_ rfl rfl _ _ rfl ?_ ?_ ?_); (rw [List.length_set, List.length_set, List.length_set, HLN1.out]; decide); exact Buf.nil14 _ _; (intro z hz; cases hz); exact Nat.zero_le _; exact rfl; exact rfl; intro w12 hf12 o12))
  obtain ⟨L4, hL4⟩ : ∃ L4, ((((L1.set 0 ⟨0, .slice p0 40 c0, F0⟩).set 1 ⟨0, .slice p1 40 c1, F1⟩).set 4 ⟨12, .slice none 0 0, []⟩).set 5 ⟨6, .slice none 0 0, []⟩) = L4 := ⟨_, rfl⟩
  rw [hL4] at hf12
  have HFF := hid hf12
  replace HS1 := hid (HS1.out.only o12 HG1.out)
  replace HS2 := hid (HS2.out.only o12 HG2.out)
  have HCE4 : Hid (cps L4 = [kC 0, kC 1, kC 2, kC 3, ⟨12, []⟩, ⟨6, []⟩]) := hid (by
    rw [← hL4, cps_set, cps_set, cps_set, cps_set, HCE0.out, HKC0.out, HKC1.out]; rfl)
  have HX40 : Hid (L4[0]? = some ⟨0, .slice p0 40 c0, F0⟩) := hid (by rw [← hL4, List.getElem?_set_ne (by decide), List.getElem?_set_ne (by decide), List.getElem?_set_ne (by decide), List.getElem?_set_self (by rw [HLN1.out]; decide)])
  clear hL4 hf12 o12 HFE HB6 HB12 HX10 HX11 HLN1 HCE0 HKC0 HKC1
  go_upto_region 15 with (go_at_call 21; refine (HJ.out g c L4 _ HFF.out _ HCE4.out _ k_off).mono ?_; rintro e w13 ⟨gs3, cs3, rfl, hi3, hg3, hb13⟩)
  replace HFF := hid (HFF.out.on hb13)
  replace HS1 := hid (HS1.out.below hb13)
  replace HS2 := hid (HS2.out.below hb13)
  have HS3 := hid hi3
  have cell1 : w13.cell? ⟨g, 1, none⟩ = some (.slice p0 40 c0) := HFF.out.ci.at14 HX40.out 1 _ rfl
  clear hi3 hg3 hb13 HCE4 HJ
  go_upto_region 16 with (go_at_call 24; (with_reducible refine (HCPY.out _ _ p0 c0 (HFF.out.buf HX40.out)).mono ?_); rintro e w14 ⟨pt, ct, rfl, hct, hb8, hw8⟩)
  obtain ⟨gt, hgt0, hgB, cb9, fb9, hset⟩ := hb8.set (i := 3) (by rw [HL0.out]; decide) 3
  subst hgt0
  rw [HK3.out] at cb9
  replace cb9 : w14.cell? ⟨gt, 3, none⟩ = some (.int .u8 2) := cb9
  have hct3 : (3 : Int) < (ct : Int) := by omega
  obtain ⟨w15, hw15⟩ : ∃ W, w14.setCell ⟨gt, 3, none⟩ (.int .u8 3) = W := ⟨_, rfl⟩
  have HST : Hid (Buf w13.heap.size w15 (.slice (some ⟨gt, 0, none⟩) 40 ct) (F0.set 3 3)) := hid (by rw [← hw15]; exact hset)
  have hbb : Below w13.heap.size w13 w15 := by rw [← hw15]; exact below_tr hw8 ((Only.set (S := fun b => b = gt) _ ⟨gt, 3, none⟩ _ rfl).below hw8.size (fun b e => by have e9 : b = gt := e; omega))
  replace HFF := hid (HFF.out.on hbb)
  replace HS1 := hid (HS1.out.below hbb)
  replace HS2 := hid (HS2.out.below hbb)
  replace HS3 := hid (HS3.out.below hbb)
  clear hb8 hw8 hset hbb cell1 HCPY hgB hct
  go_upto_region 17 with fail
  try rw [hw15]
  clear cb9 fb9 hw15
  go_upto_region 18 with (first
    | (go_at_call 11; refine (HRT.out _ _ _ _ HST.out).mono ?_; rintro e w16 ⟨rfl, hb16⟩; replace HFF := hid (HFF.out.on hb16); replace HS1 := hid (HS1.out.below hb16); replace HS2 := hid (HS2.out.below hb16); replace HS3 := hid (HS3.out.below hb16); clear hb16 HST HRT)
    | ((with_reducible refine wpList_allocF rfl rfl ?_); intro wA gA hzA hbA hgA; have HZA := hid hzA; have HBA := hid hbA; have HGA := hid hgA; clear hzA hbA hgA)
    | ((with_reducible refine wpList_storeF rfl rfl _ _ rfl gA ?_ (f := zF) ?_ HZA.out ?_); exact rfl; exact rfl; intro wS hS oS))
  have hbs := below_tr HBA.out (oS.below HBA.out.size (fun i e => by have := HGA.out; omega))
  replace HFF := hid (HFF.out.on hbs)
  replace HS1 := hid (HS1.out.below hbs)
  replace HS2 := hid (HS2.out.below hbs)
  replace HS3 := hid (HS3.out.below hbs)
  have cell2 : wS.cell? ⟨g, 1, none⟩ = some (.slice p0 40 c0) := HFF.out.ci.at14 HX40.out 1 _ rfl
  have hsp := run_head8n p0 40 c0 39 (by omega)
  clear hbs hS oS HZA HBA HGA
  go_upto_region 19 with (first
    | (go_at_call 11; refine (HRH.out _ _ _ _ (HFF.out.buf HX40.out)).mono ?_; rintro e w18 ⟨rfl, hb18⟩; replace HFF := hid (HFF.out.on hb18); replace HS1 := hid (HS1.out.below hb18); replace HS2 := hid (HS2.out.below hb18); replace HS3 := hid (HS3.out.below hb18); clear hb18 cell2)
    | ((with_reducible refine wpList_allocF rfl rfl ?_); intro wB gB hzA hbA hgA; have HZA := hid hzA; have HBA := hid hbA; have HGA := hid hgA; clear hzA hbA hgA)
    | ((with_reducible refine wpList_storeF rfl rfl _ _ rfl gB ?_ (f := zF) ?_ HZA.out ?_); exact rfl; exact rfl; intro wT hS oS))
  have hbs := below_tr HBA.out (oS.below HBA.out.size (fun i e => by have := HGA.out; omega))
  have HBE := hid (below_on HFF.out.be hbs)
  replace HS1 := hid (HS1.out.below hbs)
  replace HS2 := hid (HS2.out.below hbs)
  replace HS3 := hid (HS3.out.below hbs)
  clear hbs hS oS HZA HBA HGA HFF hsp
  go_upto_region 22 with (first
    | (clear TA; go_at_call 19; refine (HA1.out _).mono ?_; rintro e w20 ⟨rfl, hb⟩; replace HBE := hid (below_on HBE.out hb); replace HS1 := hid (HS1.out.below hb); replace HS2 := hid (HS2.out.below hb); replace HS3 := hid (HS3.out.below hb); clear hb)
    | (clear TB; go_at_call 19; refine (HA2.out _).mono ?_; rintro e w21 ⟨rfl, hb⟩; replace HBE := hid (below_on HBE.out hb); replace HS1 := hid (HS1.out.below hb); replace HS2 := hid (HS2.out.below hb); replace HS3 := hid (HS3.out.below hb); clear hb)
    | (go_at_call 19; refine (HA3.out _).mono ?_; rintro e w22 ⟨rfl, hb⟩; replace HBE := hid (below_on HBE.out hb); replace HS1 := hid (HS1.out.below hb); replace HS2 := hid (HS2.out.below hb); replace HS3 := hid (HS3.out.below hb); clear hb))
  clear HA1 HA2 HA3
  have HSI := hid (fun (W : World) (p q : Option Addr) (c d : Nat) (J : List Nat) (h1 : H.IntAt W p 6 (fun i => J.getD i 0)) (h2 : H.IntAt W q 6 (fun i => J.getD i 0)) => H.sameInts_true p q 6 c d (fun i => J.getD i 0) W (by decide) h1 h2)
  have TD : Hid True := hid trivial
  go_wp2_with (first
    | (clear TC; go_at_call 23; refine (HSI.out _ _ _ _ _ [2, 2, 2, 2, 2, 2] (HS1.out.below (below_al _ _)).int (H.ints_new _ _ _ _ [2, 2, 2, 2, 2, 2] rfl)).mono ?_; rintro e w30 ⟨rfl, q, hq⟩; have hbq : Below w22.heap.size w22 w30 := (by rw [hq]; exact below_on (below_al _ _) (below_drewN _ _)); replace HS2 := hid (HS2.out.below hbq); replace HS3 := hid (HS3.out.below hbq); replace HBE := hid (below_on HBE.out hbq); clear hq hbq)
    | (clear TD; go_at_call 23; refine (HSI.out _ _ _ _ _ [3, 3, 2, 2, 2, 2] (HS2.out.below (below_al _ _)).int (H.ints_new _ _ _ _ [3, 3, 2, 2, 2, 2] rfl)).mono ?_; rintro e w31 ⟨rfl, q, hq⟩; have hbq : Below w30.heap.size w30 w31 := (by rw [hq]; exact below_on (below_al _ _) (below_drewN _ _)); replace HS3 := hid (HS3.out.below hbq); replace HBE := hid (below_on HBE.out hbq); clear hq hbq)
    | (go_at_call 23; refine (HSI.out _ _ _ _ _ [2, 2, 2, 2, 4, 1] (HS3.out.below (below_al _ _)).int (H.ints_new _ _ _ _ [2, 2, 2, 2, 4, 1] rfl)).mono ?_; rintro e w32 ⟨rfl, q, hq⟩; have hbq : Below w31.heap.size w31 w32 := (by rw [hq]; exact below_on (below_al _ _) (below_drewN _ _)); replace HBE := hid (below_on HBE.out hbq); clear hq hbq)
    | (go_at_call 18; refine (HAW.out _).mono ?_; rintro e w33 ⟨rfl, hb⟩; replace HBE := hid (below_on HBE.out hb); clear hb))
  go_ret
  exact ⟨rfl, HBE.out⟩
end Go.Proofs.Ytfniojnklhjgbaa
