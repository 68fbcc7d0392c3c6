/- Texts laid into one: the remark ahead of each part says what is proved there. -/
import Derived.Test.YtfniojnklhjgbaaPaa
import Derived.Test.YtfniojnklhjgbaaPab
import Derived.Test.YtfniojnklhjgbaaPac
import Derived.Test.YtfniojnklhjgbaaPad
import Derived.Test.YtfniojnklhjgbaaPae
import Derived.Test.YtfniojnklhjgbaaPaf
import Derived.Test.YtfniojnklhjgbaaPag
import Derived.Test.YtfniojnklhjgbaaPah
import Derived.Test.YtfniojnklhjgbaaPai
import Derived.Test.YtfniojnklhjgbaaPaj
import Derived.Test.YtfniojnklhjgbaaPak
import Derived.Test.YtfniojnklhjgbaaPal
import Derived.Test.YtfniojnklhjgbaaPam
import Derived.Test.YtfniojnklhjgbaaPan
import Derived.Test.YtfniojnklhjgbaaPao
import Derived.Test.YtfniojnklhjgbaaPap
import Derived.Test.YtfniojnklhjgbaaPaq
import Derived.Test.YtfniojnklhjgbaaPar
import Derived.Deep.Cut
import Derived.Deep.MidRow
/- Contracts of what writes numbers and texts: clipped, fresh, appendNumber, appendText, Uint, Text of package record. -/
namespace Go.Proofs.Ytfniojnklhjgbaa
open Go Go.RowKit

def BufS (B : Nat) (w : World) (L : List Nat) (e : Ending) (w' : World) : Prop := ∃ v', e = .returned v' ∧ Buf B w' v' L ∧ Below B w w'
end Go.Proofs.Ytfniojnklhjgbaa

/- Contracts of the document's ReadText; of SameBytes and CopyBytes of the statements' kit. -/
namespace Go.Proofs.Ytfniojnklhjgbaa
open Go Go.RowKit

theorem Buf.made0 (w : World) (B : Nat) (hB : B ≤ w.heap.size) : Buf B (w.alloc (.cells #[] 5)) (.slice (some ⟨w.heap.size, 0, none⟩) 0 0) [] := World.ownsRow_made w #[] 0 hB (by unfold maxLen; omega) (by simp)
theorem copyB_any {w : World} {v : Value} {x : List Nat} (hv : SL w v x) (hn : x.length ≤ 1000000) (hnil : ∀ n c, v = .slice none n c → c = 0) : Calls Try.prog 24 #[v] w (BufS w.heap.size w x) := by
  obtain ⟨p, c, rfl, hp, _⟩ := hv
  obtain ⟨v', w', hr, hb, hg⟩ := (Buf.made0 w w.heap.size (Nat.le_refl _)).app p c x (hp.below (below_al _ _)) (fun e => by subst e; exact hnil _ _ rfl) (by simp; omega) (by rw [size_al]; omega)
  have HRUN := hid hr
  clear hr
  go_enter Try.func24, Try.ntmps24
  go_wp2_with (at_builtin; refine wpList_append_run _ _ 24 24 rfl rfl _ _ _ rfl rfl HRUN.out ?_)
  go_ret
  exact ⟨v', rfl, by simpa using hb, below_grown (below_al _ _) hg (Nat.le_refl _) (fun b hb => by cases hb; exact Nat.le_refl _)⟩

end Go.Proofs.Ytfniojnklhjgbaa

/- Copies (what drives answer) and lists of them in memory; bools in memory. -/
namespace Go.Proofs.Ytfniojnklhjgbaa
open Go Go.RowKit

def cps (l : List Cv) : List Cp := l.map Cv.cp
theorem cps_len (l : List Cv) : (cps l).length = l.length := by simp [cps]
theorem cps_get (l : List Cv) (i : Nat) : (cps l)[i]? = l[i]?.map Cv.cp := by simp [cps]
end Go.Proofs.Ytfniojnklhjgbaa

/- Formats: the mathematics: which may be, their bytes, which format any bytes are, all formats of k, m and so many sets, how each copy is judged. -/
namespace Go.Proofs.Ytfniojnklhjgbaa
open Go Go.RowKit

instance : Inhabited FmV := ⟨⟨0, 0, 0, 0, 0⟩⟩
/-- A turned byte: read only if the digest is that of what stands ahead. -/
theorem rd_sealed {L : List Nat} (h : rdFe L = 0) : L.length = 40 ∧ dig (L.take 8) = L.drop 8 := by
  unfold rdFe at h
  split at h
  · cases h
  · split at h
    · cases h
    · rename_i h1 h2
      exact ⟨Classical.not_not.1 fun e => h1 (.inl e), Classical.not_not.1 h2⟩
theorem alG_ok {k m s : Int} (h : okAl k m s = true) {i : Nat} (hi : i < alN k m s) : okFm (alG k m s i) = true := by
  have h0 := okFm_of (f := ⟨k, m, s, 0, 0⟩) h
  simp only at h0
  have hn : 0 < (k + m).toNat := by omega
  have h1 : i % (k + m).toNat < (k + m).toNat := Nat.mod_lt _ hn
  have h2 : i / (k + m).toNat < s.toNat := by
    unfold alN at hi
    exact Nat.div_lt_of_lt_mul hi
  show okFm ⟨k, m, s, ((i / (k + m).toNat : Nat) : Int), ((i % (k + m).toNat : Nat) : Int)⟩ = true
  generalize i / (k + m).toNat = q at *
  generalize i % (k + m).toNat = r at *
  unfold okFm
  simp only [decide_eq_true_eq]
  omega
theorem alG_inj {k m s : Int} {i j : Nat} (e : alG k m s i = alG k m s j) : i = j := by
  unfold alG at e
  simp only [FmV.mk.injEq, true_and] at e
  obtain ⟨h1, h2⟩ := e
  have h1' : i / (k + m).toNat = j / (k + m).toNat := by omega
  have h2' : i % (k + m).toNat = j % (k + m).toNat := by omega
  rw [← Nat.div_add_mod i (k + m).toNat, ← Nat.div_add_mod j (k + m).toNat, h1', h2']
end Go.Proofs.Ytfniojnklhjgbaa

/- The document's data: what is read, step by step; bytes beside a record's block. -/
namespace Go.Proofs.Ytfniojnklhjgbaa
open Go Go.RowKit

section
variable {po : Option Addr} {w w' : World} {v : Value} {d : List Nat} (h : SLn po w v d) (hl : d.length ≤ 100000) (h8 : ∀ x ∈ d, x < 256)
include h
include hl h8
end
section


end
/-- The cells of a row of ints. -/
theorem IBuf.open_ {B : Nat} {w : World} {v : Value} {xs : List Nat} (h : IBuf B w v xs) (hne : xs ≠ []) : ∃ gi c, v = .slice (some ⟨gi, 0, none⟩) xs.length c ∧ xs.length ≤ c ∧ B ≤ gi ∧ gi < w.heap.size ∧ ∀ i, i < xs.length → w.cell? ⟨gi, i, none⟩ = some (i64 ((xs.getD i 0 : Nat) : Int)) := by
  rcases h.2 with ⟨_, h0⟩ | ⟨g, cap, cur, rfl, hB, hg, h1, _, h3, h4⟩
  · exact absurd (List.eq_nil_of_length_eq_zero h0) hne
  · have hc : CAt w g cur 3 := hg
    refine ⟨g, cap, rfl, h1, hB, hc.lt, fun i hi => ?_⟩
    have := congrArg (fun l => l[i]?) h4
    simp [hi] at this
    rw [hc.cell, this]
    simp [List.getD, hi]
end Go.Proofs.Ytfniojnklhjgbaa

/- Pick; sealed; the bytes of a journal. -/
namespace Go.Proofs.Ytfniojnklhjgbaa
open Go Go.RowKit

def pkN (x : Int) (n : Nat) : Nat := if x.tmod n < 0 then (x.tmod n + n).toNat else (x.tmod n).toNat
theorem tmod_lo (x : Int) (n : Nat) (h : 1 ≤ n) : -(n : Int) < x.tmod n := by
  have := Int.tmod_lt_of_pos (-x) (b := (n : Int)) (by omega)
  rw [Int.neg_tmod] at this; omega
theorem pkN_lt (x : Int) (n : Nat) (h : 1 ≤ n) : pkN x n < n := by
  have b1 := Int.tmod_lt_of_pos x (b := (n : Int)) (by omega)
  have b2 := tmod_lo x n h
  unfold pkN; split <;> omega
theorem pick_any (x : Int) (n : Nat) (w : World) (h1 : 1 ≤ n) (hn : n ≤ 1000000) :
    Calls Try.prog 25 #[.int .i64 x, .int .i64 (n : Int)] w fun e w' => e = .returned (.int .i64 (pkN x n : Int)) ∧ w' = w := by
  have b1 := Int.tmod_lt_of_pos x (b := (n : Int)) (by omega)
  have b2 := tmod_lo x n h1
  have hn1 : ¬ (n : Int) < 1 := by omega
  have hn0 : ¬ (n : Int) = 0 := by omega
  by_cases hneg : x.tmod n < 0
  · have e : ((pkN x n : Nat) : Int) = x.tmod n + n := by unfold pkN; rw [if_pos hneg]; omega
    have HE := hid e
    clear e
    go_enter Try.func25, Try.ntmps25
    go_wp2
    go_ret
    exact ⟨by rw [HE.out]; rfl, rfl⟩
  · have e : ((pkN x n : Nat) : Int) = x.tmod n := by unfold pkN; rw [if_neg hneg]; omega
    have HE := hid e
    clear e
    go_enter Try.func25, Try.ntmps25
    go_wp2
    go_ret
    exact ⟨by rw [HE.out]; rfl, rfl⟩
end Go.Proofs.Ytfniojnklhjgbaa

/- The chapter's examples: mathematics; of; lists of three copies; awake. -/
namespace Go.Proofs.Ytfniojnklhjgbaa
open Go Go.RowKit

theorem Try.infoCp : (Try.prog.info? 39).map (fun i => (i.zero, i.size, i.bytes)) = some (some (.agg (cC 0 (.slice none 0 0))), 2, 32) := by kernel_rfl
theorem Buf.cv {B : Nat} {w : World} {p : Option Addr} {n c : Nat} {L : List Nat} (h : Buf B w (.slice p n c) L) (hn : n = L.length) (h1 : L.length ≤ 100000) (h8 : ∀ z ∈ L, z < 256) (e : Int) : CvOk w ⟨e, .slice p n c, L⟩ := by
  subst hn
  refine ⟨⟨p, c, rfl, h.bl, h.cap.2, fun e => ?_⟩, h1, h8⟩
  subst e
  rcases h.2 with ⟨e2, _⟩ | ⟨g, cap, cur, e2, _⟩
  · simp at e2; exact e2.2
  · simp at e2
end Go.Proofs.Ytfniojnklhjgbaa

/- copies: copies in memory of their own. -/
namespace Go.Proofs.Ytfniojnklhjgbaa
open Go Go.RowKit

theorem crow_len (L : List Cv) : ∀ r ∈ L.map Cv.row, r.length = 2 := fun r hr => by obtain ⟨x, _, rfl⟩ := List.mem_map.1 hr; rfl
theorem own_blk9 {B e sz n : Nat} {w : World} {v : Value} {xs : List Value} (h : w.ownsRow B e sz v n xs) {b : Nat} (hb : v.ownBlock = some b) : ∃ cur, CAt w b cur e := by
  rcases h.2 with ⟨e2, _⟩ | ⟨g', cap, cur, e2, _, hg', _⟩
  · rw [e2] at hb; cases hb
  · rw [e2] at hb
    cases hb
    exact ⟨cur, hg'⟩
theorem CI.cl {B : Nat} {w : World} {v : Value} {L : List Cv} (h : CI B w v L) (hn : L.length ≤ 1000) : CL w v L := by
  obtain ⟨po, c, e, h1, h2⟩ := h.buf.form
  rw [List.length_map] at e h1
  refine ⟨po, c, e, h1, hn, h2, ?_, fun x hx => ?_⟩
  · by_cases h0 : 0 < L.length
    · obtain ⟨g, c2, e2, _, _, _, h3⟩ := h.buf.cells (crow_len L) (by rw [List.length_map]; exact h0)
      rw [List.length_map] at e2
      rw [e] at e2
      cases e2
      refine Or.inr ⟨g, 0, rfl, fun i x hx => ?_⟩
      have h4 := h3 i x.row (by rw [List.getElem?_map, hx]; rfl)
      exact ⟨by have := h4 0 (i64 x.err) rfl; simpa using this, h4 1 x.v rfl⟩
    · exact Or.inl (List.eq_nil_of_length_eq_zero (by omega))
  · obtain ⟨h3, h4, h5⟩ := h.each x hx
    obtain ⟨p, c3, e3⟩ := h3.form
    have h6 := h3
    rw [e3] at h6
    have := h6.cv rfl h5 h4 x.err
    rw [← e3] at this
    exact this
theorem exec_bsC {a : Act} {o : Oper} {x : Operand} {e : Int} {v : Value} {W : World} (ho : o.op = .buildSlice 37 1 #[(0, x)]) (hx : a.eval x = .agg (cC e v)) : (execOp a.eval o).run Try.prog W = .ok (.value (.slice (some ⟨W.heap.size, 0, none⟩) 1 1)) (W.alloc (.cells (cC e v) 39)) := by
  have h := run_buildX (T := 37) Try.underlying37 Try.infoCp (by decide) (by decide) W (cC e v) rfl
  unfold execOp
  simp only [ho, List.map_toArray, List.map_cons, List.map_nil, hx, Sem.run_bind, h, Result.andThen_ok, Sem.run_pure]
end Go.Proofs.Ytfniojnklhjgbaa

/- Contracts of of and all of the statements on shard: the record of bytes; files as drives answer them, in new memory; what was there is as it was. -/
namespace Go.Proofs.Ytfniojnklhjgbaa
open Go Go.RowKit

theorem infoCp11 : (Try.prog.info? 39).map (fun i => (i.zero, i.size, i.bytes)) = some (some (.agg #[.int .i64 0, .slice none 0 0]), 2, 32) := by kernel_rfl
end Go.Proofs.Ytfniojnklhjgbaa

/- copies of the statements on shard: copies in memory of their own (as stage 9's). -/
namespace Go.Proofs.Ytfniojnklhjgbaa
open Go Go.RowKit

theorem own_otherO11 {BA e1 z1 n1 BB e2 z2 n2 : Nat} {w w' : World} {u v : Value} {xs ys : List Value} (h1 : w.ownsRow BA e1 z1 u n1 xs) (h2 : w.ownsRow BB e2 z2 v n2 ys) (ht : e1 ≠ e2) (hO : Only (fun b => v.ownBlock = some b) w w') : w'.ownsRow BA e1 z1 u n1 xs :=
  ownsRow_keep h1 fun b hb => hO.block b (own_ge h1 b hb).2 (fun k => by
    obtain ⟨c1, k1⟩ := own_blk9 h1 hb
    obtain ⟨c2, k2⟩ := own_blk9 h2 k
    exact k1.apart k2 ht rfl)
theorem CI.push11 {B : Nat} {w : World} {v : Value} {L : List Cv} (h : CI B w v L) (x : Cv) (hx : Buf B w x.v x.bs) (h8 : ∀ z ∈ x.bs, z < 256) (hs : x.bs.length ≤ 100000) (hn : L.length ≤ 1000) (hB : B ≤ w.heap.size) (ty : TypeId) :
    ∃ v' w', (Builtin.append_ #[37, 37] ty #[v, .slice (some ⟨w.heap.size, 0, none⟩) 1 1]).run Try.prog (w.alloc (.cells (cC x.err x.v) 39)) = .ok v' w' ∧ CI B w' v' (L ++ [x]) ∧ Below B w w' := by
  have hal := below_al w (.cells (cC x.err x.v) 39)
  have hc : CAt (w.alloc (.cells (cC x.err x.v) 39)) w.heap.size (cC x.err x.v) 39 := CAt.made w _ _
  have h1 := h.on hal
  have hB1 : B ≤ (w.alloc (.cells (cC x.err x.v) 39)).heap.size := by rw [size_al]; omega
  obtain ⟨px, cx, hxf⟩ := hx.form
  obtain ⟨v', w', hr, h2, h3, _⟩ := h1.buf.app (ty := ty) (T := 37) Try.underlying37 infoCp11 rfl (by decide) w.heap.size 0 1 [x.row] (fun r hr => by rcases List.mem_singleton.1 hr with rfl; rfl) (fun r hr => by
    rcases List.mem_singleton.1 hr with rfl
    intro u hu
    simp only [Cv.row, List.mem_cons, List.not_mem_nil, or_false] at hu
    rcases hu with rfl | rfl
    · rfl
    · rw [hxf]; rfl) (fun i r hr j u hu => by
    rcases i with _ | i
    · simp at hr
      subst hr
      rw [Nat.zero_mul, Nat.zero_add, hc.cell]
      simpa [cC, Cv.row] using hu
    · simp at hr) (by rw [List.length_map]; simp; omega) (by decide) hB1
  have hO : Only (fun b => v.ownBlock = some b) (w.alloc (.cells (cC x.err x.v) 39)) w' := Only.of_grown h3 fun b e _ => e
  refine ⟨v', w', hr, ⟨by rw [List.map_append]; exact h2, fun y hy => ?_⟩, below_tr (below_less hal hB) (XB.mono hB1 h3 h1.buf)⟩
  rcases List.mem_append.1 hy with hy | hy
  · exact ⟨own_otherO11 (h1.each y hy).1 h1.buf (by decide) hO, (h1.each y hy).2⟩
  · rcases List.mem_singleton.1 hy with rfl
    exact ⟨own_otherO11 (hx.below hal) h1.buf (by decide) hO, h8, hs⟩

end Go.Proofs.Ytfniojnklhjgbaa

/- copies of the statements; a row of copies one of whose places is written; how turned bytes are judged. -/
namespace Go.Proofs.Ytfniojnklhjgbaa
open Go Go.RowKit

theorem CI.at14 {B : Nat} {w : World} {g n c : Nat} {L : List Cv} (h : CI B w (.slice (some ⟨g, 0, none⟩) n c) L) {i : Nat} {x : Cv} (hx : L[i]? = some x) : ∀ j u, (cC x.err x.v)[j]? = some u → w.cell? ⟨g, i * 2 + j, none⟩ = some u := fun j u hu => by
  have hi := (List.getElem?_eq_some_iff.1 hx).1
  obtain ⟨g2, c2, e2, _, _, _, h3⟩ := h.buf.cells (crow_len L) (by rw [List.length_map]; omega)
  cases e2
  have hk : x.row[j]? = some u := by
    match j, hu with
    | 0, hu => exact hu
    | 1, hu => exact hu
    | j + 2, hu => simp [cC] at hu
  have := h3 i x.row (by rw [List.getElem?_map, hx]; rfl) j u hk
  rwa [Nat.zero_add] at this
theorem CI.base14 {B C : Nat} {w : World} {v : Value} {L : List Cv} (h : CI B w v L) (hC : C ≤ B) : CI C w v L := ⟨XB.base h.buf hC, fun x hx => ⟨own_base (h.each x hx).1 hC, (h.each x hx).2⟩⟩
theorem CI.len14 {B : Nat} {w : World} {po : Option Addr} {n c : Nat} {L : List Cv} (h : CI B w (.slice po n c) L) : n = L.length ∧ L.length ≤ c := by
  obtain ⟨p, c2, e, h1, _⟩ := h.buf.form
  rw [List.length_map] at e h1
  cases e
  exact ⟨rfl, h1⟩
theorem CI.blk14 {B : Nat} {w : World} {po : Option Addr} {n c : Nat} {L : List Cv} (h : CI B w (.slice po n c) L) (h0 : 0 < L.length) : ∃ g, po = some ⟨g, 0, none⟩ ∧ B ≤ g := by
  obtain ⟨g2, c2, e2, h1, h2, _⟩ := h.buf.cells (crow_len L) (by rw [List.length_map]; omega)
  cases e2
  exact ⟨g2, rfl, (own_ge h.buf g2 rfl).1⟩
theorem own_set14 {w : World} {B e s n g c : Nat} {xs : List Value} (h : w.ownsRow B e s (.slice (some ⟨g, 0, none⟩) n c) n xs) (k : Nat) (x : Value) : (w.setCell ⟨g, k, none⟩ x).ownsRow B e s (.slice (some ⟨g, 0, none⟩) n c) n (xs.set k x) := by
  rcases h with ⟨h1, h2⟩
  refine ⟨by rw [List.length_set]; exact h1, ?_⟩
  rcases h2 with ⟨h2, _⟩ | ⟨g', cap, cur, hv, hB, hb, h3, h4, h5, h6⟩
  · cases h2
  · cases hv
    have hc : CAt w g cur e := hb
    exact Or.inr ⟨g, c, cur.setIfInBounds k x, rfl, hB, hc.set k x, h3, h4, by simpa using h5, by rw [Array.toList_setIfInBounds, List.take_set, h6]⟩
theorem flat_setC : ∀ (L : List Cv) (i : Nat) (x : Cv), i < L.length → (((L.map Cv.row).flatten.set (i * 2) (i64 x.err)).set (i * 2 + 1) x.v) = ((L.set i x).map Cv.row).flatten
  | [], i, _, h => by simp at h
  | y :: r, 0, x, _ => by simp [Cv.row]
  | y :: r, i + 1, x, h => by
    have := flat_setC r i x (by simpa using h)
    have e1 : (i + 1) * 2 = i * 2 + 2 := by omega
    rw [e1]
    show (((i64 y.err :: y.v :: (r.map Cv.row).flatten).set (i * 2 + 2) (i64 x.err)).set (i * 2 + 2 + 1) x.v) = _
    simp [Cv.row] at this ⊢
    exact this
theorem CI.set14 {B : Nat} {w : World} {g n c : Nat} {L : List Cv} (h : CI B w (.slice (some ⟨g, 0, none⟩) n c) L) {i : Nat} (hi : i < L.length) (x : Cv) (hx : Buf B w x.v x.bs) (h8 : ∀ z ∈ x.bs, z < 256) (hs : x.bs.length ≤ 100000) :
    CI B (w.setCells g (i * 2) [i64 x.err, x.v]) (.slice (some ⟨g, 0, none⟩) n c) (L.set i x) ∧ Only (fun b => b = g) w (w.setCells g (i * 2) [i64 x.err, x.v]) := by
  have hn : n = (L.map Cv.row).length := by have := h.len14.1; rw [List.length_map]; exact this
  have hO : Only (fun b => b = g) w (w.setCells g (i * 2) [i64 x.err, x.v]) := (Only.set (S := fun b => b = g) w ⟨g, i * 2, none⟩ (i64 x.err) rfl).trans (Only.set (S := fun b => b = g) _ ⟨g, i * 2 + 1, none⟩ x.v rfl)
  have hO2 : Only (fun b => (Value.slice (some ⟨g, 0, none⟩) n c).ownBlock = some b) w (w.setCells g (i * 2) [i64 x.err, x.v]) := hO.mono fun b e => by subst e; rfl
  refine ⟨⟨?_, fun y hy => ?_⟩, hO⟩
  · have hb := h.buf
    unfold XB at hb ⊢
    rw [List.length_map, List.length_set]
    rw [List.length_map] at hb hn
    subst hn
    have := own_set14 (own_set14 hb (i * 2) (i64 x.err)) (i * 2 + 1) x.v
    rw [flat_setC L i x hi] at this
    exact this
  · rcases List.mem_or_eq_of_mem_set hy with hy | rfl
    · exact ⟨own_otherO11 (h.each y hy).1 h.buf (by decide) hO2, (h.each y hy).2⟩
    · exact ⟨own_otherO11 hx h.buf (by decide) hO2, h8, hs⟩
theorem wpList_storeC {ops : Array Oper} {rest : List Oper} {o : Oper} {a : Act} {w : World} {Q : Exit → Act → World → Prop} {B g n c : Nat} {L : List Cv} (h : CI B w (.slice (some ⟨g, 0, none⟩) n c) L) {i : Nat} (hi : i < L.length) (x : Cv) (hx : Buf B w x.v x.bs) (h8 : ∀ z ∈ x.bs, z < 256) (hs : x.bs.length ≤ 100000)
    (hgd : o.guard = none) (hdst : o.dst = none) (X Y : Operand) (ho : o.op = .store 39 X Y) (hX : a.eval X = .pointer (some ⟨g, i * 2, none⟩)) (hY : a.eval Y = .agg (cC x.err x.v))
    (hk : ∀ w', CI B w' (.slice (some ⟨g, 0, none⟩) n c) (L.set i x) → Only (fun b => b = g) w w' → wpList Try.prog ops Q rest a w') : wpList Try.prog ops Q (o :: rest) a w := by
  obtain ⟨k1, k2⟩ := h.set14 hi x hx h8 hs
  obtain ⟨y, hy⟩ : ∃ y, L[i]? = some y := ⟨_, List.getElem?_eq_getElem hi⟩
  obtain ⟨p, cx, hxf⟩ := hx.form
  refine wpList_store_mid hgd 39 X Y ho g (i * 2) (cC x.err x.v) hX hY (fun j hj => ?_) sizeCp (by rw [hxf]; exact cC_one _ _ _ _) ?_
  · obtain ⟨cur, hcur⟩ := own_blk9 h.buf (b := g) rfl
    refine ⟨?_, hcur.free _⟩
    have hj2 : j < 2 := hj
    match j, hj2 with
    | 0, _ => rw [h.at14 hy 0 _ rfl]; rfl
    | 1, _ => rw [h.at14 hy 1 _ rfl]; rfl
  · have e : a.put o.dst undef = a := by rw [hdst]; rfl
    rw [e]
    exact hk _ k1 k2
theorem wpList_bsC {ops : Array Oper} {rest : List Oper} {o : Oper} {a : Act} {w : World} {Q : Exit → Act → World → Prop} (hgd : o.guard = none) (x : Operand) (ho : o.op = .buildSlice 37 1 #[(0, x)]) {e : Int} {v : Value} (hx : a.eval x = .agg (cC e v))
    (hk : wpList Try.prog ops Q rest (a.put o.dst (.slice (some ⟨w.heap.size, 0, none⟩) 1 1)) (w.alloc (.cells (cC e v) 39))) : wpList Try.prog ops Q (o :: rest) a w := by
  refine wpList_plain hgd fun K hK => ?_
  unfold Oper.wp
  rw [exec_bsC ho hx]
  exact hK _ _ hk
theorem builtC14 (v : Value) (po : Option Addr) (n c : Nat) (hv : v = .slice po n c) : Try.prog.built 39 [(1, v)] = some (cC 0 v) := by subst hv; kernel_rfl
theorem builtC15 (e : Int) : Try.prog.built 39 [(0, .int .i64 e)] = some (cC e (.slice none 0 0)) := by kernel_rfl
/-- The copies of the formats, as they were written. -/
def cpF (k m s : Int) (n : Nat) : List Cp := (List.range n).map fun i => ⟨0, fmB (alG k m s i)⟩
theorem cpF_len (k m s : Int) (n : Nat) : (cpF k m s n).length = n := by simp [cpF]
theorem cpF_step (k m s : Int) (n : Nat) : cpF k m s (n + 1) = cpF k m s n ++ [⟨0, fmB (alG k m s n)⟩] := by unfold cpF; rw [List.range_succ, List.map_append]; rfl
theorem cpF_at (k m s : Int) {n i : Nat} (hi : i < n) : (cpF k m s n)[i]? = some ⟨0, fmB (alG k m s i)⟩ := by unfold cpF; simp [hi]
/-- What copies answers. -/
def CpA (w : World) (k m s : Int) (e : Ending) (w' : World) : Prop :=
  (okAl k m s = true ∧ ∃ po c L, e = .returned (.tuple #[.slice po (alN k m s) c, .bool true]) ∧ CI w.heap.size w' (.slice po (alN k m s) c) L ∧ cps L = cpF k m s (alN k m s) ∧ Below w.heap.size w w') ∨
  (okAl k m s = false ∧ e = .returned (.tuple #[.slice none 0 0, .bool false]) ∧ Below w.heap.size w w')
set_option linter.unusedVariables false in
set_option maxRecDepth 100000 in
set_option maxHeartbeats 8000000 in
theorem copies14_any (hF : FmC) (k m s : Int) (w : World) (hk : inI k) (hm : inI m) (hs : inI s) : Calls Try.prog 27 #[.int .i64 k, .int .i64 m, .int .i64 s] w (CpA w k m s) := by
  have HAL := hid (hF.all k m s w hk hm hs)
  cases hok : okAl k m s with
  | false =>
    have HE : Hid (∀ W, Below w.heap.size w W → CpA w k m s (.returned (.tuple #[.slice none 0 0, .bool false])) W) := hid (fun W hb => .inr ⟨hok, rfl, hb⟩)
    have HA : Hid (Calls Try.prog 19 #[.int .i64 k, .int .i64 m, .int .i64 s] w fun e w' => e = .returned (.tuple #[.slice none 0 0, .int .i64 2]) ∧ Below w.heap.size w w') := hid (HAL.out.mono fun e w' h => by
      rcases h with ⟨h, _⟩ | ⟨_, h⟩
      · rw [hok] at h; cases h
      · exact h)
    generalize CpA w k m s = PP at *
    clear HAL hok hF hk hm hs
    go_enter Try.func27, Try.ntmps27
    go_wp2_with (go_at_call 19; refine HA.out.mono ?_; rintro e w2 ⟨rfl, hb2⟩; have HB := hid hb2; clear hb2)
    exact HE.out _ HB.out
  | true =>
    obtain ⟨N, hN⟩ : ∃ N, alN k m s = N := ⟨_, rfl⟩
    have hN64 : N ≤ 64 := by rw [← hN]; exact (alN_le hok).2
    have HE : Hid (∀ po c L W, CI w.heap.size W (.slice po N c) L → cps L = cpF k m s N → Below w.heap.size w W → CpA w k m s (.returned (.tuple #[.slice po N c, .bool true])) W) := hid (fun po c L W h1 h2 hb => .inl ⟨hok, po, c, L, by rw [hN], by rw [hN]; exact h1, by rw [hN]; exact h2, hb⟩)
    have HA : Hid (Calls Try.prog 19 #[.int .i64 k, .int .i64 m, .int .i64 s] w fun e w' => ∃ ga ca, e = .returned (.tuple #[.slice (some ⟨ga, 0, none⟩) N ca, .int .i64 0]) ∧ N ≤ ca ∧ FmL w.heap.size w' (.slice (some ⟨ga, 0, none⟩) N ca) (alL k m s) ∧ Below w.heap.size w w') := hid (HAL.out.mono fun e w' h => by
      rcases h with ⟨_, pa, ca, h1, h2, h3⟩ | ⟨h, _⟩
      · rw [hN] at h1 h2
        obtain ⟨ga, cb, e2, _⟩ := h2.at (i := 0) (by rw [alL_len]; have := (alN_le hok).1; omega)
        rw [alL_len, hN] at e2
        obtain ⟨_, _, e3, hcc, _⟩ := h2.form
        rw [alL_len, hN] at e3 hcc
        cases e2; cases e3
        exact ⟨ga, ca, h1, hcc, h2, h3⟩
      · rw [hok] at h; cases h)
    have HAT : Hid (∀ i, i < N → ∀ W ga ca, FmL w.heap.size W (.slice (some ⟨ga, 0, none⟩) N ca) (alL k m s) → (Instr.loadAt 23 (.pointer (some ⟨ga, i * 5, none⟩))).run Try.prog W = .ok (.agg (alG k m s i).cs) W) := hid (fun i hi W ga ca h => by
      obtain ⟨g, c, e, hc⟩ := h.at (i := i) (by rw [alL_len]; omega)
      rw [alL_len, hN] at e
      cases e
      rw [alL_at (by omega)] at hc
      exact load_atF hc)
    have HBY : Hid (∀ i, i < N → ∀ W, Calls Try.prog 10 #[.agg (alG k m s i).cs] W fun e w' => ∃ po c, e = .returned (.tuple #[.slice po 40 c, .int .i64 0]) ∧ Buf W.heap.size w' (.slice po 40 c) (fmB (alG k m s i)) ∧ Below W.heap.size W w') := hid (fun i hi W => (hF.bytes _ W (okFm.wf (alG_ok hok (by omega)))).mono fun e w' h => by
      rcases h with ⟨_, po, c, h1, h2, _, h3⟩ | ⟨h, _⟩
      · exact ⟨po, c, h1, h2, h3⟩
      · rw [alG_ok hok (by omega)] at h; cases h)
    have HB8 : Hid (∀ i, i < N → ∀ z ∈ fmB (alG k m s i), z < 256) := hid (fun i hi => fmB_lt (alG_ok hok (by omega)))
    generalize CpA w k m s = PP at *
    clear HAL hok hF hk hm hs hN
    go_enter Try.func27, Try.ntmps27
    go_wp2_with (go_at_call 19; refine HA.out.mono ?_; rintro e w2 ⟨ga, ca, rfl, hca, hfl, hb2⟩; have HB := hid hb2; have HFL := hid hfl; clear hb2 hfl)
    go_loopg [10, 11] N (fun gg u x wr => ∃ (i : Nat) (L : List Cv), i ≤ N ∧ N - i ≤ gg ∧ x = .int .i64 (i : Int) ∧ Hid (CI w2.heap.size wr u L) ∧ Hid (cps L = cpF k m s i) ∧ Hid (Below w2.heap.size w2 wr))
    case atStart => exact ⟨0, [], by omega, by omega, rfl, hid (CI.nil _ _), hid rfl, hid (Below.refl _ _)⟩
    case round =>
      clear HA
      obtain ⟨i, L, hi, hg, rfl, HI, HCE, HBW⟩ := hrel
      have hLi : L.length = i := by have := congrArg List.length HCE.out; rw [cps_len, cpF_len] at this; exact this
      obtain ⟨pv, cv, hvf, -, -⟩ := HI.out.buf.form
      rw [List.length_map, hLi] at hvf
      subst hvf
      by_cases hlt : i < N
      · have hlt' : (i : Int) < (N : Int) := by omega
        have hic : (i : Int) < (ca : Int) := by omega
        have hi64 : (i : Int) < 64 := by omega
        have HLD : Hid ((Instr.loadAt 23 (.pointer (some ⟨ga, i * 5, none⟩))).run Try.prog wr = .ok (.agg (alG k m s i).cs) wr) := hid (HAT.out i hlt wr ga ca (HFL.out.below HBW.out))
        have HBI := hid (HBY.out i hlt wr)
        have HB8I := hid (HB8.out i hlt)
        have HST := hid (cpF_step k m s i)
        have HWS : Hid (w2.heap.size ≤ wr.heap.size) := hid HBW.out.size
        clear HE HAT HBY HB8
        generalize alG k m s i = f at *
        go_wp2_with (first
          | ((with_reducible refine wpList_loadW 23 _ rfl ?_ (.pointer (some ⟨ga, i * 5, none⟩)) (.agg f.cs) ?_ HLD.out ?_); kernel_rfl; exact rfl)
          | (go_at_call 10; refine HBI.out.mono ?_; rintro e w3 ⟨pb, cb, rfl, hbf, hb3⟩; obtain ⟨v', w6, hrun, hci, hbw⟩ := (HI.out.on hb3).push11 ⟨0, .slice pb 40 cb, fmB f⟩ (own_base hbf HWS.out) HB8I.out (by show (fmB f).length ≤ 100000; rw [fmB_len]; decide) (by rw [hLi]; omega) (Nat.le_trans HWS.out hb3.size) 37; have HRUN := hid hrun; have HCI := hid hci; have HBX := hid (below_tr (below_on HBW.out hb3) hbw); have HBT := hid (builtC14 _ pb 40 cb rfl); clear hrun hci hbw hbf hb3)
          | ((with_reducible refine wpList_build_want 39 _ rfl ?_ (cC 0 (.slice pb 40 cb)) ?_ ?_); kernel_rfl; exact HBT.out)
          | ((with_reducible refine wpList_bsC rfl _ rfl (e := 0) (v := .slice pb 40 cb) ?_ ?_); exact rfl)
          | (at_builtin; refine wpList_append_run _ _ 37 37 rfl rfl _ _ _ rfl rfl HRUN.out ?_))

        go_roundg (N - (i + 1))
        case measure => omega
        case rel => exact ⟨i + 1, _, by omega, Nat.le_refl _, by go_num, HCI, hid (by rw [HST.out, ← HCE.out]; simp [cps, Cv.cp]), HBX⟩
      · have hlt' : ¬ (i : Int) < (N : Int) := by omega
        have e : i = N := by omega
        subst e
        have HP := hid (HE.out _ _ _ _ (HI.out.base14 HB.out.size) HCE.out (below_on HB.out HBW.out))
        clear HE HI HCE
        go_wp2
        exact HP.out
end Go.Proofs.Ytfniojnklhjgbaa

/- FormatPlaces: the mathematics, and what is asked of the calls. (Written by tools/gen_Gn15.py.) -/
namespace Go.Proofs.Ytfniojnklhjgbaa
open Go Go.RowKit

def wnt (p1 p2 p3 p4 p5 : Bool) : Nat := if p5 then 4 else if p4 then 1 else if p1 && (p2 || p3) then 3 else 2
def dfC : Cv := ⟨0, .slice none 0 0, []⟩
theorem neI14 (a b : Nat) : ((a : Int) != (b : Int)) = !decide (a = b) := by
  by_cases h : a = b
  · subst h; simp
  · rw [decide_eq_false h, Bool.not_false, bne_iff_ne]; omega
theorem eqI14 (a b : Nat) : ((a : Int) == (b : Int)) = decide (a = b) := by
  by_cases h : a = b
  · subst h; simp
  · rw [decide_eq_false h, beq_eq_false_iff_ne]; omega
theorem jdg_w {x : Cv} {f g : FmV} (h : x.err = 0) (hb : x.bs = fmB f) (hf : okFm f = true) : jdg x g = if f = g then 2 else 3 := by
  rw [jdg_read h, hb]
  unfold rdg
  rw [(rd_fmB hf).1, (rd_fmB hf).2, if_neg (by decide)]
theorem rd_turned {f : FmV} {y : Nat} (hy : y ≠ (fmB f).getD 9 0) : rdFe ((fmB f).set 9 y) ≠ 0 := fun h => by
  obtain ⟨_, h2⟩ := rd_sealed h
  have e1 : ((fmB f).set 9 y).take 8 = fmH f := by
    rw [List.take_set_of_le (by decide)]
    unfold fmB
    rw [List.take_append_of_le_length (by rw [fmH_len]; decide), List.take_of_length_le (by rw [fmH_len]; decide)]
  have h3 := congrArg (fun q => q.getD 1 0) h2
  simp only [e1] at h3
  have e2 : (fmB f).getD 9 0 = (dig (fmH f)).getD 1 0 := by
    unfold fmB
    simp only [List.getD]
    rw [List.getElem?_append_right (by rw [fmH_len]; decide), fmH_len]
  have e3 : (((fmB f).set 9 y).drop 8).getD 1 0 = y := by
    have hl : 9 < (fmB f).length := by rw [fmB_len]; decide
    simp only [List.getD, List.getElem?_drop]
    rw [List.getElem?_set_self hl]
    rfl
  rw [e3] at h3
  exact hy (by rw [e2, h3])
theorem jdg_turned {x : Cv} {f : FmV} (h : x.err = 0) {y : Nat} (hb : x.bs = (fmB f).set 9 y) (hy : y ≠ (fmB f).getD 9 0) (g : FmV) : jdg x g = 1 := by
  rw [jdg_read h, hb]
  unfold rdg
  rw [if_pos (rd_turned hy)]
theorem getD_set14 (L : List Cv) (i j : Nat) (x d : Cv) (hj : j < L.length) : (L.set i x).getD j d = if j = i then x else L.getD j d := by
  simp only [List.getD]
  by_cases h : j = i
  · subst h; rw [if_pos rfl, List.getElem?_set_self hj]; rfl
  · rw [if_neg h, List.getElem?_set_ne (fun e => h e.symm)]
theorem plc_jd {k m s : Int} {N : Nat} (hN : alN k m s = N) (hok : okAl k m s = true) {L : List Cv} (hL : L.length = N) (h0 : cps L = cpF k m s N) {A B G O : Nat} (hA : A < N) (hB : B < N) {xa xb z o : Cv} (ha : L[A]? = some xa) (hb : L[B]? = some xb)
    (hz : ∀ f, jdg z f = 1) (ho : o.err = 12) {i : Nat} (hi : i < N) : jdg (((((L.set A xb).set B xa).set G z).set O o).getD i dfC) (alG k m s i) = wnt (!decide (A = B)) (decide (i = A)) (decide (i = B)) (decide (i = G)) (decide (i = O)) := by
  have hcp : ∀ j x, j < N → L[j]? = some x → x.err = 0 ∧ x.bs = fmB (alG k m s j) := fun j x hj hx => by
    have h1 : (cps L)[j]? = (cpF k m s N)[j]? := by rw [h0]
    rw [cps_get, hx, cpF_at k m s hj] at h1
    simp only [Option.map_some, Option.some.injEq, Cv.cp, Cp.mk.injEq] at h1
    exact h1
  have hj2 : ∀ j x, j < N → L[j]? = some x → jdg x (alG k m s i) = if j = i then 2 else 3 := fun j x hj hx => by
    rw [jdg_w (hcp j x hj hx).1 (hcp j x hj hx).2 (alG_ok hok (by omega))]
    by_cases e : j = i
    · subst e; rw [if_pos rfl, if_pos rfl]
    · rw [if_neg (fun h => e (alG_inj h)), if_neg e]
  rw [getD_set14 _ _ _ _ _ (by simp; omega), getD_set14 _ _ _ _ _ (by simp; omega), getD_set14 _ _ _ _ _ (by simp; omega), getD_set14 _ _ _ _ _ (by omega)]
  unfold wnt
  by_cases h5 : i = O
  · rw [if_pos h5, decide_eq_true h5, if_pos rfl]; exact jdg_off (by rw [ho]; decide) (by rw [ho]; decide)
  · rw [if_neg h5, decide_eq_false h5, if_neg (show ¬ (false = true) by decide)]
    by_cases h4 : i = G
    · rw [if_pos h4, decide_eq_true h4, if_pos rfl]; exact hz _
    · rw [if_neg h4, decide_eq_false h4, if_neg (show ¬ (false = true) by decide)]
      by_cases h3 : i = B
      · rw [if_pos h3, decide_eq_true h3, hj2 A xa hA ha]
        by_cases h1 : A = B
        · rw [if_pos (by omega), decide_eq_true h1]; rfl
        · rw [if_neg (by omega), decide_eq_false h1]; simp
      · rw [if_neg h3, decide_eq_false h3]
        by_cases h2 : i = A
        · rw [if_pos h2, decide_eq_true h2, hj2 B xb hB hb, if_neg (by omega), decide_eq_false (by omega)]; rfl
        · rw [if_neg h2, decide_eq_false h2]
          obtain ⟨x, hx⟩ : ∃ x, L[i]? = some x := ⟨_, List.getElem?_eq_getElem (by omega)⟩
          have : L.getD i dfC = x := by simp [List.getD, hx]
          rw [this, hj2 i x hi hx, if_pos rfl]; simp
/-- All in it was written. -/
def Wr (L : List Cv) (N : Nat) : Prop := L.length = N ∧ ∀ i, i < N → ∃ p c f, okFm f = true ∧ L[i]? = some ⟨0, .slice p 40 c, fmB f⟩
theorem Wr.set {L : List Cv} {N : Nat} (h : Wr L N) (j : Nat) {x : Cv} (hx : ∃ p c f, okFm f = true ∧ x = ⟨0, .slice p 40 c, fmB f⟩) : Wr (L.set j x) N := by
  refine ⟨by rw [List.length_set]; exact h.1, fun i hi => ?_⟩
  by_cases e : i = j
  · subst e
    obtain ⟨p, c, f, h1, rfl⟩ := hx
    exact ⟨p, c, f, h1, List.getElem?_set_self (by rw [h.1]; exact hi)⟩
  · obtain ⟨p, c, f, h1, h2⟩ := h.2 i hi
    exact ⟨p, c, f, h1, by rw [List.getElem?_set_ne (fun k => e k.symm)]; exact h2⟩
theorem CI.wr {B : Nat} {w : World} {v : Value} {L : List Cv} (h : CI B w v L) {k m s : Int} {N : Nat} (hN : alN k m s = N) (hok : okAl k m s = true) (h0 : cps L = cpF k m s N) : Wr L N := by
  have hl : L.length = N := by have := congrArg List.length h0; rw [cps_len, cpF_len] at this; exact this
  refine ⟨hl, fun i hi => ?_⟩
  obtain ⟨x, hx⟩ : ∃ x, L[i]? = some x := ⟨_, List.getElem?_eq_getElem (by omega)⟩
  have h1 : (cps L)[i]? = (cpF k m s N)[i]? := by rw [h0]
  rw [cps_get, hx, cpF_at k m s hi] at h1
  simp only [Option.map_some, Option.some.injEq, Cv.cp, Cp.mk.injEq] at h1
  obtain ⟨e1, e2⟩ := h1
  obtain ⟨p, c, hv⟩ := (h.each x (List.mem_of_getElem? hx)).1.form
  refine ⟨p, c, alG k m s i, alG_ok hok (by omega), ?_⟩
  rw [hx]
  obtain ⟨xe, xv, xb⟩ := x
  simp only at e1 e2 hv
  subst e1
  rw [e2] at hv
  rw [fmB_len] at hv
  rw [hv, e2]
/-- What FormatPlaces carries. -/
structure FP (w : World) (g N c : Nat) (L : List Cv) (W : World) : Prop where
  be : Below w.heap.size w W
  ci : CI w.heap.size W (.slice (some ⟨g, 0, none⟩) N c) L
theorem FP.on {w W W' : World} {g N c : Nat} {L : List Cv} (h : FP w g N c L W) (hb : Below W.heap.size W W') : FP w g N c L W' := ⟨below_on h.be hb, h.ci.on hb⟩
theorem FP.load {w W : World} {g N c : Nat} {L : List Cv} (h : FP w g N c L W) {i : Nat} {x : Cv} (hx : L[i]? = some x) : (Instr.loadAt 39 (.pointer (some ⟨g, i * 2, none⟩))).run Try.prog W = .ok (.agg (cC x.err x.v)) W := load_atC (h.ci.at14 hx)
theorem FP.store {ops : Array Oper} {rest : List Oper} {o : Oper} {a : Act} {w W : World} {Q : Exit → Act → World → Prop} {g N c : Nat} {L : List Cv} (h : FP w g N c L W) {i : Nat} (hi : i < L.length) (x : Cv) (hx : Buf w.heap.size W x.v x.bs) (h8 : ∀ z ∈ x.bs, z < 256) (hs : x.bs.length ≤ 100000)
    (hgd : o.guard = none) (hdst : o.dst = none) (X Y : Operand) (ho : o.op = .store 39 X Y) (hX : a.eval X = .pointer (some ⟨g, i * 2, none⟩)) (hY : a.eval Y = .agg (cC x.err x.v))
    (hk : ∀ w', FP w g N c (L.set i x) w' → Only (fun b => b = g) W w' → wpList Try.prog ops Q rest a w') : wpList Try.prog ops Q (o :: rest) a W := by
  refine wpList_storeC h.ci hi x hx h8 hs hgd hdst X Y ho hX hY fun w' h1 h2 => hk w' ⟨?_, h1⟩ h2
  exact below_tr h.be (h2.below h.be.size (fun b e => by have h9 := (own_ge h.ci.buf g rfl).1; have e9 : b = g := e; omega))
theorem Buf.nil14 (B : Nat) (w : World) : Buf B w (.slice none 0 0) [] := World.ownsRow_nil w B 5 1
/-- Four contracts, as FormatPlaces asks them. -/
theorem copies14_ok (hF : FmC) {k m s : Int} {N : Nat} (hk : inI k) (hm : inI m) (hs : inI s) (hok : okAl k m s = true) (hN : alN k m s = N) (w W : World) (hb : Below w.heap.size w W) : Calls Try.prog 27 #[.int .i64 k, .int .i64 m, .int .i64 s] W fun e w' => ∃ g c L, e = .returned (.tuple #[.slice (some ⟨g, 0, none⟩) N c, .bool true]) ∧ N ≤ c ∧ FP w g N c L w' ∧ g < w'.heap.size ∧ cps L = cpF k m s N ∧ Wr L N := (copies14_any hF k m s W hk hm hs).mono fun e w' h => by
  rcases h with ⟨_, po, c, L, h1, h2, h3, h4⟩ | ⟨h, _⟩
  · rw [hN] at h1 h2 h3
    have hl : L.length = N := by have := congrArg List.length h3; rw [cps_len, cpF_len] at this; exact this
    obtain ⟨g, rfl, hg⟩ := h2.blk14 (by have := (alN_le hok).1; omega)
    exact ⟨g, c, L, h1, by have := h2.len14.2; omega, ⟨below_on hb h4, h2.base14 hb.size⟩, (own_ge h2.buf g rfl).2, h3, h2.wr hN hok h3⟩
  · rw [hok] at h; cases h
theorem judge14_ok (hF : FmC) {k m s : Int} {N : Nat} (hk : inI k) (hm : inI m) (hs : inI s) (hok : okAl k m s = true) (hN : alN k m s = N) {w W : World} {g c : Nat} {L : List Cv} (h : FP w g N c L W) : Calls Try.prog 21 #[.slice (some ⟨g, 0, none⟩) N c, .int .i64 k, .int .i64 m, .int .i64 s] W fun e w' => ∃ gs cs, e = .returned (.tuple #[.slice (some ⟨gs, 0, none⟩) N cs, .int .i64 0]) ∧ N ≤ cs ∧ (∀ i, i < N → ∀ W', Below w'.heap.size w' W' → W'.cell? ⟨gs, i, none⟩ = some (.int .i64 (jdg (L.getD i dfC) (alG k m s i) : Nat))) ∧ Below W.heap.size W w' := by
  have hl : L.length = N := h.ci.len14.1.symm
  have h2 := (alN_le hok)
  have hj : jdE L k m s = 0 := by unfold jdE; rw [if_pos ⟨hok, by omega⟩]
  refine (hF.judge _ L k m s W (h.ci.cl (by omega)) hk hm hs).mono fun e w' hq => ?_
  rcases hq with ⟨_, po, cs, rfl, h3, h4⟩ | ⟨h3, _⟩
  · have hjl : jdL L k m s = jdN L k m s L.length := by unfold jdL jdN; rw [if_pos hj]
    rw [hjl] at h3
    obtain ⟨gs, c2, e2, h5, _, h6, h7⟩ := h3.open_ (fun e => by have := congrArg List.length e; rw [jdN_len, List.length_nil] at this; omega)
    rw [jdN_len] at e2 h5 h7
    cases e2
    rw [hl]
    refine ⟨gs, cs, rfl, by omega, fun i hi W' hW => ?_, h4⟩
    rw [World.cell?_of_block (a := ⟨gs, i, none⟩) (hW.block gs h6), h7 i (by omega)]
    unfold jdN
    simp [List.getD, show i < L.length by omega, i64, dfC]
  · exact absurd hj h3
end Go.Proofs.Ytfniojnklhjgbaa

/- FormatPlaces: no formats, or one that is gone. (Written by tools/gen_Gp15.py.) -/
namespace Go.Proofs.Ytfniojnklhjgbaa
open Go Go.RowKit

set_option linter.unusedVariables false in
set_option maxRecDepth 100000 in
set_option maxHeartbeats 4000000 in
theorem formatPlaces_bad (hF : FmC) (k m s a b gone off : Int) (turn : Bool) (w : World) (hk : inI k) (hm : inI m) (hs : inI s) (hok : okAl k m s = false) : Calls Try.prog 6 #[.int .i64 k, .int .i64 m, .int .i64 s, .int .i64 a, .int .i64 b, .int .i64 gone, .int .i64 off, .bool turn] w fun e w' => e = .returned (.bool true) ∧ Below w.heap.size w w' := by
  have HAW := hid (fun W => awake14_any hF W)
  have HCP : Hid (∀ W, Calls Try.prog 27 #[.int .i64 k, .int .i64 m, .int .i64 s] W fun e w' => e = .returned (.tuple #[.slice none 0 0, .bool false]) ∧ Below W.heap.size W w') := hid (fun W => (copies14_any hF k m s W hk hm hs).mono fun e w' h => by
    rcases h with ⟨h, _⟩ | ⟨_, h⟩
    · rw [hok] at h; cases h
    · exact h)
  clear hF hk hm hs hok
  go_enter Try.func6, Try.ntmps6
  go_wp2_with (first
    | (go_at_call 18; refine (HAW.out _).mono ?_; rintro e w1 ⟨rfl, hb1⟩; have HB := hid hb1; clear hb1)
    | (go_at_call 27; refine (HCP.out _).mono ?_; rintro e w2 ⟨rfl, hb2⟩; replace HB := hid (below_on HB.out hb2); clear hb2))
  go_ret
  exact ⟨rfl, HB.out⟩
set_option linter.unusedVariables false in
set_option maxRecDepth 100000 in
set_option maxHeartbeats 16000000 in
theorem formatPlaces_gone (hF : FmC) (k m s a b gone off : Int) (w : World) (hk : inI k) (hm : inI m) (hs : inI s) (hok : okAl k m s = true) : Calls Try.prog 6 #[.int .i64 k, .int .i64 m, .int .i64 s, .int .i64 a, .int .i64 b, .int .i64 gone, .int .i64 off, .bool false] w fun e w' => e = .returned (.bool true) ∧ Below w.heap.size w w' := by
  obtain ⟨N, hN⟩ : ∃ N, alN k m s = N := ⟨_, rfl⟩
  have hN2 := alN_le hok
  rw [hN] at hN2
  have HAW := hid (fun W => awake14_any hF W)
  have HCP := hid (fun W h => copies14_ok hF hk hm hs hok hN w W h)
  have HJD := hid (fun (g c : Nat) (L : List Cv) (W : World) (h : FP w g N c L W) => judge14_ok hF hk hm hs hok hN h)
  have HJE := hid (fun (A B G O : Nat) (L : List Cv) (xa xb z o : Cv) (hL : L.length = N) (h0 : cps L = cpF k m s N) (hA : A < N) (hB : B < N) (ha : L[A]? = some xa) (hb : L[B]? = some xb) (hz : ∀ f, jdg z f = 1) (ho : o.err = 12) (i : Nat) (hi : i < N) => plc_jd (G := G) (O := O) hN hok hL h0 hA hB ha hb hz ho hi)
  have hpa := pkN_lt a N (by omega)
  have hpb := pkN_lt b N (by omega)
  have hpg := pkN_lt gone N (by omega)
  have hpo := pkN_lt off N (by omega)
  have HPA := hid (fun W => pick_any a N W (by omega) (by omega))
  have HPB := hid (fun W => pick_any b N W (by omega) (by omega))
  have HPG := hid (fun W => pick_any gone N W (by omega) (by omega))
  have HPO := hid (fun W => pick_any off N W (by omega) (by omega))
  generalize pkN a N = A at *
  generalize pkN b N = B at *
  generalize pkN gone N = G at *
  generalize pkN off N = O at *
  have ha' : (A : Int) < (N : Int) := by omega
  have hb' : (B : Int) < (N : Int) := by omega
  have hg' : (G : Int) < (N : Int) := by omega
  have ho' : (O : Int) < (N : Int) := by omega
  have hN64 : (N : Int) ≤ 64 := by omega
  have hN0 : ((N : Int) == 0) = false := beq_eq_false_iff_ne.2 (by omega)
  have hNN : ((N : Int) != (N : Int)) = false := by simp
  have hN00 : ¬ N = 0 := by omega
  have HB0 := hid (Below.refl w.heap.size w)
  have HXO : ∀ x, x < 256 → bits .xor .u8 ((x : Nat) : Int) 1 = ((x ^^^ 1 : Nat) : Int) := fun x hx => u8_xor_nat x 1 hx (by decide)
  have hB6 := builtC15 6
  have hB12 := builtC15 12
  have HB6 := hid hB6
  have HB12 := hid hB12
  have TA : Hid True := hid trivial
  have TB : Hid True := hid trivial
  have TC : Hid True := hid trivial
  have TD : Hid True := hid trivial
  have TE : Hid True := hid trivial
  have TF : Hid True := hid trivial
  have TG : Hid True := hid trivial
  have TH : Hid True := hid trivial
  have TI : Hid True := hid trivial
  have TJ : Hid True := hid trivial
  have HXX := hid HXO
  clear hF hok hN hk hm hs hB6 hB12 HXO
  go_enter Try.func6, Try.ntmps6
  go_wp2_with (first
    | (clear TA; go_at_call 18; refine (HAW.out _).mono ?_; rintro e w1 ⟨rfl, hb1⟩; have HB := hid hb1; clear hb1)
    | (go_at_call 27; refine (HCP.out _ HB.out).mono ?_; rintro e w2 ⟨g, c, L, rfl, hNc, hfp, hgl, hcp, hwr⟩; obtain ⟨pa, ca, fa, hoa, hxa⟩ := hwr.2 A hpa; obtain ⟨pb, cb, fb, hob, hxb⟩ := hwr.2 B hpb; have hac : (A : Int) < (c : Int) := (by omega); have hbc : (B : Int) < (c : Int) := (by omega); have hgc : (G : Int) < (c : Int) := (by omega); have hoc : (O : Int) < (c : Int) := (by omega); have HFP := hid hfp; have HGL := hid hgl; have HCE := hid hcp; have HWR := hid hwr; have HXA := hid hxa; have HXB := hid hxb; have HOA := hid hoa; have HOB := hid hob; have HLDA := hid (HFP.out.load hxa); have hbw := hid hfp.be; clear hfp hgl hcp hwr hxa hxb hoa hob hNc HB HCP)
    | (clear TB; go_at_call 25; refine (HPA.out _).mono ?_; rintro e w3 ⟨rfl, hq⟩; have hq2 := hq.symm; subst hq2)
    | (clear TC; go_at_call 25; refine (HPB.out _).mono ?_; rintro e w3 ⟨rfl, hq⟩; have hq2 := hq.symm; subst hq2)
    | (clear TD; go_at_call 25; refine (HPG.out _).mono ?_; rintro e w3 ⟨rfl, hq⟩; have hq2 := hq.symm; subst hq2)
    | (clear TE; go_at_call 25; refine (HPO.out _).mono ?_; rintro e w3 ⟨rfl, hq⟩; have hq2 := hq.symm; subst hq2)
    | (clear TF; (with_reducible refine wpList_loadW 39 _ rfl ?_ (.pointer (some ⟨g, A * 2, none⟩)) (.agg (cC 0 (.slice pa 40 ca))) ?_ HLDA.out ?_); kernel_rfl; exact rfl)
    | ((with_reducible refine wpList_allocX 39 _ zeroCp rfl rfl ?_); intro w4 g5 hz2 hb2 hg2; have HZ2 := hid hz2; have HB2 := hid hb2; have HG2 := hid hg2; clear hz2 hb2 hg2)
    | (clear TG; (with_reducible refine wpList_storeX 39 2 sizeCp rfl rfl _ _ rfl g5 ?_ (D := cC 0 (.slice pa 40 ca)) ?_ ?_ ?_ ?_ HZ2.out ?_); exact rfl; exact rfl; exact rfl; exact rfl; exact cC_one _ _ _ _; intro w5 h3 o3; have HFQ := hid (HFP.out.on (ownX HB2.out HG2.out o3)); have HC5 := hid h3; have HGG : Hid (g ≠ g5) := hid (by have := HG2.out; have := HGL.out; omega); have HLDB := hid (HFQ.out.load HXB.out); clear h3 o3 HZ2 HB2)
    | (clear TH; (with_reducible refine wpList_loadW 39 _ rfl ?_ (.pointer (some ⟨g, B * 2, none⟩)) (.agg (cC 0 (.slice pb 40 cb))) ?_ HLDB.out ?_); kernel_rfl; exact rfl)
    | (clear TI; (with_reducible refine HFQ.out.store (i := A) ?_ ⟨0, .slice pb 40 cb, fmB fb⟩ ?_ ?_ ?_ rfl rfl _ _ rfl ?_ ?_ ?_); (rw [HWR.out.1]; exact hpa); exact (HFQ.out.ci.each _ (List.mem_of_getElem? HXB.out)).1; exact (HFQ.out.ci.each _ (List.mem_of_getElem? HXB.out)).2.1; exact (HFQ.out.ci.each _ (List.mem_of_getElem? HXB.out)).2.2; exact rfl; exact rfl; intro w6 hf6 o6; have HF6 := hid hf6; have HW6 := hid (HWR.out.set A ⟨pb, cb, fb, HOB.out, rfl⟩); have HC6 := hid (HC5.out.keep (o6.block g5 HC5.out.lt (fun e => HGG.out e.symm))); have HM6 : Hid (Buf w.heap.size w6 (.slice pa 40 ca) (fmB fa)) := hid (own_otherO11 ((HFQ.out.ci.each _ (List.mem_of_getElem? HXA.out)).1) HFQ.out.ci.buf (by decide) (o6.mono fun b e => by have e9 : b = g := e; rw [e9]; rfl)); clear hf6 o6)
    | ((with_reducible refine wpList_load_at 39 _ rfl ?_ g5 0 ?_ (cC 0 (.slice pa 40 ca)) _ ?_ underCp rfl ?_ ?_); exact rfl; exact rfl; exact HC6.out.whole; exact sizeCp)
    | (clear TJ; (with_reducible refine HF6.out.store (i := B) ?_ ⟨0, .slice pa 40 ca, fmB fa⟩ ?_ ?_ ?_ rfl rfl _ _ rfl ?_ ?_ ?_); (rw [HW6.out.1]; exact hpb); exact HM6.out; exact fmB_lt HOA.out; (show (fmB fa).length ≤ 100000; rw [fmB_len]; decide); exact rfl; exact rfl; intro w7 hf7 o7; have HF7 := hid hf7; have HW7 := hid (HW6.out.set B ⟨pa, ca, fa, HOA.out, rfl⟩); clear hf7 o7)
    | ((with_reducible refine wpList_build_want 39 _ rfl ?_ (cC 6 (.slice none 0 0)) ?_ ?_); kernel_rfl; exact HB6.out)
    | ((with_reducible refine HF7.out.store (i := G) ?_ ⟨6, .slice none 0 0, []⟩ ?_ ?_ ?_ rfl rfl _ _ rfl ?_ ?_ ?_); (rw [HW7.out.1]; exact hpg); exact Buf.nil14 _ _; (intro z hz; cases hz); exact Nat.zero_le _; exact rfl; exact rfl; intro w8 hf8 o8; have HF8 := hid hf8; have HL8 := hid (show (((L.set A ⟨0, .slice pb 40 cb, fmB fb⟩).set B ⟨0, .slice pa 40 ca, fmB fa⟩).set G ⟨6, .slice none 0 0, []⟩).length = N by rw [List.length_set]; exact HW7.out.1); clear hf8 o8)
    | ((with_reducible refine HF8.out.store (i := O) ?_ ⟨12, .slice none 0 0, []⟩ ?_ ?_ ?_ rfl rfl _ _ rfl ?_ ?_ ?_); (rw [HL8.out]; exact hpo); exact Buf.nil14 _ _; (intro z hz; cases hz); exact Nat.zero_le _; exact rfl; exact rfl; intro w9 hf9 o9; have HF9 := hid hf9; clear hf9 o9)
    | ((with_reducible refine wpList_build_want 39 _ rfl ?_ (cC 12 (.slice none 0 0)) ?_ ?_); kernel_rfl; exact HB12.out)
    | (go_at_call 21; refine (HJD.out _ _ _ _ HF9.out).mono ?_; rintro e wj ⟨gs, cs, rfl, hNs, hcell, hbj⟩; have HBJ := hid (below_on HF9.out.be hbj); have HV := hid hcell; clear hbj hcell))
  have hNs' : (N : Int) ≤ (cs : Int) := by omega
  have HWN : Hid (∀ i, i < N → ∀ W', Below wj.heap.size wj W' → W'.cell? ⟨gs, i, none⟩ = some (.int .i64 (wnt (!decide (A = B)) (decide (i = A)) (decide (i = B)) (decide (i = G)) (decide (i = O)) : Nat))) := hid (fun i hi W' hW => by
    have h1 := HV.out i hi W' hW
    rw [HJE.out A B G O L _ _ _ _ HWR.out.1 HCE.out hpa hpb HXA.out HXB.out (fun f => jdg_none rfl) rfl i hi] at h1
    exact h1)
  clear HV HJE HWR HCE HXA HXB HFP HJD HPA HPB HPG HPO HF9 HF8 HL8 HF7 HW7 HF6 HW6 HC6 HM6 HC5 HFQ HGG HOA HOB HLDA HLDB HGL hbw HB6 HB12 HXX HAW
  go_loopg [25, 26] N (fun gg v u wr => ∃ i : Nat, i ≤ N ∧ N - i ≤ gg ∧ v = .int .i64 (i : Int) ∧ Hid (wj = wr))
  case atStart => exact ⟨0, by omega, by omega, rfl, hid rfl⟩
  case round =>
    obtain ⟨i, hi, hgi, rfl, HWW⟩ := hrel
    have hww := HWW.out
    subst hww
    by_cases hlt : i < N
    · have hltz : (i : Int) < (N : Int) := by omega
      have hic : (i : Int) < (cs : Int) := by omega
      have hi64 : (i : Int) < 64 := by omega
      have hv := HWN.out i hlt _ (Below.refl _ _)
      have f1 := neI14 A B
      have f2 := eqI14 i A
      have f3 := eqI14 i B
      have f4 := eqI14 i G
      have f5 := eqI14 i O
      clear HWN
      obtain ⟨p1, hp1⟩ : ∃ p, (!decide (A = B)) = p := ⟨_, rfl⟩
      obtain ⟨p2, hp2⟩ : ∃ p, decide (i = A) = p := ⟨_, rfl⟩
      obtain ⟨p3, hp3⟩ : ∃ p, decide (i = B) = p := ⟨_, rfl⟩
      obtain ⟨p4, hp4⟩ : ∃ p, decide (i = G) = p := ⟨_, rfl⟩
      obtain ⟨p5, hp5⟩ : ∃ p, decide (i = O) = p := ⟨_, rfl⟩
      rw [hp1] at f1 hv
      rw [hp2] at f2 hv
      rw [hp3] at f3 hv
      rw [hp4] at f4 hv
      rw [hp5] at f5 hv
      rcases (show p1 = false ∨ (p1 = true ∧ p2 = true) ∨ (p1 = true ∧ p2 = false ∧ p3 = true) ∨ (p1 = true ∧ p2 = false ∧ p3 = false) by cases p1 <;> cases p2 <;> cases p3 <;> simp) with q | ⟨q, qa⟩ | ⟨q, qa, qb⟩ | ⟨q, qa, qb⟩
      · rw [q] at f1 hv
        cases p4
        · cases p5
          · rw [show wnt false p2 p3 false false = 2 by simp [wnt]] at hv
            replace hv : wj.cell? ⟨gs, i, none⟩ = some (.int .i64 2) := hv
            clear hp1 hp2 hp3 hp4 hp5 hpa hpb hpg hpo q
            go_wp2
            go_roundg (N - (i + 1))
            case measure => omega
            case rel => exact ⟨i + 1, by omega, by omega, by go_num, hid rfl⟩
          · rw [show wnt false p2 p3 false true = 4 by simp [wnt]] at hv
            replace hv : wj.cell? ⟨gs, i, none⟩ = some (.int .i64 4) := hv
            clear hp1 hp2 hp3 hp4 hp5 hpa hpb hpg hpo q
            go_wp2
            go_roundg (N - (i + 1))
            case measure => omega
            case rel => exact ⟨i + 1, by omega, by omega, by go_num, hid rfl⟩
        · cases p5
          · rw [show wnt false p2 p3 true false = 1 by simp [wnt]] at hv
            replace hv : wj.cell? ⟨gs, i, none⟩ = some (.int .i64 1) := hv
            clear hp1 hp2 hp3 hp4 hp5 hpa hpb hpg hpo q
            go_wp2
            go_roundg (N - (i + 1))
            case measure => omega
            case rel => exact ⟨i + 1, by omega, by omega, by go_num, hid rfl⟩
          · rw [show wnt false p2 p3 true true = 4 by simp [wnt]] at hv
            replace hv : wj.cell? ⟨gs, i, none⟩ = some (.int .i64 4) := hv
            clear hp1 hp2 hp3 hp4 hp5 hpa hpb hpg hpo q
            go_wp2
            go_roundg (N - (i + 1))
            case measure => omega
            case rel => exact ⟨i + 1, by omega, by omega, by go_num, hid rfl⟩
      · rw [q] at f1 hv; rw [qa] at f2 hv
        cases p4
        · cases p5
          · rw [show wnt true true p3 false false = 3 by simp [wnt]] at hv
            replace hv : wj.cell? ⟨gs, i, none⟩ = some (.int .i64 3) := hv
            clear hp1 hp2 hp3 hp4 hp5 hpa hpb hpg hpo q qa
            go_wp2
            go_roundg (N - (i + 1))
            case measure => omega
            case rel => exact ⟨i + 1, by omega, by omega, by go_num, hid rfl⟩
          · rw [show wnt true true p3 false true = 4 by simp [wnt]] at hv
            replace hv : wj.cell? ⟨gs, i, none⟩ = some (.int .i64 4) := hv
            clear hp1 hp2 hp3 hp4 hp5 hpa hpb hpg hpo q qa
            go_wp2
            go_roundg (N - (i + 1))
            case measure => omega
            case rel => exact ⟨i + 1, by omega, by omega, by go_num, hid rfl⟩
        · cases p5
          · rw [show wnt true true p3 true false = 1 by simp [wnt]] at hv
            replace hv : wj.cell? ⟨gs, i, none⟩ = some (.int .i64 1) := hv
            clear hp1 hp2 hp3 hp4 hp5 hpa hpb hpg hpo q qa
            go_wp2
            go_roundg (N - (i + 1))
            case measure => omega
            case rel => exact ⟨i + 1, by omega, by omega, by go_num, hid rfl⟩
          · rw [show wnt true true p3 true true = 4 by simp [wnt]] at hv
            replace hv : wj.cell? ⟨gs, i, none⟩ = some (.int .i64 4) := hv
            clear hp1 hp2 hp3 hp4 hp5 hpa hpb hpg hpo q qa
            go_wp2
            go_roundg (N - (i + 1))
            case measure => omega
            case rel => exact ⟨i + 1, by omega, by omega, by go_num, hid rfl⟩
      · rw [q] at f1 hv; rw [qa] at f2 hv; rw [qb] at f3 hv
        cases p4
        · cases p5
          · rw [show wnt true false true false false = 3 by simp [wnt]] at hv
            replace hv : wj.cell? ⟨gs, i, none⟩ = some (.int .i64 3) := hv
            clear hp1 hp2 hp3 hp4 hp5 hpa hpb hpg hpo q qa qb
            go_wp2
            go_roundg (N - (i + 1))
            case measure => omega
            case rel => exact ⟨i + 1, by omega, by omega, by go_num, hid rfl⟩
          · rw [show wnt true false true false true = 4 by simp [wnt]] at hv
            replace hv : wj.cell? ⟨gs, i, none⟩ = some (.int .i64 4) := hv
            clear hp1 hp2 hp3 hp4 hp5 hpa hpb hpg hpo q qa qb
            go_wp2
            go_roundg (N - (i + 1))
            case measure => omega
            case rel => exact ⟨i + 1, by omega, by omega, by go_num, hid rfl⟩
        · cases p5
          · rw [show wnt true false true true false = 1 by simp [wnt]] at hv
            replace hv : wj.cell? ⟨gs, i, none⟩ = some (.int .i64 1) := hv
            clear hp1 hp2 hp3 hp4 hp5 hpa hpb hpg hpo q qa qb
            go_wp2
            go_roundg (N - (i + 1))
            case measure => omega
            case rel => exact ⟨i + 1, by omega, by omega, by go_num, hid rfl⟩
          · rw [show wnt true false true true true = 4 by simp [wnt]] at hv
            replace hv : wj.cell? ⟨gs, i, none⟩ = some (.int .i64 4) := hv
            clear hp1 hp2 hp3 hp4 hp5 hpa hpb hpg hpo q qa qb
            go_wp2
            go_roundg (N - (i + 1))
            case measure => omega
            case rel => exact ⟨i + 1, by omega, by omega, by go_num, hid rfl⟩
      · rw [q] at f1 hv; rw [qa] at f2 hv; rw [qb] at f3 hv
        cases p4
        · cases p5
          · rw [show wnt true false false false false = 2 by simp [wnt]] at hv
            replace hv : wj.cell? ⟨gs, i, none⟩ = some (.int .i64 2) := hv
            clear hp1 hp2 hp3 hp4 hp5 hpa hpb hpg hpo q qa qb
            go_wp2
            go_roundg (N - (i + 1))
            case measure => omega
            case rel => exact ⟨i + 1, by omega, by omega, by go_num, hid rfl⟩
          · rw [show wnt true false false false true = 4 by simp [wnt]] at hv
            replace hv : wj.cell? ⟨gs, i, none⟩ = some (.int .i64 4) := hv
            clear hp1 hp2 hp3 hp4 hp5 hpa hpb hpg hpo q qa qb
            go_wp2
            go_roundg (N - (i + 1))
            case measure => omega
            case rel => exact ⟨i + 1, by omega, by omega, by go_num, hid rfl⟩
        · cases p5
          · rw [show wnt true false false true false = 1 by simp [wnt]] at hv
            replace hv : wj.cell? ⟨gs, i, none⟩ = some (.int .i64 1) := hv
            clear hp1 hp2 hp3 hp4 hp5 hpa hpb hpg hpo q qa qb
            go_wp2
            go_roundg (N - (i + 1))
            case measure => omega
            case rel => exact ⟨i + 1, by omega, by omega, by go_num, hid rfl⟩
          · rw [show wnt true false false true true = 4 by simp [wnt]] at hv
            replace hv : wj.cell? ⟨gs, i, none⟩ = some (.int .i64 4) := hv
            clear hp1 hp2 hp3 hp4 hp5 hpa hpb hpg hpo q qa qb
            go_wp2
            go_roundg (N - (i + 1))
            case measure => omega
            case rel => exact ⟨i + 1, by omega, by omega, by go_num, hid rfl⟩
    · have hltz : ¬ (i : Int) < (N : Int) := by omega
      clear HWN
      go_wp2
      go_ret
      exact ⟨rfl, HBJ.out⟩
end Go.Proofs.Ytfniojnklhjgbaa

/- FormatPlaces: a format with a byte turned. (Written by tools/gen_Gp15.py.) -/
namespace Go.Proofs.Ytfniojnklhjgbaa
open Go Go.RowKit

theorem xor1_ne (x : Nat) : x ^^^ 1 ≠ x := fun h => by
  have h2 := congrArg (fun y => x ^^^ y) h
  simp only [← Nat.xor_assoc, Nat.xor_self, Nat.zero_xor] at h2
  cases h2
theorem set_lt14 {L : List Nat} (h : ∀ z ∈ L, z < 256) {i y : Nat} (hy : y < 256) : ∀ z ∈ L.set i y, z < 256 := fun z hz => by
  rcases List.mem_or_eq_of_mem_set hz with h1 | rfl
  · exact h z h1
  · exact hy
theorem nine_lt {L : List Nat} (hl : L.length = 40) (h : ∀ z ∈ L, z < 256) : L.getD 9 0 < 256 := by
  obtain ⟨x, hx⟩ : ∃ x, L[9]? = some x := ⟨_, List.getElem?_eq_getElem (by omega)⟩
  have e : L.getD 9 0 = x := by simp [List.getD, hx]
  rw [e]
  exact h x (List.mem_of_getElem? hx)
theorem fmB_nine {f : FmV} (h : okFm f = true) : (fmB f).getD 9 0 < 256 := nine_lt (fmB_len f) (fmB_lt h)
theorem Buf.sl14 {B : Nat} {w : World} {v : Value} {L : List Nat} (h : Buf B w v L) : SL w v L := by
  obtain ⟨p, c, rfl⟩ := h.form
  exact ⟨p, c, rfl, h.bl, h.cap.2⟩
theorem Buf.nil14' {B : Nat} {w : World} {v : Value} {L : List Nat} (h : Buf B w v L) {n c : Nat} (e : v = .slice none n c) : c = 0 := by
  subst e
  rcases h.2 with ⟨e, _⟩ | ⟨g, cap, cur, e, _⟩
  · cases e; rfl
  · cases e
theorem copy14 {B : Nat} {w : World} {p : Option Addr} {c : Nat} {f : FmV} (h : Buf B w (.slice p 40 c) (fmB f)) : Calls Try.prog 24 #[.slice p 40 c] w fun e w' => ∃ pt ct, e = .returned (.slice pt 40 ct) ∧ 40 ≤ ct ∧ Buf w.heap.size w' (.slice pt 40 ct) (fmB f) ∧ Below w.heap.size w w' := (copyB_any h.sl14 (by rw [fmB_len]; decide) (fun n c e => h.nil14' e)).mono fun e w' hq => by
  obtain ⟨v', h1, h2, h3⟩ := hq
  obtain ⟨pt, ct, hv⟩ := h2.form
  subst hv
  have h4 := h2.cap.2
  rw [fmB_len] at h1 h2 h4
  exact ⟨pt, ct, h1, h4, h2, h3⟩
set_option linter.unusedVariables false in
set_option maxRecDepth 100000 in
set_option maxHeartbeats 16000000 in
theorem formatPlaces_turn (hF : FmC) (k m s a b gone off : Int) (w : World) (hk : inI k) (hm : inI m) (hs : inI s) (hok : okAl k m s = true) : Calls Try.prog 6 #[.int .i64 k, .int .i64 m, .int .i64 s, .int .i64 a, .int .i64 b, .int .i64 gone, .int .i64 off, .bool true] w fun e w' => e = .returned (.bool true) ∧ Below w.heap.size w w' := by
  obtain ⟨N, hN⟩ : ∃ N, alN k m s = N := ⟨_, rfl⟩
  have hN2 := alN_le hok
  rw [hN] at hN2
  have HAW := hid (fun W => awake14_any hF W)
  have HCP := hid (fun W h => copies14_ok hF hk hm hs hok hN w W h)
  have HJD := hid (fun (g c : Nat) (L : List Cv) (W : World) (h : FP w g N c L W) => judge14_ok hF hk hm hs hok hN h)
  have HJE := hid (fun (A B G O : Nat) (L : List Cv) (xa xb z o : Cv) (hL : L.length = N) (h0 : cps L = cpF k m s N) (hA : A < N) (hB : B < N) (ha : L[A]? = some xa) (hb : L[B]? = some xb) (hz : ∀ f, jdg z f = 1) (ho : o.err = 12) (i : Nat) (hi : i < N) => plc_jd (G := G) (O := O) hN hok hL h0 hA hB ha hb hz ho hi)
  have hpa := pkN_lt a N (by omega)
  have hpb := pkN_lt b N (by omega)
  have hpg := pkN_lt gone N (by omega)
  have hpo := pkN_lt off N (by omega)
  have HPA := hid (fun W => pick_any a N W (by omega) (by omega))
  have HPB := hid (fun W => pick_any b N W (by omega) (by omega))
  have HPG := hid (fun W => pick_any gone N W (by omega) (by omega))
  have HPO := hid (fun W => pick_any off N W (by omega) (by omega))
  generalize pkN a N = A at *
  generalize pkN b N = B at *
  generalize pkN gone N = G at *
  generalize pkN off N = O at *
  have ha' : (A : Int) < (N : Int) := by omega
  have hb' : (B : Int) < (N : Int) := by omega
  have hg' : (G : Int) < (N : Int) := by omega
  have ho' : (O : Int) < (N : Int) := by omega
  have hN64 : (N : Int) ≤ 64 := by omega
  have hN0 : ((N : Int) == 0) = false := beq_eq_false_iff_ne.2 (by omega)
  have hNN : ((N : Int) != (N : Int)) = false := by simp
  have hN00 : ¬ N = 0 := by omega
  have HB0 := hid (Below.refl w.heap.size w)
  have HXO : ∀ x, x < 256 → bits .xor .u8 ((x : Nat) : Int) 1 = ((x ^^^ 1 : Nat) : Int) := fun x hx => u8_xor_nat x 1 hx (by decide)
  have hB6 := builtC15 6
  have hB12 := builtC15 12
  have HB6 := hid hB6
  have HB12 := hid hB12
  have TA : Hid True := hid trivial
  have TB : Hid True := hid trivial
  have TC : Hid True := hid trivial
  have TD : Hid True := hid trivial
  have TE : Hid True := hid trivial
  have TF : Hid True := hid trivial
  have TG : Hid True := hid trivial
  have TH : Hid True := hid trivial
  have TI : Hid True := hid trivial
  have TJ : Hid True := hid trivial
  have HXX := hid HXO
  clear hF hok hN hk hm hs hB6 hB12 HXO
  go_enter Try.func6, Try.ntmps6
  go_wp2_with (first
    | (clear TA; go_at_call 18; refine (HAW.out _).mono ?_; rintro e w1 ⟨rfl, hb1⟩; have HB := hid hb1; clear hb1)
    | (go_at_call 27; refine (HCP.out _ HB.out).mono ?_; rintro e w2 ⟨g, c, L, rfl, hNc, hfp, hgl, hcp, hwr⟩; obtain ⟨pa, ca, fa, hoa, hxa⟩ := hwr.2 A hpa; obtain ⟨pb, cb, fb, hob, hxb⟩ := hwr.2 B hpb; have hac : (A : Int) < (c : Int) := (by omega); have hbc : (B : Int) < (c : Int) := (by omega); have hgc : (G : Int) < (c : Int) := (by omega); have hoc : (O : Int) < (c : Int) := (by omega); have HFP := hid hfp; have HGL := hid hgl; have HCE := hid hcp; have HWR := hid hwr; have HXA := hid hxa; have HXB := hid hxb; have HOA := hid hoa; have HOB := hid hob; have HLDA := hid (HFP.out.load hxa); have hbw := hid hfp.be; clear hfp hgl hcp hwr hxa hxb hoa hob hNc HB HCP)
    | (clear TB; go_at_call 25; refine (HPA.out _).mono ?_; rintro e w3 ⟨rfl, hq⟩; have hq2 := hq.symm; subst hq2)
    | (clear TC; go_at_call 25; refine (HPB.out _).mono ?_; rintro e w3 ⟨rfl, hq⟩; have hq2 := hq.symm; subst hq2)
    | (clear TD; go_at_call 25; refine (HPG.out _).mono ?_; rintro e w3 ⟨rfl, hq⟩; have hq2 := hq.symm; subst hq2)
    | (clear TE; go_at_call 25; refine (HPO.out _).mono ?_; rintro e w3 ⟨rfl, hq⟩; have hq2 := hq.symm; subst hq2)
    | (clear TF; (with_reducible refine wpList_loadW 39 _ rfl ?_ (.pointer (some ⟨g, A * 2, none⟩)) (.agg (cC 0 (.slice pa 40 ca))) ?_ HLDA.out ?_); kernel_rfl; exact rfl)
    | ((with_reducible refine wpList_allocX 39 _ zeroCp rfl rfl ?_); intro w4 g5 hz2 hb2 hg2; have HZ2 := hid hz2; have HB2 := hid hb2; have HG2 := hid hg2; clear hz2 hb2 hg2)
    | (clear TG; (with_reducible refine wpList_storeX 39 2 sizeCp rfl rfl _ _ rfl g5 ?_ (D := cC 0 (.slice pa 40 ca)) ?_ ?_ ?_ ?_ HZ2.out ?_); exact rfl; exact rfl; exact rfl; exact rfl; exact cC_one _ _ _ _; intro w5 h3 o3; have HFQ := hid (HFP.out.on (ownX HB2.out HG2.out o3)); have HC5 := hid h3; have HGG : Hid (g ≠ g5) := hid (by have := HG2.out; have := HGL.out; omega); have HLDB := hid (HFQ.out.load HXB.out); clear h3 o3 HZ2 HB2)
    | (clear TH; (with_reducible refine wpList_loadW 39 _ rfl ?_ (.pointer (some ⟨g, B * 2, none⟩)) (.agg (cC 0 (.slice pb 40 cb))) ?_ HLDB.out ?_); kernel_rfl; exact rfl)
    | (clear TI; (with_reducible refine HFQ.out.store (i := A) ?_ ⟨0, .slice pb 40 cb, fmB fb⟩ ?_ ?_ ?_ rfl rfl _ _ rfl ?_ ?_ ?_); (rw [HWR.out.1]; exact hpa); exact (HFQ.out.ci.each _ (List.mem_of_getElem? HXB.out)).1; exact (HFQ.out.ci.each _ (List.mem_of_getElem? HXB.out)).2.1; exact (HFQ.out.ci.each _ (List.mem_of_getElem? HXB.out)).2.2; exact rfl; exact rfl; intro w6 hf6 o6; have HF6 := hid hf6; have HW6 := hid (HWR.out.set A ⟨pb, cb, fb, HOB.out, rfl⟩); have HC6 := hid (HC5.out.keep (o6.block g5 HC5.out.lt (fun e => HGG.out e.symm))); have HM6 : Hid (Buf w.heap.size w6 (.slice pa 40 ca) (fmB fa)) := hid (own_otherO11 ((HFQ.out.ci.each _ (List.mem_of_getElem? HXA.out)).1) HFQ.out.ci.buf (by decide) (o6.mono fun b e => by have e9 : b = g := e; rw [e9]; rfl)); clear hf6 o6)
    | ((with_reducible refine wpList_load_at 39 _ rfl ?_ g5 0 ?_ (cC 0 (.slice pa 40 ca)) _ ?_ underCp rfl ?_ ?_); exact rfl; exact rfl; exact HC6.out.whole; exact sizeCp)
    | (clear TJ; (with_reducible refine HF6.out.store (i := B) ?_ ⟨0, .slice pa 40 ca, fmB fa⟩ ?_ ?_ ?_ rfl rfl _ _ rfl ?_ ?_ ?_); (rw [HW6.out.1]; exact hpb); exact HM6.out; exact fmB_lt HOA.out; (show (fmB fa).length ≤ 100000; rw [fmB_len]; decide); exact rfl; exact rfl; intro w7 hf7 o7; have HF7 := hid hf7; have HW7 := hid (HW6.out.set B ⟨pa, ca, fa, HOA.out, rfl⟩); obtain ⟨pg, cg, fg, hog, hxg⟩ := HW7.out.2 G hpg; have cg1 : w7.cell? ⟨g, G * 2 + 1, none⟩ = some (.slice pg 40 cg) := HF7.out.ci.at14 hxg 1 _ rfl; have HXG := hid hxg; have HOG := hid hog; have HCPY := hid (fun W (hW : FP w g N c ((L.set A ⟨0, .slice pb 40 cb, fmB fb⟩).set B ⟨0, .slice pa 40 ca, fmB fa⟩) W) => copy14 (hW.ci.each _ (List.mem_of_getElem? hxg)).1); clear hxg hog; clear hf7 o7)
    | (go_at_call 24; (with_reducible refine (HCPY.out _ HF7.out).mono ?_); rintro e w8 ⟨pt, ct, rfl, hct, hb8, hw8⟩; obtain ⟨gt, hgt0, hgB, cb9, fb9, hset⟩ := hb8.set (i := 9) (by rw [fmB_len]; decide) ((fmB fg).getD 9 0 ^^^ 1); subst hgt0; obtain ⟨x9, hx9⟩ : ∃ x, (fmB fg).getD 9 0 = x := ⟨_, rfl⟩; have hx9l : x9 < 256 := (by rw [← hx9]; exact fmB_nine HOG.out); have hxo := HXX.out x9 hx9l; have HX9 := hid hx9; rw [hx9] at cb9 hset; have HST := hid hset; have HO8 := hid (show Below w7.heap.size w7 (w8.setCell ⟨gt, 9, none⟩ (.int .u8 ((x9 ^^^ 1 : Nat) : Int))) from below_tr hw8 ((Only.set (S := fun b => b = gt) _ ⟨gt, 9, none⟩ _ rfl).below hw8.size (fun b e => by have e9 : b = gt := e; omega))); replace cb9 : w8.cell? ⟨gt, 9, none⟩ = some (.int .u8 (x9 : Int)) := cb9; have hct9 : (9 : Int) < (ct : Int) := (by omega); have HBT := hid (builtC14 (.slice (some ⟨gt, 0, none⟩) 40 ct) _ _ _ rfl); clear hb8 hw8 hset hx9 HCPY)
    | ((with_reducible refine wpList_build_want 39 _ rfl ?_ (cC 0 (.slice (some ⟨gt, 0, none⟩) 40 ct)) ?_ ?_); kernel_rfl; exact HBT.out)
    | ((with_reducible refine (HF7.out.on HO8.out).store (i := G) ?_ ⟨0, .slice (some ⟨gt, 0, none⟩) 40 ct, (fmB fg).set 9 (x9 ^^^ 1)⟩ ?_ ?_ ?_ rfl rfl _ _ rfl ?_ ?_ ?_); (rw [HW7.out.1]; exact hpg); exact own_base HST.out HF7.out.be.size; exact set_lt14 (fmB_lt HOG.out) (Nat.xor_lt_two_pow (n := 8) hx9l (by decide)); (show ((fmB fg).set 9 (x9 ^^^ 1)).length ≤ 100000; rw [List.length_set, fmB_len]; decide); exact rfl; exact rfl; intro wg hf8 o8; have HF8 := hid hf8; have HL8 := hid (show (((L.set A ⟨0, .slice pb 40 cb, fmB fb⟩).set B ⟨0, .slice pa 40 ca, fmB fa⟩).set G ⟨0, .slice (some ⟨gt, 0, none⟩) 40 ct, (fmB fg).set 9 (x9 ^^^ 1)⟩).length = N by rw [List.length_set]; exact HW7.out.1); clear hf8 o8)
    | ((with_reducible refine HF8.out.store (i := O) ?_ ⟨12, .slice none 0 0, []⟩ ?_ ?_ ?_ rfl rfl _ _ rfl ?_ ?_ ?_); (rw [HL8.out]; exact hpo); exact Buf.nil14 _ _; (intro z hz; cases hz); exact Nat.zero_le _; exact rfl; exact rfl; intro w9 hf9 o9; have HF9 := hid hf9; clear hf9 o9)
    | ((with_reducible refine wpList_build_want 39 _ rfl ?_ (cC 12 (.slice none 0 0)) ?_ ?_); kernel_rfl; exact HB12.out)
    | (go_at_call 21; refine (HJD.out _ _ _ _ HF9.out).mono ?_; rintro e wj ⟨gs, cs, rfl, hNs, hcell, hbj⟩; have HBJ := hid (below_on HF9.out.be hbj); have HV := hid hcell; clear hbj hcell))
  have hNs' : (N : Int) ≤ (cs : Int) := by omega
  have HWN : Hid (∀ i, i < N → ∀ W', Below wj.heap.size wj W' → W'.cell? ⟨gs, i, none⟩ = some (.int .i64 (wnt (!decide (A = B)) (decide (i = A)) (decide (i = B)) (decide (i = G)) (decide (i = O)) : Nat))) := hid (fun i hi W' hW => by
    have h1 := HV.out i hi W' hW
    rw [HJE.out A B G O L _ _ _ _ HWR.out.1 HCE.out hpa hpb HXA.out HXB.out (fun f => jdg_turned (y := x9 ^^^ 1) rfl rfl (by rw [HX9.out]; exact xor1_ne x9) f) rfl i hi] at h1
    exact h1)
  clear HV HJE HWR HCE HXA HXB HFP HJD HPA HPB HPG HPO HF9 HF8 HL8 HF7 HW7 HF6 HW6 HC6 HM6 HC5 HFQ HGG HOA HOB HLDA HLDB HGL hbw HB6 HB12 HXX HAW HXG HOG HX9 HST HO8 HBT
  go_loopg [25, 26] N (fun gg v u wr => ∃ i : Nat, i ≤ N ∧ N - i ≤ gg ∧ v = .int .i64 (i : Int) ∧ Hid (wj = wr))
  case atStart => exact ⟨0, by omega, by omega, rfl, hid rfl⟩
  case round =>
    obtain ⟨i, hi, hgi, rfl, HWW⟩ := hrel
    have hww := HWW.out
    subst hww
    by_cases hlt : i < N
    · have hltz : (i : Int) < (N : Int) := by omega
      have hic : (i : Int) < (cs : Int) := by omega
      have hi64 : (i : Int) < 64 := by omega
      have hv := HWN.out i hlt _ (Below.refl _ _)
      have f1 := neI14 A B
      have f2 := eqI14 i A
      have f3 := eqI14 i B
      have f4 := eqI14 i G
      have f5 := eqI14 i O
      clear HWN
      obtain ⟨p1, hp1⟩ : ∃ p, (!decide (A = B)) = p := ⟨_, rfl⟩
      obtain ⟨p2, hp2⟩ : ∃ p, decide (i = A) = p := ⟨_, rfl⟩
      obtain ⟨p3, hp3⟩ : ∃ p, decide (i = B) = p := ⟨_, rfl⟩
      obtain ⟨p4, hp4⟩ : ∃ p, decide (i = G) = p := ⟨_, rfl⟩
      obtain ⟨p5, hp5⟩ : ∃ p, decide (i = O) = p := ⟨_, rfl⟩
      rw [hp1] at f1 hv
      rw [hp2] at f2 hv
      rw [hp3] at f3 hv
      rw [hp4] at f4 hv
      rw [hp5] at f5 hv
      rcases (show p1 = false ∨ (p1 = true ∧ p2 = true) ∨ (p1 = true ∧ p2 = false ∧ p3 = true) ∨ (p1 = true ∧ p2 = false ∧ p3 = false) by cases p1 <;> cases p2 <;> cases p3 <;> simp) with q | ⟨q, qa⟩ | ⟨q, qa, qb⟩ | ⟨q, qa, qb⟩
      · rw [q] at f1 hv
        cases p4
        · cases p5
          · rw [show wnt false p2 p3 false false = 2 by simp [wnt]] at hv
            replace hv : wj.cell? ⟨gs, i, none⟩ = some (.int .i64 2) := hv
            clear hp1 hp2 hp3 hp4 hp5 hpa hpb hpg hpo q
            go_wp2
            go_roundg (N - (i + 1))
            case measure => omega
            case rel => exact ⟨i + 1, by omega, by omega, by go_num, hid rfl⟩
          · rw [show wnt false p2 p3 false true = 4 by simp [wnt]] at hv
            replace hv : wj.cell? ⟨gs, i, none⟩ = some (.int .i64 4) := hv
            clear hp1 hp2 hp3 hp4 hp5 hpa hpb hpg hpo q
            go_wp2
            go_roundg (N - (i + 1))
            case measure => omega
            case rel => exact ⟨i + 1, by omega, by omega, by go_num, hid rfl⟩
        · cases p5
          · rw [show wnt false p2 p3 true false = 1 by simp [wnt]] at hv
            replace hv : wj.cell? ⟨gs, i, none⟩ = some (.int .i64 1) := hv
            clear hp1 hp2 hp3 hp4 hp5 hpa hpb hpg hpo q
            go_wp2
            go_roundg (N - (i + 1))
            case measure => omega
            case rel => exact ⟨i + 1, by omega, by omega, by go_num, hid rfl⟩
          · rw [show wnt false p2 p3 true true = 4 by simp [wnt]] at hv
            replace hv : wj.cell? ⟨gs, i, none⟩ = some (.int .i64 4) := hv
            clear hp1 hp2 hp3 hp4 hp5 hpa hpb hpg hpo q
            go_wp2
            go_roundg (N - (i + 1))
            case measure => omega
            case rel => exact ⟨i + 1, by omega, by omega, by go_num, hid rfl⟩
      · rw [q] at f1 hv; rw [qa] at f2 hv
        cases p4
        · cases p5
          · rw [show wnt true true p3 false false = 3 by simp [wnt]] at hv
            replace hv : wj.cell? ⟨gs, i, none⟩ = some (.int .i64 3) := hv
            clear hp1 hp2 hp3 hp4 hp5 hpa hpb hpg hpo q qa
            go_wp2
            go_roundg (N - (i + 1))
            case measure => omega
            case rel => exact ⟨i + 1, by omega, by omega, by go_num, hid rfl⟩
          · rw [show wnt true true p3 false true = 4 by simp [wnt]] at hv
            replace hv : wj.cell? ⟨gs, i, none⟩ = some (.int .i64 4) := hv
            clear hp1 hp2 hp3 hp4 hp5 hpa hpb hpg hpo q qa
            go_wp2
            go_roundg (N - (i + 1))
            case measure => omega
            case rel => exact ⟨i + 1, by omega, by omega, by go_num, hid rfl⟩
        · cases p5
          · rw [show wnt true true p3 true false = 1 by simp [wnt]] at hv
            replace hv : wj.cell? ⟨gs, i, none⟩ = some (.int .i64 1) := hv
            clear hp1 hp2 hp3 hp4 hp5 hpa hpb hpg hpo q qa
            go_wp2
            go_roundg (N - (i + 1))
            case measure => omega
            case rel => exact ⟨i + 1, by omega, by omega, by go_num, hid rfl⟩
          · rw [show wnt true true p3 true true = 4 by simp [wnt]] at hv
            replace hv : wj.cell? ⟨gs, i, none⟩ = some (.int .i64 4) := hv
            clear hp1 hp2 hp3 hp4 hp5 hpa hpb hpg hpo q qa
            go_wp2
            go_roundg (N - (i + 1))
            case measure => omega
            case rel => exact ⟨i + 1, by omega, by omega, by go_num, hid rfl⟩
      · rw [q] at f1 hv; rw [qa] at f2 hv; rw [qb] at f3 hv
        cases p4
        · cases p5
          · rw [show wnt true false true false false = 3 by simp [wnt]] at hv
            replace hv : wj.cell? ⟨gs, i, none⟩ = some (.int .i64 3) := hv
            clear hp1 hp2 hp3 hp4 hp5 hpa hpb hpg hpo q qa qb
            go_wp2
            go_roundg (N - (i + 1))
            case measure => omega
            case rel => exact ⟨i + 1, by omega, by omega, by go_num, hid rfl⟩
          · rw [show wnt true false true false true = 4 by simp [wnt]] at hv
            replace hv : wj.cell? ⟨gs, i, none⟩ = some (.int .i64 4) := hv
            clear hp1 hp2 hp3 hp4 hp5 hpa hpb hpg hpo q qa qb
            go_wp2
            go_roundg (N - (i + 1))
            case measure => omega
            case rel => exact ⟨i + 1, by omega, by omega, by go_num, hid rfl⟩
        · cases p5
          · rw [show wnt true false true true false = 1 by simp [wnt]] at hv
            replace hv : wj.cell? ⟨gs, i, none⟩ = some (.int .i64 1) := hv
            clear hp1 hp2 hp3 hp4 hp5 hpa hpb hpg hpo q qa qb
            go_wp2
            go_roundg (N - (i + 1))
            case measure => omega
            case rel => exact ⟨i + 1, by omega, by omega, by go_num, hid rfl⟩
          · rw [show wnt true false true true true = 4 by simp [wnt]] at hv
            replace hv : wj.cell? ⟨gs, i, none⟩ = some (.int .i64 4) := hv
            clear hp1 hp2 hp3 hp4 hp5 hpa hpb hpg hpo q qa qb
            go_wp2
            go_roundg (N - (i + 1))
            case measure => omega
            case rel => exact ⟨i + 1, by omega, by omega, by go_num, hid rfl⟩
      · rw [q] at f1 hv; rw [qa] at f2 hv; rw [qb] at f3 hv
        cases p4
        · cases p5
          · rw [show wnt true false false false false = 2 by simp [wnt]] at hv
            replace hv : wj.cell? ⟨gs, i, none⟩ = some (.int .i64 2) := hv
            clear hp1 hp2 hp3 hp4 hp5 hpa hpb hpg hpo q qa qb
            go_wp2
            go_roundg (N - (i + 1))
            case measure => omega
            case rel => exact ⟨i + 1, by omega, by omega, by go_num, hid rfl⟩
          · rw [show wnt true false false false true = 4 by simp [wnt]] at hv
            replace hv : wj.cell? ⟨gs, i, none⟩ = some (.int .i64 4) := hv
            clear hp1 hp2 hp3 hp4 hp5 hpa hpb hpg hpo q qa qb
            go_wp2
            go_roundg (N - (i + 1))
            case measure => omega
            case rel => exact ⟨i + 1, by omega, by omega, by go_num, hid rfl⟩
        · cases p5
          · rw [show wnt true false false true false = 1 by simp [wnt]] at hv
            replace hv : wj.cell? ⟨gs, i, none⟩ = some (.int .i64 1) := hv
            clear hp1 hp2 hp3 hp4 hp5 hpa hpb hpg hpo q qa qb
            go_wp2
            go_roundg (N - (i + 1))
            case measure => omega
            case rel => exact ⟨i + 1, by omega, by omega, by go_num, hid rfl⟩
          · rw [show wnt true false false true true = 4 by simp [wnt]] at hv
            replace hv : wj.cell? ⟨gs, i, none⟩ = some (.int .i64 4) := hv
            clear hp1 hp2 hp3 hp4 hp5 hpa hpb hpg hpo q qa qb
            go_wp2
            go_roundg (N - (i + 1))
            case measure => omega
            case rel => exact ⟨i + 1, by omega, by omega, by go_num, hid rfl⟩
    · have hltz : ¬ (i : Int) < (N : Int) := by omega
      clear HWN
      go_wp2
      go_ret
      exact ⟨rfl, HBJ.out⟩
end Go.Proofs.Ytfniojnklhjgbaa

/- FormatPlaces, as it is called. -/
namespace Go.Proofs.Ytfniojnklhjgbaa
open Go Go.RowKit

theorem formatPlaces_all (k m s a b gone off : Int) (turn : Bool) (w : World) (hk : inI k) (hm : inI m) (hs : inI s) : Calls Try.prog 6 #[.int .i64 k, .int .i64 m, .int .i64 s, .int .i64 a, .int .i64 b, .int .i64 gone, .int .i64 off, .bool turn] w fun e w' => e = .returned (.bool true) ∧ Below w.heap.size w w' := by
  cases hok : okAl k m s with
  | false => exact formatPlaces_bad fmc k m s a b gone off turn w hk hm hs hok
  | true =>
    cases turn with
    | false => exact formatPlaces_gone fmc k m s a b gone off w hk hm hs hok
    | true => exact formatPlaces_turn fmc k m s a b gone off w hk hm hs hok
end Go.Proofs.Ytfniojnklhjgbaa
