/- Texts laid into one, cut to what is needed: the remark ahead of each part says what is proved there. -/
import Derived.Test.YtdohmokhfajjpaaGreatDoorPbf
import Derived.Deep.Cut
import Derived.Test.YtdohmokhfajjpaaGreatDoorPau
import Derived.Test.YtdohmokhfajjpaaGreatDoorPax
import Derived.Test.YtdohmokhfajjpaaGreatDoorPay
import Derived.Test.YtdohmokhfajjpaaGreatDoorPba
import Derived.Test.YtdohmokhfajjpaaGreatDoorPar
import Derived.Test.YtdohmokhfajjpaaGreatDoorPaw
import Derived.Test.YtdohmokhfajjpaaGreatDoorPaz
import Derived.Test.YtdohmokhfajjpaaGreatDoorPaq
import Derived.Test.YtdohmokhfajjpaaGreatDoorPan
import Derived.Test.YtdohmokhfajjpaaGreatDoorPao
import Derived.Test.YtdohmokhfajjpaaGreatDoorPbb
import Derived.Test.YtdohmokhfajjpaaGreatDoorPbd
/- The document's numbers: rows of ints, and what is read. -/
namespace Go.Proofs.YtdohmokhfajjpaaGreatDoor
open Go Go.RowKit

/-- So many numbers from the front. -/
def rdN : Nat → List Nat → Option (List Nat × List Nat)
 | 0, b => some ([], b)
 | n + 1, b => (rdU b).bind fun q => (rdN n q.2).map fun r => (q.1 :: r.1, r.2)
def pairs : List Nat → Ps
 | a :: b :: r => ((a : Int), (b : Int)) :: pairs r
 | _ => []
/-- What is read so far, and what then. -/
def NAcc (n : Nat) (c : List Nat) (k : Nat) (xs : List Nat) (d : List Nat) : Prop := xs.length = k ∧ rdN n c = (rdN (n - k) d).map fun q => (xs ++ q.1, q.2)
theorem NAcc.start (n : Nat) (c : List Nat) : NAcc n c 0 [] c := ⟨rfl, by simp⟩
/-- Ints in a row of their own. -/
def IBuf (B : Nat) (w : World) (v : Value) (xs : List Nat) : Prop := w.ownsRow B 3 1 v xs.length (xs.map fun n : Nat => i64 n)
theorem Tryz.infoI : (Tryz.prog.info? 3).map (fun i => (i.zero, i.size, i.bytes)) = some (some (.int .i64 0), 1, 8) := by kernel_rfl
theorem IBuf.nil (B : Nat) (w : World) : IBuf B w (.slice none 0 0) [] := World.ownsRow_nil w B 3 1
theorem IBuf.keep {B : Nat} {w w' : World} {v : Value} {xs : List Nat} (h : IBuf B w v xs) (hk : ∀ b, v.ownBlock = some b → w'.heap[b]? = w.heap[b]?) : IBuf B w' v xs := ownsRow_keep h hk
theorem IBuf.below {B : Nat} {w w' : World} {v : Value} {xs : List Nat} (h : IBuf B w v xs) (hb : Below w.heap.size w w') : IBuf B w' v xs := h.keep fun b e => hb.block b (own_ge h b e).2
theorem IBuf.push {B : Nat} {w : World} {v : Value} {xs : List Nat} (h : IBuf B w v xs) (x : Nat) (hn : xs.length ≤ 1000000) (hB : B ≤ w.heap.size) :
  ∃ v' w', (Builtin.append_ #[30, 30] 30 #[v, .slice (some ⟨w.heap.size, 0, none⟩) 1 1]).run Tryz.prog (w.alloc (.cells #[i64 x] 3)) = .ok v' w' ∧ IBuf B w' v' (xs ++ [x]) ∧ (w.alloc (.cells #[i64 x] 3)).grownBy w' v.ownBlock := by
 obtain ⟨i0, hi0, hz0, hz1, hz2⟩ := info_parts Tryz.infoI
 have h2 : (w.alloc (.cells #[i64 x] 3)).ownsRow B 3 1 v xs.length (xs.map fun n : Nat => i64 n) := h.alloc _
 have hc : CAt (w.alloc (.cells #[i64 x] 3)) w.heap.size #[i64 x] 3 := CAt.made w _ _
 obtain ⟨v', w', hr, h3, h4, _, _⟩ := run_append_own_at (P := Tryz.prog) (w.alloc (.cells #[i64 x] 3)) B 30 30 3 i0 _ 1 8 Tryz.underlying30 hi0 hz0 hz1 hz2 rfl (by decide) v xs.length _ h2 ⟨w.heap.size, 0, none⟩ 1 1 [i64 x] rfl (fun j u hj => by
   rw [add_none, Nat.zero_add, hc.cell]
   rcases j with _ | j
   ·simpa using hj
   ·simp at hj) (by intro u hu; simp at hu; rw [hu]; rfl) (by unfold maxLen; omega) (by omega) (by rw [size_al]; omega)
 refine ⟨v', w', hr, ?_, h4⟩
 unfold IBuf
 rw [show (xs ++ [x]).map (fun n : Nat => i64 n) = xs.map (fun n : Nat => i64 n) ++ [i64 x] by simp]
 simpa using h3
end Go.Proofs.YtdohmokhfajjpaaGreatDoor

/- The document's ReadUint, and where the rest lies. -/
namespace Go.Proofs.YtdohmokhfajjpaaGreatDoor
open Go Go.RowKit

/-- Bytes in the block that p leads to. -/
def SLn (p : Option Addr) (w : World) (v : Value) (r : List Nat) : Prop := SL w v r ∧ ∀ a n c, v = .slice (some a) n c → ∃ a', p = some a' ∧ a.block = a'.block
theorem SLn.below {p : Option Addr} {w w' : World} {v : Value} {r : List Nat} (h : SLn p w v r) (hb : Below w.heap.size w w') : SLn p w' v r := ⟨h.1.below hb, h.2⟩
/- behind rReadUint_near -/
end Go.Proofs.YtdohmokhfajjpaaGreatDoor

/- The document's numbers. -/
namespace Go.Proofs.YtdohmokhfajjpaaGreatDoor
open Go Go.RowKit

theorem SLn.far {po : Option Addr} {w w' : World} {v : Value} {d : List Nat} {S : Nat → Prop} {B : Nat} (h : SLn po w v d) (hP : d ≠ [] → ∀ a, po = some a → a.block < B) (ho : Only S w w') (hS : ∀ i, S i → B ≤ i) : SLn po w' v d := by
 obtain ⟨⟨p, c, rfl, hb, hc⟩, hn⟩ := h
 refine ⟨⟨p, c, rfl, hb.onlyAt ho (fun hne a ha e => ?_), hc⟩, hn⟩
 obtain ⟨a', h1, h2⟩ := hn a _ _ (by rw [ha])
 have := hP hne a' h1
 have := hS _ e
 omega
end Go.Proofs.YtdohmokhfajjpaaGreatDoor

/- The document's data: what is read, step by step; bytes beside a record's block. -/
namespace Go.Proofs.YtdohmokhfajjpaaGreatDoor
open Go Go.RowKit

section
variable {po : Option Addr} {w w' : World} {v : Value} {d : List Nat} (h : SLn po w v d) (hl : d.length ≤ 100000) (h8 : ∀ x ∈ d, x < 256)
include h
theorem SLn.off {g : Nat} (hP : ∀ a, po = some a → a.block ≠ g) (ho : Only (fun b => b = g) w w') : SLn po w' v d := by
 obtain ⟨⟨p, c, rfl, hb, hc⟩, hn⟩ := h
 refine ⟨⟨p, c, rfl, hb.onlyAt ho (fun hne a ha e => ?_), hc⟩, hn⟩
 obtain ⟨a', h1, h2⟩ := hn a _ _ (by rw [ha])
 exact hP a' h1 (h2 ▸ e)
include hl h8
end
/-- A record's block; of what was there nothing else has turned. -/
structure DB (w0 : World) (g : Nat) (r : Rv) (w : World) : Prop where
 ok : r.ok
 rb : RBox w g r
 only : Only (fun b => b = g) w0 w
section
variable {w0 w w' : World} {g : Nat} {r r' : Rv} (h : DB w0 g r w)
include h
theorem DB.below (hb : Below w.heap.size w w') : DB w0 g r w' := ⟨h.ok, h.rb.below h.ok hb, h.only.trans (Only.of_below hb)⟩
theorem DB.turn (hr : RBox w' g r') (hk : r'.ok) (ho : Only (fun b => b = g) w w') : DB w0 g r' w' := ⟨hk, hr, h.only.trans ho⟩
/-- copy(r.Sum[:], b[:32]) -/
theorem DB.copy {po : Option Addr} {x : List Nat} (hb : BL w po x) (hx : x.length = 32) (h8 : ∀ z ∈ x, z < 256) (c : Nat) (ty : TypeId) :
  (Builtin.copy_ #[22, 22] ty #[.slice (some ⟨g, 8, none⟩) 32 32, .slice po 32 c]).run Tryz.prog w = .ok (goInt 32) (w.setCells g 8 (x.map u8)) ∧ DB w0 g { r with sum := x } (w.setCells g 8 (x.map u8)) := by
 refine ⟨?_, h.turn (h.rb.setSum h.ok x hx h8) ⟨hx, h8, h.ok.i, h.ok.e, h.ok.d, h.ok.u⟩ (only_setCells _ _ _ _ rfl)⟩
 rcases hb with rfl | ⟨b, o, rfl, hb⟩
 ·simp at hx
 have := run_copy_cells (P := Tryz.prog) w 22 22 ty 5 g 8 32 32 ⟨b, o, none⟩ 32 c (x.map u8) Tryz.underlying22 (by kernel_rfl) (by simp [hx])
  (fun j v hj => by
   have hjn : j < x.length := by
    rcases Nat.lt_or_ge j x.length with q | q
    ·exact q
    ·rw [List.getElem?_eq_none (by simpa using q)] at hj; cases hj
   rw [add_none, hb j hjn]
   simp [hjn] at hj
   rw [← hj]; simp [List.getD, hjn])
  (fun j hj => by
   have hj' : j < 32 := by simpa [hx] using hj
   rw [h.rb.cs j _ (sumC_get (by rw [h.ok.sl]; exact hj'))]; rfl)
  (fun j _ => h.rb.free _)
  (fun v hv => by obtain ⟨i, _, rfl⟩ := List.mem_map.1 hv; rfl)
 simp only [List.length_map, hx] at this
 exact this
end
/-- The cells of a row of ints. -/
theorem IBuf.open_ {B : Nat} {w : World} {v : Value} {xs : List Nat} (h : IBuf B w v xs) (hne : xs ≠ []) : ∃ gi c, v = .slice (some ⟨gi, 0, none⟩) xs.length c ∧ xs.length ≤ c ∧ B ≤ gi ∧ gi < w.heap.size ∧ ∀ i, i < xs.length → w.cell? ⟨gi, i, none⟩ = some (i64 ((xs.getD i 0 : Nat) : Int)) := by
 rcases h.2 with ⟨_, h0⟩ | ⟨g, cap, cur, rfl, hB, hg, h1, _, h3, h4⟩
 ·exact absurd (List.eq_nil_of_length_eq_zero h0) hne
 ·have hc : CAt w g cur 3 := hg
  refine ⟨g, cap, rfl, h1, hB, hc.lt, fun i hi => ?_⟩
  have := congrArg (fun l => l[i]?) h4
  simp [hi] at this
  rw [hc.cell, this]
  simp [List.getD, hi]
end Go.Proofs.YtdohmokhfajjpaaGreatDoor

/- records: two lists of records. -/
namespace Go.Proofs.YtdohmokhfajjpaaGreatDoor
open Go Go.RowKit

theorem RL.where {w : World} {v : Value} {l : List Rp} (h : RL w v l) {i : Nat} {x : Rp} (hx : l[i]? = some x) : ∃ b o c, v = .slice (some ⟨b, o, none⟩) l.length c ∧ l.length ≤ c ∧ RCells w b o l := by
 obtain ⟨po, c, h1, h2, _, _, h3, _⟩ := h
 rcases h3 with h3 | ⟨b, o, rfl, h3⟩
 ·rw [h3] at hx; cases hx
 ·exact ⟨b, o, c, h1, h2, h3⟩
theorem RCells.below {w w' : World} {b o : Nat} {l : List Rp} (h : RCells w b o l) (hb : Below w.heap.size w w') : RCells w' b o l := h.keep fun a ha => World.cell?_of_block (hb.block a.block (cell_lt' ha))

end Go.Proofs.YtdohmokhfajjpaaGreatDoor

/- The document's Copy and without. -/
namespace Go.Proofs.YtdohmokhfajjpaaGreatDoor
open Go Go.RowKit

/-- The parameter's block, the result's and the copy's. -/
structure K3 (w : World) (g1 g2 g3 : Nat) (s : Int) (v u : Value) (W : World) : Prop where
 below : Below w.heap.size w W
 cj : CAt W g1 (jC s v) 70
 cr : CAt W g2 (jC 0 (.slice none 0 0)) 70
 cl : CAt W g3 (jC s u) 70
end Go.Proofs.YtdohmokhfajjpaaGreatDoor

/- The document's read: what stands between sign and digest. -/
namespace Go.Proofs.YtdohmokhfajjpaaGreatDoor
open Go Go.RowKit

/-- The result's block and the journal's. -/
structure R2 (w : World) (g2 g4 : Nat) (s : Int) (u : Value) (W : World) : Prop where
 below : Below w.heap.size w W
 cr : CAt W g2 (jC 0 (.slice none 0 0)) 70
 cj : CAt W g4 (jC s u) 70
theorem R2.on {w W W' : World} {g2 g4 : Nat} {s : Int} {u : Value} (h : R2 w g2 g4 s u W) (hb : Below W.heap.size W W') : R2 w g2 g4 s u W' := ⟨below_on h.below hb, h.cr.below hb, h.cj.below hb⟩
theorem R2.seq {w W : World} {g2 g4 : Nat} {s : Int} {u : Value} (h : R2 w g2 g4 s u W) (h24 : g2 < g4) (h2 : w.heap.size ≤ g2) (n : Int) : R2 w g2 g4 n u (W.setCell ⟨g4, 0, none⟩ (i64 n)) := by
 have o := Only.set (S := fun b => b = g4) W ⟨g4, 0, none⟩ (i64 n) rfl
 exact ⟨below_tr h.below (o.below h.below.size (fun i e => by omega)), h.cr.keep (o.block g2 h.cr.lt (by omega)), h.cj.set 0 _⟩
theorem R2.recs {w W W' : World} {g2 g4 B : Nat} {s : Int} {u : Value} (h : R2 w g2 g4 s u W) (h24 : g2 < g4) (h2 : w.heap.size ≤ g2) (h4 : g4 < B) (hO : Only (fun i => B ≤ i) W W') (u' : Value) : R2 w g2 g4 s u' (W'.setCell ⟨g4, 1, none⟩ u') := by
 have o := Only.set (S := fun b => b = g4) W' ⟨g4, 1, none⟩ u' rfl
 have k2 := h.cr.keep (hO.block g2 h.cr.lt (by omega))
 have k4 := h.cj.keep (hO.block g4 h.cj.lt (by omega))
 have hb := below_tr h.below (hO.below h.below.size fun i hi => by omega)
 exact ⟨below_tr hb (o.below hb.size (fun i e => by omega)), k2.keep (o.block g2 k2.lt (by omega)), k4.set 1 u'⟩
end Go.Proofs.YtdohmokhfajjpaaGreatDoor

/- Journals that came in. -/
namespace Go.Proofs.YtdohmokhfajjpaaGreatDoor
open Go Go.RowKit

/-- What is told of a record that came in. -/
structure IsP (w : World) (x : Rp) : Prop where
 sl : x.r.sum.length = 32
 s8 : ∀ z ∈ x.r.sum, z < 256
 parts : ∃ (po : Option Addr) (c : Nat), x.r.pv = .slice po x.ps.length c ∧ x.ps.length ≤ c ∧ (po = none → c = 0) ∧ (x.ps = [] ∨ ∃ b o, po = some ⟨b, o, none⟩ ∧ PCells w b o x.ps)
/-- The slice v, which came in, leads to the records l. -/
def IsJ (w : World) (v : Value) (l : List Rp) : Prop := ∃ po c, v = .slice po l.length c ∧ l.length ≤ c ∧ c ≤ maxLen ∧ (po = none → c = 0) ∧ (l = [] ∨ ∃ b o, po = some ⟨b, o, none⟩ ∧ RCells w b o l) ∧ ∀ x ∈ l, IsP w x
theorem IsP.keep {w w' : World} {x : Rp} (h : IsP w x) (hk : ∀ a, w.cell? a ≠ none → w'.cell? a = w.cell? a) : IsP w' x := by
 refine ⟨h.sl, h.s8, ?_⟩
 obtain ⟨po, c, h1, h2, h3, h⟩ := h.parts
 refine ⟨po, c, h1, h2, h3, ?_⟩
 rcases h with h | ⟨b, o, hp, h⟩
 ·exact Or.inl h
 ·exact Or.inr ⟨b, o, hp, fun i hi => ⟨(hk _ (by rw [(h i hi).1]; simp)).trans (h i hi).1, (hk _ (by rw [(h i hi).2]; simp)).trans (h i hi).2⟩⟩
theorem IsJ.keep {w w' : World} {v : Value} {l : List Rp} (h : IsJ w v l) (hk : ∀ a, w.cell? a ≠ none → w'.cell? a = w.cell? a) : IsJ w' v l := by
 obtain ⟨po, c, h1, h2, h3, h4, h5, h6⟩ := h
 refine ⟨po, c, h1, h2, h3, h4, ?_, fun x hx => (h6 x hx).keep hk⟩
 rcases h5 with h | ⟨b, o, hp, h⟩
 ·exact Or.inl h
 ·exact Or.inr ⟨b, o, hp, h.keep hk⟩
theorem IsJ.below {w w' : World} {v : Value} {l : List Rp} (h : IsJ w v l) (hb : Below w.heap.size w w') : IsJ w' v l :=
 h.keep fun a ha => World.cell?_of_block (hb.block a.block (cell_lt' ha))
/-- Is a record more than is gone through? -/
def bigP (x : Rp) : Bool := decide (100 < x.ps.length) || decide (1000 < x.r.id.size) || decide (1000 < x.r.etag.size) || decide (1000 < x.r.data.size) || decide (1000 < x.r.up.size)
theorem IsP.ok {w : World} {x : Rp} (h : IsP w x) (hb : bigP x = false) : RpOk w x := by
 simp only [bigP, Bool.or_eq_false_iff, decide_eq_false_iff_not] at hb
 obtain ⟨⟨⟨⟨b1, b2⟩, b3⟩, b4⟩, b5⟩ := hb
 obtain ⟨po, c, h1, h2, h3, h4⟩ := h.parts
 exact ⟨⟨h.sl, h.s8, by omega, by omega, by omega, by omega⟩, ⟨po, c, h1, h2, by omega, h4⟩, fun n k e => by rw [h1] at e; cases e; exact h3 rfl⟩
section
variable {H : Type} {enc : TypeId × Value → H} {w : World} {held : Bool} {fuel : Nat}
end
end Go.Proofs.YtdohmokhfajjpaaGreatDoor

/- Pick; sealed; the bytes of a journal. -/
namespace Go.Proofs.YtdohmokhfajjpaaGreatDoor
open Go Go.RowKit

def pkN (x : Int) (n : Nat) : Nat := if x.tmod n < 0 then (x.tmod n + n).toNat else (x.tmod n).toNat
theorem tmod_lo (x : Int) (n : Nat) (h : 1 ≤ n) : -(n : Int) < x.tmod n := by
 have := Int.tmod_lt_of_pos (-x) (b := (n : Int)) (by omega)
 rw [Int.neg_tmod] at this; omega
theorem pkN_lt (x : Int) (n : Nat) (h : 1 ≤ n) : pkN x n < n := by
 have b1 := Int.tmod_lt_of_pos x (b := (n : Int)) (by omega)
 have b2 := tmod_lo x n h
 unfold pkN; split <;> omega
theorem pick_any (x : Int) (n : Nat) (w : World) (h1 : 1 ≤ n) (hn : n ≤ 1000000) :
  Calls Tryz.prog 14 #[.int .i64 x, .int .i64 (n : Int)] w fun e w' => e = .returned (.int .i64 (pkN x n : Int)) ∧ w' = w := by
 have b1 := Int.tmod_lt_of_pos x (b := (n : Int)) (by omega)
 have b2 := tmod_lo x n h1
 have hn1 : ¬ (n : Int) < 1 := by omega
 have hn0 : ¬ (n : Int) = 0 := by omega
 by_cases hneg : x.tmod n < 0
 ·have e : ((pkN x n : Nat) : Int) = x.tmod n + n := by unfold pkN; rw [if_pos hneg]; omega
  have HE := hid e
  clear e
  go_enter Tryz.func14, Tryz.ntmps14
  go_wp2
  go_ret
  exact ⟨by rw [HE.out]; rfl, rfl⟩
 ·have e : ((pkN x n : Nat) : Int) = x.tmod n := by unfold pkN; rw [if_neg hneg]; omega
  have HE := hid e
  clear e
  go_enter Tryz.func14, Tryz.ntmps14
  go_wp2
  go_ret
  exact ⟨by rw [HE.out]; rfl, rfl⟩
end Go.Proofs.YtdohmokhfajjpaaGreatDoor

/- The chapter's journal, reckoned. -/
namespace Go.Proofs.YtdohmokhfajjpaaGreatDoor
open Go

/-- The mark null at a moment. -/
def mkN (t : Int) : Rc := ⟨[110, 117, 108, 108], t, true, 0, [], 0, 0, [], zeroD, [], []⟩
def oneJ : Jr := ⟨1, [mkN 5]⟩
theorem one_body : jBody oneJ = [83, 74, 49, 1, 1, 4, 110, 117, 108, 108, 5, 1] := by decide +kernel
theorem one_len : (jB dig oneJ).length = 44 := by
 unfold jB
 rw [List.length_append, dig_len, one_body]
 rfl
theorem zero_add : addJ ⟨0, []⟩ (mkN 1) = (0, some ⟨1, [mkN 1]⟩) := by decide +kernel
end Go.Proofs.YtdohmokhfajjpaaGreatDoor

/- awake: the chapter's examples. -/
namespace Go.Proofs.YtdohmokhfajjpaaGreatDoor
open Go Go.RowKit

/-- What is carried through awake. -/
structure Aw (w : World) (a0 a1 : Addr) (W : World) : Prop where
 below : Below w.heap.size w W
 er : Ers W a0 a1
theorem Aw.on {w W W' : World} {a0 a1 : Addr} (h : Aw w a0 a1 W) (hb : Below W.heap.size W W') : Aw w a0 a1 W' := ⟨below_on h.below hb, h.er.below hb⟩
end Go.Proofs.YtdohmokhfajjpaaGreatDoor

/- JournalKnown. -/
namespace Go.Proofs.YtdohmokhfajjpaaGreatDoor
open Go Go.RowKit

/-- What is carried: journals in variables, bytes of the call's own. -/
structure Kn (w : World) (js : List (Nat × Int × Value)) (bs : List (Value × List Nat)) (W : World) : Prop where
 below : Below w.heap.size w W
 cj : ∀ q ∈ js, CAt W q.1 (jC q.2.1 q.2.2) 70
 cb : ∀ q ∈ bs, Buf w.heap.size W q.1 q.2
theorem Kn.on {w W W' : World} {js : List (Nat × Int × Value)} {bs : List (Value × List Nat)} (h : Kn w js bs W) (hb : Below W.heap.size W W') : Kn w js bs W' := ⟨below_on h.below hb, fun q hq => (h.cj q hq).below hb, fun q hq => (h.cb q hq).below hb⟩
theorem Kn.addJ {w W : World} {js : List (Nat × Int × Value)} {bs : List (Value × List Nat)} (h : Kn w js bs W) {g : Nat} {s : Int} {v : Value} (hc : CAt W g (jC s v) 70) : Kn w ((g, s, v) :: js) bs W := ⟨h.below, fun q hq => by rcases List.mem_cons.1 hq with rfl | hq; exact hc; exact h.cj q hq, h.cb⟩
theorem Buf.set {B : Nat} {w : World} {po : Option Addr} {n c : Nat} {L : List Nat} (h : Buf B w (.slice po n c) L) {i : Nat} (hi : i < L.length) (k : Nat) : ∃ g, po = some ⟨g, 0, none⟩ ∧ B ≤ g ∧ w.cell? ⟨g, i, none⟩ = some (u8 (L.getD i 0)) ∧ w.frozen? ⟨g, i, none⟩ = false ∧ Buf B (w.setCell ⟨g, i, none⟩ (u8 k)) (.slice po n c) (L.set i k) := by
 rcases h.2 with ⟨e, h0⟩ | ⟨g, cap, cur, e, hB, hg, h1, hm, h3, h4⟩
 ·omega
 cases e
 have hc : CAt w g cur 5 := hg
 refine ⟨g, rfl, hB, ?_, hc.free _, by simp, Or.inr ⟨g, c, _, by rw [List.length_set], hB, hc.set i (u8 k), by rw [List.length_set]; exact h1, hm, by simp; omega, ?_⟩⟩
 ·have := congrArg (·[i]?) h4
  simp [hi] at this
  rw [hc.cell, this]
  simp [u8, List.getD, List.getElem?_eq_getElem hi]
 ·rw [Array.toList_setIfInBounds, List.length_set, List.take_set, h4, List.map_set]
end Go.Proofs.YtdohmokhfajjpaaGreatDoor

/- JournalBack: what is carried; early ends. -/
namespace Go.Proofs.YtdohmokhfajjpaaGreatDoor
open Go Go.RowKit

/-- Two journals in boxes. -/
structure Bk (w : World) (ga gc : Nat) (sa sc : Int) (va vc : Value) (W : World) : Prop where
 below : Below w.heap.size w W
 ca : CAt W ga (jC sa va) 70
 cc : CAt W gc (jC sc vc) 70
theorem Bk.on {w W W' : World} {ga gc : Nat} {sa sc : Int} {va vc : Value} (h : Bk w ga gc sa sc va vc W) (hb : Below W.heap.size W W') : Bk w ga gc sa sc va vc W' := ⟨below_on h.below hb, h.ca.below hb, h.cc.below hb⟩
theorem Buf.room {B : Nat} {w : World} {n c : Nat} {L : List Nat} (h : Buf B w (.slice none n c) L) : c = 0 := by
 rcases h.2 with ⟨e, h0⟩ | ⟨g, cap, cur, e, _⟩
 ·cases e; rfl
 ·cases e
theorem IsJ.form {w : World} {v : Value} {l : List Rp} (h : IsJ w v l) : ∃ p n c, v = .slice p n c := by obtain ⟨p, c, e, _⟩ := h; exact ⟨p, _, c, e⟩
end Go.Proofs.YtdohmokhfajjpaaGreatDoor

/- Formats in memory: made, stored, loaded, answered. -/
namespace Go.Proofs.YtdohmokhfajjpaaGreatDoor
open Go Go.RowKit

abbrev zF : FmV := ⟨0, 0, 0, 0, 0⟩
theorem sizeF : (Tryz.prog.info? 74).map (·.size) = some 5 := by kernel_rfl
theorem zeroF : (Tryz.prog.info? 74).map (·.zero) = some (some (.agg zF.cs)) := by kernel_rfl
theorem underF : Tryz.prog.underlying 74 = some (.struct (Tryz.prog.fieldsOf 74)) := by kernel_rfl
theorem builtZF : Tryz.prog.built 74 [] = some zF.cs := by kernel_rfl
theorem fm_size (f : FmV) : f.cs.size = 5 := rfl
theorem wpList_allocF {ops : Array Oper} {rest : List Oper} {o : Oper} {a : Act} {w : World} {Q : Exit → Act → World → Prop} (hg : o.guard = none) (ho : o.op = .alloc 74)
  (h : ∀ w1 g, CAt w1 g zF.cs 74 → Below w.heap.size w w1 → w.heap.size = g → wpList Tryz.prog ops Q rest (a.put o.dst (ptr g)) w1) : wpList Tryz.prog ops Q (o :: rest) a w := by
 refine wpList_plain hg fun _ hK => ?_
 obtain ⟨i, hq, hz'⟩ := Option.map_eq_some_iff.1 zeroF
 unfold Oper.wp execOp
 simp only [ho, Instr.alloc, zeroValue, typeInfo, Sem.run_bind, newVar, newRow]
 generalize FmV.cs zF = C at h hz'
 simp [hq, hz', Value.cells]
 exact hK _ _ (h _ _ (CAt.made _ _ _) (below_al _ _) rfl)
theorem run_storeF {w : World} {g : Nat} {f0 f : FmV} (hb : CAt w g f0.cs 74) : (Instr.storeAt 74 (.pointer (some ⟨g, 0, none⟩)) (.agg f.cs)).run Tryz.prog w = .ok () (w.setRow g f.cs) ∧ CAt (w.setRow g f.cs) g f.cs 74 := by
 have e := run_storeVar_row (P := Tryz.prog) w g 74 74 f0.cs f.cs hb (by rw [fm_size]; exact sizeF) rfl (by simp [FmV.cs, Value.oneCell'])
 refine ⟨?_, setRow_heap w g f0.cs f.cs _ _ hb⟩
 simp only [Instr.storeAt, Instr.sureAddr, Sem.run_bind, Sem.run_pure, Result.andThen_ok, e]
theorem wpList_storeF {ops : Array Oper} {rest : List Oper} {o : Oper} {a : Act} {w : World} {Q : Exit → Act → World → Prop} (hg : o.guard = none) (hdst : o.dst = none) (x y : Operand) (ho : o.op = .store 74 x y) (g : Nat) (hx : a.eval x = ptr g) {f0 f : FmV} (hy : a.eval y = .agg f.cs) (hb : CAt w g f0.cs 74)
  (h : ∀ w1, CAt w1 g f.cs 74 → Only (fun b => b = g) w w1 → wpList Tryz.prog ops Q rest a w1) : wpList Tryz.prog ops Q (o :: rest) a w := by
 refine wpList_plain hg fun _ hK => ?_
 obtain ⟨e1, e2⟩ := run_storeF (f := f) hb
 unfold Oper.wp execOp
 simp only [ho, hx, hy, ptr, Sem.run_bind, e1, Result.andThen_ok, Sem.run_pure]
 refine hK (a.put o.dst undef) _ ?_
 rw [hdst]
 exact h _ e2 (only_setRow _ _ _ rfl)
theorem ret_rowF2 {fn : Func} {q u : Tmp} (h : fn.results = #[.cell q 74, .tmp u]) {R : Ending → World → Prop} {a : Act} {w : World} (g : Nat) {f : FmV} {x : Value}
  (hd0 : a.defers = []) (hp : a.tmps.getD q undef = .pointer (some ⟨g, 0, none⟩)) (hx : a.tmps.getD u undef = x) (hb : CAt w g f.cs 74) (hR : R (.returned (.tuple #[.agg f.cs, x])) w) : bodyPost Tryz.prog fn R .ret a w := by
 refine ⟨hd0, .tuple #[.agg f.cs, x], ?_, hR⟩
 have hl := run_loadVar_row (P := Tryz.prog) w g 74 74 f.cs (0, 0) _ hb underF rfl (by rw [fm_size]; exact sizeF)
 simp only [results, h]
 simp only [Array.getD_eq_getD_getElem?] at hp hx
 simp [Result.andThen, hp, hx, asAddr, hl]
theorem wpList_loadF {ops : Array Oper} {rest : List Oper} {o : Oper} {a : Act} {w : World} {Q : Exit → Act → World → Prop} (hg : o.guard = none) (x : Operand) (ho : o.op = .load 74 x) (g : Nat) (hx : a.eval x = ptr g) {f : FmV} (hb : CAt w g f.cs 74)
  (h : wpList Tryz.prog ops Q rest (a.put o.dst (.agg f.cs)) w) : wpList Tryz.prog ops Q (o :: rest) a w :=
 wpList_load_at 74 x ho (by simp [Region.wanted, hg]) g 0 hx f.cs _ (fun j v hj => by rw [Nat.zero_add, hb.cell]; exact hj) underF rfl (by rw [fm_size]; exact sizeF) h
theorem BL.c8 {W : World} {b o i : Nat} {L : List Nat} (h : BL W (some ⟨b, o, none⟩) L) (hi : i < L.length) : W.cell? ⟨b, o + i, none⟩ = some (u8 (L.getD i 0)) := by
 rcases h with h | ⟨b', o', e, h⟩
 ·rw [h] at hi; cases hi
 ·cases e; exact h i hi
end Go.Proofs.YtdohmokhfajjpaaGreatDoor

/- The document's Read of a format, for all bytes. -/
namespace Go.Proofs.YtdohmokhfajjpaaGreatDoor
open Go Go.RowKit

/-- What Read answers, the program's and the document's. -/
def RdFm (w : World) (L : List Nat) (e : Ending) (w' : World) : Prop := e = .returned (.tuple #[.agg (rdFv L).cs, .int .i64 (rdFe L : Int)]) ∧ Below w.heap.size w w'
end Go.Proofs.YtdohmokhfajjpaaGreatDoor

/- The document's All: lists of formats in memory. -/
namespace Go.Proofs.YtdohmokhfajjpaaGreatDoor
open Go Go.RowKit

def flR (L : List FmV) : List (List Value) := L.map fun f => f.cs.toList
theorem flR_len (L : List FmV) : (flR L).length = L.length := by simp [flR]
theorem flR_five (L : List FmV) : ∀ r ∈ flR L, r.length = 5 := fun r hr => by obtain ⟨f, _, rfl⟩ := List.mem_map.1 hr; rfl
/-- Formats in a row of their own. -/
def FmL (B : Nat) (w : World) (v : Value) (L : List FmV) : Prop := XB 74 5 B w v (flR L)
theorem FmL.nil (B : Nat) (w : World) : FmL B w (.slice none 0 0) [] := XB.nil _ _ _ _
theorem FmL.form {B : Nat} {w : World} {v : Value} {L : List FmV} (h : FmL B w v L) : ∃ po c, v = .slice po L.length c ∧ L.length ≤ c ∧ (po = none → c = 0) := by
 have := XB.form h
 rwa [flR_len] at this
theorem FmL.below {B : Nat} {w w' : World} {v : Value} {L : List FmV} (h : FmL B w v L) (hb : Below w.heap.size w w') : FmL B w' v L := XB.below h hb
/-- Format i's cells. -/
theorem FmL.at {B : Nat} {w : World} {v : Value} {L : List FmV} (h : FmL B w v L) {i : Nat} (hi : i < L.length) : ∃ g c, v = .slice (some ⟨g, 0, none⟩) L.length c ∧ ∀ j u, (L.getD i default).cs[j]? = some u → w.cell? ⟨g, i * 5 + j, none⟩ = some u := by
 obtain ⟨g, c, e, _, hc⟩ := XB.cells h (flR_five L) (by rw [flR_len]; omega)
 rw [flR_len] at e
 refine ⟨g, c, e, fun j u hj => ?_⟩
 have h1 : (flR L)[i]? = some (L.getD i default).cs.toList := by
  unfold flR
  rw [List.getElem?_map, List.getElem?_eq_getElem hi]
  simp [List.getD, hi]
 have := hc.2.2 i _ h1 j u (by simpa using hj)
 rwa [show 0 + i * 5 + j = i * 5 + j by omega] at this
end Go.Proofs.YtdohmokhfajjpaaGreatDoor

/- Bytes all of whose room may be written over; bytes.Clone and Part of package shard tell such. (Part is written by tools/gen_Zzd.py.) -/
namespace Go.Proofs.YtdohmokhfajjpaaGreatDoor
open Go Go.RowKit

/-- A byte's value. -/
def Q11 (u : Value) : Prop := ∃ k : Nat, u = .int .u8 (k : Int) ∧ k < 256
/-- Bytes in a block from B on, all of whose cells are bytes. -/
def OvS (B : Nat) (w : World) (v : Value) : Prop := v = .slice none 0 0 ∨ ∃ (g n : Nat) (cs : Array Value), v = .slice (some ⟨g, 0, none⟩) n cs.size ∧ B ≤ g ∧ cs.size ≤ maxLen ∧ CAt w g cs 5 ∧ ∀ u ∈ cs.toList, Q11 u
theorem OvS.nil (B : Nat) (w : World) : OvS B w (.slice none 0 0) := .inl rfl
theorem OvS.base {B C : Nat} {w : World} {v : Value} (h : OvS B w v) (hC : C ≤ B) : OvS C w v := by
 rcases h with h | ⟨g, n, cs, h1, h2, h3⟩
 ·exact .inl h
 ·exact .inr ⟨g, n, cs, h1, by omega, h3⟩
theorem OvS.only {B : Nat} {w w' : World} {v : Value} {S : Nat → Prop} (h : OvS B w v) (ho : Only S w w') (hS : ∀ i, S i → i < B) : OvS B w' v := by
 rcases h with h | ⟨g, n, cs, h1, h2, h3, h4, h5⟩
 ·exact .inl h
 ·exact .inr ⟨g, n, cs, h1, h2, h3, h4.keep (ho.block g h4.lt fun k => by have := hS _ k; omega), h5⟩
theorem OvS.below {B : Nat} {w w' : World} {v : Value} (h : OvS B w v) (hb : Below w.heap.size w w') : OvS B w' v := by
 rcases h with h | ⟨g, n, cs, h1, h2, h3, h4, h5⟩
 ·exact .inl h
 ·exact .inr ⟨g, n, cs, h1, h2, h3, h4.below hb, h5⟩
end Go.Proofs.YtdohmokhfajjpaaGreatDoor

/- What is asked of package format (its contracts, as a premise); the statements' awake over them. (Written by tools/gen_Fj14.py.) -/
namespace Go.Proofs.YtdohmokhfajjpaaGreatDoor
open Go Go.RowKit

def inI (k : Int) : Prop := -9223372036854775808 ≤ k ∧ k ≤ 9223372036854775807
def FmV.wf (f : FmV) : Prop := inI f.k ∧ inI f.m ∧ inI f.s ∧ inI f.t ∧ inI f.d
/-- A format lies there. -/
def FmAt (W : World) (g off : Nat) (f : FmV) : Prop := ∀ j u, f.cs[j]? = some u → W.cell? ⟨g, off + j, none⟩ = some u
theorem FmAt.lt {W : World} {g off : Nat} {f : FmV} (h : FmAt W g off f) : g < W.heap.size := cell_lt' (a := ⟨g, off + 0, none⟩) (by rw [h 0 _ rfl]; simp)
theorem FmAt.below {W W' : World} {g off : Nat} {f : FmV} (h : FmAt W g off f) (hb : Below W.heap.size W W') : FmAt W' g off f := fun j u hu => (World.cell?_of_block (a := ⟨g, off + j, none⟩) (hb.block g h.lt)).trans (h j u hu)
theorem FmAt.only {W W' : World} {g q off : Nat} {f : FmV} (h : FmAt W g off f) (ho : Only (fun b => b = q) W W') (hq : g ≠ q) : FmAt W' g off f := fun j u hu => (World.cell?_of_block (a := ⟨g, off + j, none⟩) (ho.block g h.lt hq)).trans (h j u hu)
abbrev f5 : FmV := ⟨2, 1, 2, 1, 2⟩
end Go.Proofs.YtdohmokhfajjpaaGreatDoor

/- Package format: mayBe, below, Check. -/
namespace Go.Proofs.YtdohmokhfajjpaaGreatDoor
open Go Go.RowKit

theorem okAl_iff (k m s : Int) : okAl k m s = decide (1 ≤ k ∧ 1 ≤ m ∧ k ≤ 16 - m ∧ 1 ≤ s ∧ s ≤ 4) := by
 unfold okAl okFm
 rw [decide_eq_decide]
 dsimp only
 omega
set_option linter.unusedVariables false in
set_option maxRecDepth 100000 in
set_option maxHeartbeats 4000000 in
theorem fmayBe_any (k m s : Int) (w : World) (hm : inI m) : Calls Tryz.prog 70 #[.int .i64 k, .int .i64 m, .int .i64 s] w fun e w' => e = .returned (.bool (okAl k m s)) ∧ w' = w := by
 rw [okAl_iff]
 unfold inI at hm
 by_cases c1 : 1 ≤ k
 ·by_cases c2 : 1 ≤ m
  ·have hw := IntWalk.i64_in (16 - m) ⟨by omega, by omega⟩
   by_cases c3 : k ≤ 16 - m
   ·by_cases c4 : 1 ≤ s
    ·by_cases c5 : s ≤ 4
     ·rw [decide_eq_true ⟨c1, c2, c3, c4, c5⟩]
      go_enter Tryz.func70, Tryz.ntmps70
      go_wp2
      go_ret
      exact ⟨rfl, rfl⟩
     ·rw [decide_eq_false (fun h => c5 h.2.2.2.2)]
      go_enter Tryz.func70, Tryz.ntmps70
      go_wp2
      go_ret
      exact ⟨rfl, rfl⟩
    ·rw [decide_eq_false (fun h => c4 h.2.2.2.1)]
     go_enter Tryz.func70, Tryz.ntmps70
     go_wp2
     go_ret
     exact ⟨rfl, rfl⟩
   ·rw [decide_eq_false (fun h => c3 h.2.2.1)]
    go_enter Tryz.func70, Tryz.ntmps70
    go_wp2
    go_ret
    exact ⟨rfl, rfl⟩
  ·rw [decide_eq_false (fun h => c2 h.2.1)]
   go_enter Tryz.func70, Tryz.ntmps70
   go_wp2
   go_ret
   exact ⟨rfl, rfl⟩
 ·rw [decide_eq_false (fun h => c1 h.1)]
  go_enter Tryz.func70, Tryz.ntmps70
  go_wp2
  go_ret
  exact ⟨rfl, rfl⟩
theorem below_fm (n c : Int) (w : World) : Calls Tryz.prog 71 #[.int .i64 n, .int .i64 c] w fun e w' => e = .returned (.bool (decide (0 ≤ n ∧ n < c))) ∧ w' = w := by
 by_cases c1 : 0 ≤ n
 ·by_cases c2 : n < c
  ·rw [decide_eq_true ⟨c1, c2⟩]
   go_enter Tryz.func71, Tryz.ntmps71
   go_wp2
   go_ret
   exact ⟨rfl, rfl⟩
  ·rw [decide_eq_false (fun h => c2 h.2)]
   go_enter Tryz.func71, Tryz.ntmps71
   go_wp2
   go_ret
   exact ⟨rfl, rfl⟩
 ·rw [decide_eq_false (fun h => c1 h.1)]
  go_enter Tryz.func71, Tryz.ntmps71
  go_wp2
  go_ret
  exact ⟨rfl, rfl⟩
theorem okFm_split (f : FmV) : okFm f = (okAl f.k f.m f.s && decide (0 ≤ f.t ∧ f.t < f.s) && decide (0 ≤ f.d ∧ f.d < f.k + f.m)) := by
 rw [okAl_iff]
 unfold okFm
 rw [← Bool.decide_and, ← Bool.decide_and, decide_eq_decide]
 omega
set_option linter.unusedVariables false in
set_option maxRecDepth 100000 in
set_option maxHeartbeats 4000000 in
theorem fcheck14_any (f : FmV) (w : World) (hf : f.wf) : Calls Tryz.prog 48 #[.agg f.cs] w fun e w' => e = .returned (.int .i64 (erFm f : Int)) ∧ Below w.heap.size w w' := by
 have hs := okFm_split f
 obtain ⟨k, m, s, t, d⟩ := f
 obtain ⟨_, hm, _⟩ := hf
 have HB : Hid (∀ o, Below w.heap.size w (w.alloc o)) := hid (fun o => (Below.refl _ _).alloc (Nat.le_refl _) o)
 have HMB := hid (fun W => fmayBe_any k m s W hm)
 have HBT := hid (fun W => below_fm t s W)
 have HBD := hid (fun W => below_fm d (k + m) W)
 dsimp only at hs
 unfold erFm
 rw [hs]
 clear hs hm
 unfold FmV.cs
 dsimp only
 cases hA : okAl k m s with
 | false =>
  rw [hA] at HMB
  rw [Bool.false_and, Bool.false_and, if_neg (by decide)]
  clear hA HBT HBD
  go_enter Tryz.func48, Tryz.ntmps48
  go_wp2_with (go_at_call 70; refine (HMB.out _).mono ?_; rintro e w' ⟨rfl, hw'⟩; have hw2 := hw'.symm; subst hw2)
  go_ret
  exact ⟨rfl, HB.out _⟩
 | true =>
  rw [hA] at HMB
  rw [Bool.true_and]
  have ho := okFm_of (f := ⟨k, m, s, 0, 0⟩) hA
  simp only at ho
  have hw := IntWalk.i64_in (k + m) ⟨by omega, by omega⟩
  clear hA ho
  generalize decide (0 ≤ t ∧ t < s) = bt at *
  generalize decide (0 ≤ d ∧ d < k + m) = bd at *
  cases bt with
  | false =>
   rw [Bool.false_and, if_neg (by decide)]
   go_enter Tryz.func48, Tryz.ntmps48
   go_wp2_with (first
    | (go_at_call 70; refine (HMB.out _).mono ?_; rintro e w' ⟨rfl, hw'⟩; have hw2 := hw'.symm; subst hw2)
    | (go_at_call 71; refine (HBT.out _).mono ?_; rintro e w' ⟨rfl, hw'⟩; have hw2 := hw'.symm; subst hw2))
   go_ret
   exact ⟨rfl, HB.out _⟩
  | true =>
   rw [Bool.true_and]
   have T1 : Hid True := hid trivial
   have T2 : Hid True := hid trivial
   cases bd with
   | false =>
    rw [if_neg (by decide)]
    go_enter Tryz.func48, Tryz.ntmps48
    go_wp2_with (first
     | (go_at_call 70; refine (HMB.out _).mono ?_; rintro e w' ⟨rfl, hw'⟩; have hw2 := hw'.symm; subst hw2)
     | (clear T1; go_at_call 71; refine (HBT.out _).mono ?_; rintro e w' ⟨rfl, hw'⟩; have hw2 := hw'.symm; subst hw2)
     | (clear T2; go_at_call 71; refine (HBD.out _).mono ?_; rintro e w' ⟨rfl, hw'⟩; have hw2 := hw'.symm; subst hw2))
    go_ret
    exact ⟨rfl, HB.out _⟩
   | true =>
    rw [if_pos rfl]
    go_enter Tryz.func48, Tryz.ntmps48
    go_wp2_with (first
     | (go_at_call 70; refine (HMB.out _).mono ?_; rintro e w' ⟨rfl, hw'⟩; have hw2 := hw'.symm; subst hw2)
     | (clear T1; go_at_call 71; refine (HBT.out _).mono ?_; rintro e w' ⟨rfl, hw'⟩; have hw2 := hw'.symm; subst hw2)
     | (clear T2; go_at_call 71; refine (HBD.out _).mono ?_; rintro e w' ⟨rfl, hw'⟩; have hw2 := hw'.symm; subst hw2))
    go_ret
    exact ⟨rfl, HB.out _⟩
end Go.Proofs.YtdohmokhfajjpaaGreatDoor
