/- Texts laid into one, cut to what is needed: the remark ahead of each part says what is proved there. -/
import Derived.Test.YtopibkoklagceaaGreatQag
import Derived.Laws.OwnMore
import Derived.Test.YtopibkoklagceaaGreatQab
import Derived.Deep.MidRow
import Derived.Deep.LoopGhost
import Derived.Shelf.Abstract
import Derived.Lib.SliceRun
import Derived.Laws.IdiomCopy
import Derived.Lib.AppendZerosOnto
import Derived.Lib.Overlaps
import Derived.Shelf.RegionOpenPlain
import Derived.Great.BuildSlice
import Derived.Test.YtopibkoklagceaaGreatQaa
import Derived.Laws.Rows
import Derived.Laws.CopyOwn
/- Records that came in. -/
namespace Go.Proofs.YtopibkoklagceaaGreat
open Go Go.RowKit

/-- What is told of a record that came in. -/
structure IsR (w : World) (r : Rv) : Prop where
 sl : r.sum.length = 32
 s8 : ∀ x ∈ r.sum, x < 256
 parts : ∃ (po : Option Addr) (c : Nat) (ps : Ps), r.pv = .slice po ps.length c ∧ ps.length ≤ c ∧ (ps = [] ∨ ∃ b o, po = some ⟨b, o, none⟩ ∧ PCells w b o ps)
set_option maxRecDepth 100000 in
theorem take1 {cs : List Value} {k : Nat} {v : Value} (h : (cs.drop k).take 1 = [v]) : cs.drop k = v :: cs.drop (k + 1) := by
 cases hd : cs.drop k with
 | nil => rw [hd] at h; cases h
 | cons a t =>
  rw [hd] at h
  have e : a = v := by simpa using h
  subst e
  have : cs.drop (k + 1) = t := by rw [← List.drop_drop, hd]; rfl
  rw [this]
section
variable {H : Type} {enc : TypeId × Value → H} {w : World} {held : Bool} {fuel : Nat}
set_option maxRecDepth 100000 in
theorem sum_read {cs : List Value} {x : DataW H × List MemPlace} (h : DataW.trod enc Tryz.prog w 0 (fun _ => true) held fuel 37 cs = some x) : ∃ l : List Nat, l.length = 32 ∧ (∀ z ∈ l, z < 256) ∧ cs = l.map u8 := by
 obtain ⟨xs, m, _, _, hcl, hxl, hf⟩ := DataW.trod_array Tryz.underlying37 h
 have h32 : cs.length = 32 := by rw [hcl]; kernel_rfl
 have k5 : Tryz.prog.cellsOf 5 = 1 := by kernel_rfl
 have each : ∀ i, i < 32 → ∃ z : Nat, z < 256 ∧ cs[i]? = some (u8 z) := fun i hi => by
  have h1 := hf i hi
  rw [k5, Nat.mul_one, List.getElem?_eq_getElem (by omega)] at h1
  obtain ⟨z, e, _, wz⟩ := DataW.trod_int Tryz.underlying5 h1
  have hb := bounds8 wz
  refine ⟨z.toNat, by omega, ?_⟩
  have e2 := congrArg (·[0]?) e
  simp only [List.getElem?_take, List.getElem?_drop] at e2
  simp at e2
  rw [e2]; unfold u8; rw [Int.toNat_of_nonneg hb.1]
 refine ⟨(List.range 32).map fun i => if h : i < 32 then (each i h).choose else 0, by simp, fun z hz => ?_, ?_⟩
 ·obtain ⟨i, hi, rfl⟩ := List.mem_map.1 hz
  have hi' : i < 32 := by simpa using hi
  simp only [hi', dite_true]
  exact (each i hi').choose_spec.1
 ·apply List.ext_getElem?
  intro i
  by_cases hi : i < 32
  ·rw [(each i hi).choose_spec.2]
   simp [hi]
  ·rw [List.getElem?_eq_none (by omega), List.getElem?_eq_none (by simp; omega)]
set_option maxRecDepth 100000 in
theorem part_read {cs : List Value} {x : DataW H × List MemPlace} (h : DataW.trod enc Tryz.prog w 0 (fun _ => true) held fuel 69 cs = some x) : ∃ a b : Int, cs = [i64 a, i64 b] := by
 obtain ⟨xs, n, _, _, hcl, hxl, hf⟩ := DataW.trod_struct Tryz.underlying69 h
 have h2 : cs.length = 2 := by rw [hcl]; kernel_rfl
 have hx2 : xs.length = 2 := by rw [hxl]; rfl
 have k3 : Tryz.prog.cellsOf 3 = 1 := by kernel_rfl
 match cs, h2, xs, hx2 with
 | [c0, c1], _, [y0, y1], _ =>
  have f0 : DataW.trod enc Tryz.prog w 0 (fun _ => true) held n 3 (([c0, c1].drop 0).take (Tryz.prog.cellsOf 3)) = some y0 := hf 0 _ rfl
  rw [k3] at f0
  have f1 : DataW.trod enc Tryz.prog w 0 (fun _ => true) held n 3 (([c0, c1].drop 1).take (Tryz.prog.cellsOf 3)) = some y1 := hf 1 _ rfl
  rw [k3] at f1
  obtain ⟨z0, e0, _, _⟩ := DataW.trod_int Tryz.underlying3 f0
  obtain ⟨z1, e1, _, _⟩ := DataW.trod_int Tryz.underlying3 f1
  simp at e0 e1
  subst e0 e1
  exact ⟨z0, z1, rfl⟩
set_option maxRecDepth 100000 in
theorem parts_read {cs : List Value} {x : DataW H × List MemPlace} (h : DataW.trod enc Tryz.prog w 0 (fun _ => true) held fuel 38 cs = some x) :
  ∃ (po : Option Addr) (c : Nat) (ps : Ps), cs = [.slice po ps.length c] ∧ ps.length ≤ c ∧ (ps = [] ∨ ∃ b o, po = some ⟨b, o, none⟩ ∧ PCells w b o ps) := by
 have k2 : Tryz.prog.cellsOf 69 = 2 := by kernel_rfl
 rcases DataW.trod_slice Tryz.underlying38 h with ⟨hcs, _⟩ | ⟨ad, l, c, elems, rest, n, _, hcs, _, _, hl, _, hlen, hel, _, _⟩
 ·exact ⟨none, 0, [], hcs, Nat.le_refl _, Or.inl rfl⟩
 ·rw [k2] at hel
  have each : ∀ i, i < l → ∃ a b : Int, w.cell? ((ad.add (i * 2)).add 0) = some (i64 a) ∧ w.cell? ((ad.add (i * 2)).add 1) = some (i64 b) := fun i hi => by
   have h1 := hel i hi
   rw [List.getElem?_eq_getElem (by omega)] at h1
   obtain ⟨ds, hc1, hc2⟩ := Option.bind_eq_some_iff.1 h1
   obtain ⟨a, b, rfl⟩ := part_read hc2
   obtain ⟨_, _, hcell⟩ := World.cells?_some hc1
   exact ⟨a, b, by rw [hcell 0 (by decide)]; rfl, by rw [hcell 1 (by decide)]; rfl⟩
  by_cases h0 : l = 0
  ·subst h0; exact ⟨some ad, c, [], hcs, hl, Or.inl rfl⟩
  obtain ⟨a0, b0, h00, _⟩ := each 0 (by omega)
  rw [Nat.zero_mul, add_zero', add_zero'] at h00
  obtain ⟨b, o, rfl⟩ := plain_at ad w (by rw [h00]; simp)
  have each2 : ∀ i, i < l → ∃ q : Int × Int, w.cell? ⟨b, o + i * 2, none⟩ = some (i64 q.1) ∧ w.cell? ⟨b, o + i * 2 + 1, none⟩ = some (i64 q.2) := fun i hi => by
   obtain ⟨u, v, h1, h2⟩ := each i hi
   rw [add_none, add_none] at h1 h2
   exact ⟨(u, v), h1, h2⟩
  clear each
  refine ⟨_, c, (List.range l).map fun i => if h : i < l then (each2 i h).choose else (0, 0), by rw [hcs]; simp, by simpa using hl, Or.inr ⟨b, o, rfl, fun i hi => ?_⟩⟩
  have hi' : i < l := by simpa using hi
  have e := (each2 i hi').choose_spec
  have eg : ((List.range l).map fun i => if h : i < l then (each2 i h).choose else (0, 0)).getD i (0, 0) = (each2 i hi').choose := by simp [List.getD, hi']
  rw [eg]
  exact e
set_option maxRecDepth 100000 in
theorem rec_read {cs : List Value} {x : DataW H × List MemPlace} (h : DataW.trod enc Tryz.prog w 0 (fun _ => true) held fuel 40 cs = some x) : ∃ r : Rv, IsR w r ∧ cs = r.cs.toList := by
 obtain ⟨xs, n, _, _, hcl, hxl, hf⟩ := DataW.trod_struct Tryz.underlying40 h
 have h42 : cs.length = 42 := by rw [hcl]; kernel_rfl
 have hx : xs.length = 11 := by rw [hxl]; rfl
 have k3 : Tryz.prog.cellsOf 3 = 1 := by kernel_rfl
 have k9 : Tryz.prog.cellsOf 9 = 1 := by kernel_rfl
 have k4 : Tryz.prog.cellsOf 4 = 1 := by kernel_rfl
 have kD : Tryz.prog.cellsOf 37 = 32 := by kernel_rfl
 have kP : Tryz.prog.cellsOf 38 = 1 := by kernel_rfl
 match xs, hx with
 | [y0, y1, y2, y3, y4, y5, y6, y7, y8, y9, y10], _ =>
  have f0 : DataW.trod enc Tryz.prog w 0 (fun _ => true) held n 9 ((cs.drop 0).take (Tryz.prog.cellsOf 9)) = some y0 := hf 0 _ rfl
  have f1 : DataW.trod enc Tryz.prog w 0 (fun _ => true) held n 3 ((cs.drop 1).take (Tryz.prog.cellsOf 3)) = some y1 := hf 1 _ rfl
  have f2 : DataW.trod enc Tryz.prog w 0 (fun _ => true) held n 4 ((cs.drop 2).take (Tryz.prog.cellsOf 4)) = some y2 := hf 2 _ rfl
  have f3 : DataW.trod enc Tryz.prog w 0 (fun _ => true) held n 3 ((cs.drop 3).take (Tryz.prog.cellsOf 3)) = some y3 := hf 3 _ rfl
  have f4 : DataW.trod enc Tryz.prog w 0 (fun _ => true) held n 9 ((cs.drop 4).take (Tryz.prog.cellsOf 9)) = some y4 := hf 4 _ rfl
  have f5 : DataW.trod enc Tryz.prog w 0 (fun _ => true) held n 3 ((cs.drop 5).take (Tryz.prog.cellsOf 3)) = some y5 := hf 5 _ rfl
  have f6 : DataW.trod enc Tryz.prog w 0 (fun _ => true) held n 3 ((cs.drop 6).take (Tryz.prog.cellsOf 3)) = some y6 := hf 6 _ rfl
  have f7 : DataW.trod enc Tryz.prog w 0 (fun _ => true) held n 9 ((cs.drop 7).take (Tryz.prog.cellsOf 9)) = some y7 := hf 7 _ rfl
  have f8 : DataW.trod enc Tryz.prog w 0 (fun _ => true) held n 37 ((cs.drop 8).take (Tryz.prog.cellsOf 37)) = some y8 := hf 8 _ rfl
  have f9 : DataW.trod enc Tryz.prog w 0 (fun _ => true) held n 38 ((cs.drop 40).take (Tryz.prog.cellsOf 38)) = some y9 := hf 9 _ rfl
  have f10 : DataW.trod enc Tryz.prog w 0 (fun _ => true) held n 9 ((cs.drop 41).take (Tryz.prog.cellsOf 9)) = some y10 := hf 10 _ rfl
  rw [k9] at f0 f4 f7 f10
  rw [k3] at f1 f3 f5 f6
  rw [k4] at f2
  rw [kD] at f8
  rw [kP] at f9
  obtain ⟨s0, e0, _, _⟩ := DataW.trod_string Tryz.underlying9 f0
  obtain ⟨z1, e1, _, _⟩ := DataW.trod_int Tryz.underlying3 f1
  obtain ⟨b2, e2, _⟩ := DataW.trod_bool Tryz.underlying4 f2
  obtain ⟨z3, e3, _, _⟩ := DataW.trod_int Tryz.underlying3 f3
  obtain ⟨s4, e4, _, _⟩ := DataW.trod_string Tryz.underlying9 f4
  obtain ⟨z5, e5, _, _⟩ := DataW.trod_int Tryz.underlying3 f5
  obtain ⟨z6, e6, _, _⟩ := DataW.trod_int Tryz.underlying3 f6
  obtain ⟨s7, e7, _, _⟩ := DataW.trod_string Tryz.underlying9 f7
  obtain ⟨l8, hl8, h8, e8⟩ := sum_read f8
  obtain ⟨po, c, ps, e9, hc, hp⟩ := parts_read f9
  obtain ⟨s10, e10, _, _⟩ := DataW.trod_string Tryz.underlying9 f10
  refine ⟨⟨s0, z1, b2, z3, s4, z5, z6, s7, l8, .slice po ps.length c, s10⟩, ⟨hl8, h8, po, c, ps, rfl, hc, hp⟩, ?_⟩
  have d8 : cs.drop 8 = l8.map u8 ++ cs.drop 40 := by
   have := (List.take_append_drop 32 (cs.drop 8)).symm
   rw [e8, List.drop_drop] at this
   exact this
  have d42 : cs.drop 42 = [] := List.drop_of_length_le (by omega)
  rw [Rv.toL]
  have := take1 e0
  rw [List.drop_zero] at this
  rw [this, take1 e1, take1 e2, take1 e3, take1 e4, take1 e5, take1 e6, take1 e7, d8, take1 e9, take1 e10, d42]
  rfl
end
end Go.Proofs.YtopibkoklagceaaGreat

/- Parts appended to parts; fresh for parts. -/
namespace Go.Proofs.YtopibkoklagceaaGreat
open Go Go.RowKit

theorem flatP_app (ps qs : Ps) : flatP (ps ++ qs) = flatP ps ++ flatP qs := by simp [flatP]
theorem PBuf.app {B : Nat} {w : World} {v : Value} {ps : Ps} (hv : PBuf B w v ps) (po : Option Addr) (c : Nat) (qs : Ps) (hq : PL w (.slice po qs.length c) qs) (hc : po = none → c = 0) (hn : ps.length + qs.length ≤ 1000000) (hB : B ≤ w.heap.size) :
  ∃ v' w', (Builtin.append_ #[38, 38] 38 #[v, .slice po qs.length c]).run Tryz.prog w = .ok v' w' ∧ PBuf B w' v' (ps ++ qs) ∧ w.grownBy w' v.ownBlock := by
 obtain ⟨i0, hi0, hz0, hz1, hz2⟩ := info_parts Tryz.infoP
 obtain ⟨po', c', he, _, _, h⟩ := hq
 cases he
 cases po with
 | none =>
  have : qs = [] := by
   rcases h with h | ⟨b, o, h, _⟩
   ·exact h
   ·cases h
  subst this
  obtain rfl := hc rfl
  refine ⟨v, w, run_append_owned_none (P := Tryz.prog) (w := w) B 38 38 69 i0 2 Tryz.underlying38 hi0 v _ _ hv, by simpa using hv, ⟨rfl, rfl, rfl, Nat.le_refl _, fun _ _ _ => rfl⟩⟩
 | some a =>
  obtain ⟨v', w', hr, h3, h4, _, _⟩ := run_append_own_at (P := Tryz.prog) w B 38 38 69 i0 _ 2 16 Tryz.underlying38 hi0 hz0 hz1 hz2 rfl (by decide) v ps.length (flatP ps) hv a qs.length c (flatP qs) (flatP_len qs) (fun j u hj => by
   rcases h with h | ⟨b, o, e2, h⟩
   ·subst h; simp [flatP] at hj
   ·cases e2
    have hjl : j < qs.length * 2 := by
     rcases Nat.lt_or_ge j (qs.length * 2) with q | q
     ·exact q
     ·rw [List.getElem?_eq_none (by rw [flatP_len]; exact q)] at hj; cases hj
    have hi : j / 2 < qs.length := by omega
    obtain ⟨a1, a2⟩ := flatP_get qs (j / 2) hi
    obtain ⟨c1, c2⟩ := h (j / 2) hi
    rw [add_none]
    rcases Nat.mod_two_eq_zero_or_one j with hm | hm
    ·have ej : j = j / 2 * 2 := by omega
     rw [ej] at hj ⊢
     rw [a1] at hj; rw [c1]; exact hj
    ·have ej : j = j / 2 * 2 + 1 := by omega
     rw [ej] at hj ⊢
     rw [a2] at hj
     rw [show o + (j / 2 * 2 + 1) = o + j / 2 * 2 + 1 by omega, c2]; exact hj) (by
   intro u hu
   unfold flatP at hu
   simp at hu
   obtain ⟨_, _, _, h⟩ := hu
   rcases h with rfl | rfl <;> rfl) (by unfold maxLen; omega) (by omega) hB
  refine ⟨v', w', hr, ?_, h4⟩
  unfold PBuf
  rw [List.length_append, flatP_app]; exact h3
end Go.Proofs.YtopibkoklagceaaGreat

/- Lists of records in memory. -/
namespace Go.Proofs.YtopibkoklagceaaGreat
open Go Go.RowKit

/-- A record as a value, and its parts. -/
structure Rp where
 r : Rv
 ps : Ps
def Rp.rc (x : Rp) : Rc := x.r.rc x.ps
def rcs (l : List Rp) : List Rc := l.map Rp.rc
theorem rcs_len (l : List Rp) : (rcs l).length = l.length := by simp [rcs]
/-- A record whose parts lie in memory. -/
structure RpOk (w : World) (x : Rp) : Prop where
 ok : x.r.ok
 pl : PL w x.r.pv x.ps
 nil : ∀ n c, x.r.pv = .slice none n c → c = 0
theorem RpOk.keep {w w' : World} {x : Rp} (h : RpOk w x) (hk : ∀ a, w.cell? a ≠ none → w'.cell? a = w.cell? a) : RpOk w' x := ⟨h.ok, h.pl.keep hk, h.nil⟩
theorem RpOk.below {w w' : World} {x : Rp} (h : RpOk w x) (hb : Below w.heap.size w w') : RpOk w' x := ⟨h.ok, h.pl.below hb, h.nil⟩
theorem RpOk.form {w : World} {x : Rp} (h : RpOk w x) : ∃ po c, x.r.pv = .slice po x.ps.length c ∧ (po = none → c = 0) ∧ x.ps.length ≤ c ∧ x.ps.length ≤ 100000 := by
 obtain ⟨po, c, h1, h2, h3, _⟩ := h.pl
 exact ⟨po, c, h1, fun e => h.nil _ c (by rw [h1, e]), h2, h3⟩
/-- .. in no block below B; they may be written. -/
structure RpX (B : Nat) (w : World) (x : Rp) : Prop where
 ok : x.r.ok
 pl : PLF B w x.r.pv x.ps
theorem RpX.one {B : Nat} {w : World} {x : Rp} (h : RpX B w x) : RpOk w x := ⟨h.ok, h.pl.1, h.pl.2.2⟩
theorem RpX.only {B : Nat} {w w' : World} {x : Rp} {S : Nat → Prop} (h : RpX B w x) (hO : Only S w w') (hS : ∀ i, S i → i < B) : RpX B w' x := ⟨h.ok, h.pl.only hO hS⟩
theorem RpX.below {B : Nat} {w w' : World} {x : Rp} (h : RpX B w x) (hb : Below w.heap.size w w') : RpX B w' x := h.only (S := fun _ => False) (Only.of_below hb) (fun _ h => h.elim)
theorem RpX.base {B C : Nat} {w : World} {x : Rp} (h : RpX B w x) (hC : C ≤ B) : RpX C w x := ⟨h.ok, h.pl.base hC⟩
theorem sizeR42 {x : Rp} (h : x.r.ok) : x.r.cs.toList.length = 42 := by rw [Array.length_toList, h.size]

def flatR (l : List Rp) : List Value := l.flatMap fun x => x.r.cs.toList
theorem flatR_cons (x : Rp) (l : List Rp) : flatR (x :: l) = x.r.cs.toList ++ flatR l := rfl
theorem flatR_app (l m : List Rp) : flatR (l ++ m) = flatR l ++ flatR m := by simp [flatR]
theorem flatR_len : ∀ {l : List Rp}, (∀ x ∈ l, x.r.ok) → (flatR l).length = l.length * 42
 | [], _ => rfl
 | x :: l, h => by
  rw [flatR_cons, List.length_append, sizeR42 (h x (by simp)), flatR_len (l := l) (fun y hy => h y (by simp [hy])), List.length_cons]; omega
theorem flatR_get : ∀ {l : List Rp}, (∀ x ∈ l, x.r.ok) → ∀ {i : Nat} {x : Rp}, l[i]? = some x → ∀ {j : Nat}, j < 42 → (flatR l)[i * 42 + j]? = x.r.cs[j]?
 | [], _, i, x, e, j, _ => by simp at e
 | y :: l, h, 0, x, e, j, hj => by
  simp at e
  subst e
  rw [flatR_cons, Nat.zero_mul, Nat.zero_add, List.getElem?_append_left (by rw [sizeR42 (h y (by simp))]; exact hj), Array.getElem?_toList]
 | y :: l, h, i + 1, x, e, j, hj => by
  rw [flatR_cons, List.getElem?_append_right (by rw [sizeR42 (h y (by simp))]; omega), sizeR42 (h y (by simp)), show (i + 1) * 42 + j - 42 = i * 42 + j by omega]
  exact flatR_get (l := l) (fun z hz => h z (by simp [hz])) (by simpa using e) hj
theorem Rv.cs_one (r : Rv) (hp : r.pv.oneCell' = true) : ∀ v ∈ r.cs.toList, v.oneCell' = true := by
 intro v hv
 rw [Rv.toL] at hv
 simp only [List.mem_append, List.mem_cons, List.not_mem_nil, or_false, List.mem_map] at hv
 rcases hv with (rfl | rfl | rfl | rfl | rfl | rfl | rfl | rfl) | ⟨_, _, rfl⟩ | rfl | rfl <;> first | rfl | exact hp
theorem RpOk.one {w : World} {x : Rp} (h : RpOk w x) : ∀ v ∈ x.r.cs.toList, v.oneCell' = true := by
 obtain ⟨po, c, e, _⟩ := h.form
 exact x.r.cs_one (by rw [e]; rfl)
/-- The cells of the records lie there, one behind the other. -/
def RCells (w : World) (b o : Nat) (l : List Rp) : Prop := ∀ i x, l[i]? = some x → ∀ j v, x.r.cs[j]? = some v → w.cell? ⟨b, o + i * 42 + j, none⟩ = some v
theorem RCells.range {w : World} {b o : Nat} {l : List Rp} (h : RCells w b o l) {i : Nat} {x : Rp} (e : l[i]? = some x) : w.rangeAt b (o + i * 42) x.r.cs.toList := fun j v hv => h i x e j v (by simpa using hv)
theorem RCells.keep {w w' : World} {b o : Nat} {l : List Rp} (h : RCells w b o l) (hk : ∀ a, w.cell? a ≠ none → w'.cell? a = w.cell? a) : RCells w' b o l := fun i x e j v hv => by
 have := h i x e j v hv
 rw [hk _ (by rw [this]; simp)]; exact this
/-- The slice v leads to the records l. -/
def RL (w : World) (v : Value) (l : List Rp) : Prop := ∃ po c, v = .slice po l.length c ∧ l.length ≤ c ∧ l.length ≤ 100000 ∧ (po = none → c = 0) ∧ (l = [] ∨ ∃ b o, po = some ⟨b, o, none⟩ ∧ RCells w b o l) ∧ ∀ x ∈ l, RpOk w x
theorem RL.each {w : World} {v : Value} {l : List Rp} (h : RL w v l) : ∀ x ∈ l, RpOk w x := by obtain ⟨_, _, _, _, _, _, _, h⟩ := h; exact h
theorem RL.ok {w : World} {v : Value} {l : List Rp} (h : RL w v l) : ∀ x ∈ l, x.r.ok := fun x hx => (h.each x hx).ok
theorem RL.keep {w w' : World} {v : Value} {l : List Rp} (h : RL w v l) (hk : ∀ a, w.cell? a ≠ none → w'.cell? a = w.cell? a) : RL w' v l := by
 obtain ⟨po, c, h1, h2, h3, h4, h5, h6⟩ := h
 refine ⟨po, c, h1, h2, h3, h4, ?_, fun x hx => (h6 x hx).keep hk⟩
 rcases h5 with h5 | ⟨b, o, e, h5⟩
 ·exact Or.inl h5
 ·exact Or.inr ⟨b, o, e, h5.keep hk⟩
theorem RL.below {w w' : World} {v : Value} {l : List Rp} (h : RL w v l) (hb : Below w.heap.size w w') : RL w' v l :=
 h.keep fun a ha => World.cell?_of_block (hb.block a.block (cell_lt' ha))
theorem RL.nil (w : World) : RL w (.slice none 0 0) [] := ⟨none, 0, rfl, Nat.le_refl _, by simp, fun _ => rfl, Or.inl rfl, fun x hx => by cases hx⟩
theorem RL.len {w : World} {v : Value} {l : List Rp} (h : RL w v l) : l.length ≤ 100000 := by obtain ⟨_, _, _, _, h, _⟩ := h; exact h
/-- Records in a row of their own. -/
def RBuf (B : Nat) (w : World) (v : Value) (l : List Rp) : Prop := w.ownsRow B 40 42 v l.length (flatR l)
theorem RBuf.nil (B : Nat) (w : World) : RBuf B w (.slice none 0 0) [] := World.ownsRow_nil w B _ 42
theorem RBuf.form {B : Nat} {w : World} {v : Value} {l : List Rp} (h : RBuf B w v l) : ∃ po c, v = .slice po l.length c ∧ l.length ≤ c ∧ (po = none → c = 0) := by
 rcases h.2 with ⟨rfl, h0⟩ | ⟨g, cap, cur, rfl, _, _, h1, _⟩
 ·exact ⟨none, 0, by rw [h0], by omega, fun _ => rfl⟩
 ·exact ⟨_, cap, rfl, h1, fun e => by cases e⟩
theorem RBuf.keep {B : Nat} {w w' : World} {v : Value} {l : List Rp} (h : RBuf B w v l) (hk : ∀ b, v.ownBlock = some b → w'.heap[b]? = w.heap[b]?) : RBuf B w' v l := ownsRow_keep h hk
theorem RBuf.below {B : Nat} {w w' : World} {v : Value} {l : List Rp} (h : RBuf B w v l) (hb : Below w.heap.size w w') : RBuf B w' v l := h.keep fun b hv => hb.block b (own_ge h b hv).2
theorem RBuf.base {B C : Nat} {w : World} {v : Value} {l : List Rp} (h : RBuf B w v l) (hC : C ≤ B) : RBuf C w v l := own_base h hC
/-- Records in memory of their own, their parts too. -/
structure Rs (B : Nat) (w : World) (v : Value) (l : List Rp) : Prop where
 buf : RBuf B w v l
 each : ∀ x ∈ l, RpX B w x
theorem Rs.nil (B : Nat) (w : World) : Rs B w (.slice none 0 0) [] := ⟨RBuf.nil B w, fun x hx => by cases hx⟩
theorem Rs.below {B : Nat} {w w' : World} {v : Value} {l : List Rp} (h : Rs B w v l) (hb : Below w.heap.size w w') : Rs B w' v l := ⟨h.buf.below hb, fun x hx => (h.each x hx).below hb⟩
theorem Rs.only {B : Nat} {w w' : World} {v : Value} {l : List Rp} {S : Nat → Prop} (h : Rs B w v l) (hO : Only S w w') (hS : ∀ i, S i → i < B) : Rs B w' v l :=
 ⟨h.buf.keep fun b hv => hO.block b (own_ge h.buf b hv).2 (fun k => by have := hS b k; have := (own_ge h.buf b hv).1; omega), fun x hx => (h.each x hx).only hO hS⟩
theorem Rs.base {B C : Nat} {w : World} {v : Value} {l : List Rp} (h : Rs B w v l) (hC : C ≤ B) : Rs C w v l := ⟨h.buf.base hC, fun x hx => (h.each x hx).base hC⟩
theorem setAll_splice {cs vs : List Value} {o : Nat} (h : o + vs.length ≤ cs.length) : setAll cs o vs = cs.take o ++ (vs ++ cs.drop (o + vs.length)) := by
 have e : cs = cs.take o ++ ((cs.drop o).take vs.length ++ cs.drop (o + vs.length)) := by
  rw [← List.drop_drop, List.take_append_drop, List.take_append_drop]
 have hl : (cs.take o).length = o := by rw [List.length_take]; omega
 have := setAll_app (cs.take o) vs ((cs.drop o).take vs.length) (cs.drop (o + vs.length)) (by rw [List.length_take, List.length_drop]; omega)
 rw [hl, ← e] at this
 exact this
theorem flatR_set {l : List Rp} (hk : ∀ x ∈ l, x.r.ok) {i : Nat} (hi : i < l.length) {y : Rp} : flatR (l.set i y) = (flatR l).take (i * 42) ++ (y.r.cs.toList ++ (flatR l).drop (i * 42 + 42)) := by
 have e : l = l.take i ++ l[i] :: l.drop (i + 1) := by rw [List.getElem_cons_drop, List.take_append_drop]
 have hl : (flatR (l.take i)).length = i * 42 := by
  rw [flatR_len (fun x hx => hk x (List.mem_of_mem_take hx)), List.length_take, Nat.min_eq_left (by omega)]
 have hl2 : (l[i].r.cs.toList).length = 42 := sizeR42 (hk _ (List.getElem_mem hi))
 have e2 : flatR l = flatR (l.take i) ++ (l[i].r.cs.toList ++ flatR (l.drop (i + 1))) := by
  conv => lhs; rw [e]
  rw [flatR_app, flatR_cons]
 have e3 : (flatR l).drop (i * 42 + 42) = flatR (l.drop (i + 1)) := by
  rw [e2, ← List.drop_drop, List.drop_left' hl, List.drop_left' hl2]
 rw [List.set_eq_take_append_cons_drop, if_pos hi, flatR_app, flatR_cons, e3, e2, List.take_left' hl]
/-- A record is stored at its place. -/
theorem RBuf.set {B : Nat} {w : World} {v : Value} {l : List Rp} (h : RBuf B w v l) (hk : ∀ x ∈ l, x.r.ok) {i : Nat} (hi : i < l.length) {y : Rp} (hy : y.r.ok) :
  ∃ g c, v = .slice (some ⟨g, 0, none⟩) l.length c ∧ B ≤ g ∧ w.there g (i * 42) 42 ∧ (∃ cs, CAt w g cs 40) ∧ RBuf B (w.setCells g (i * 42) y.r.cs.toList) v (l.set i y) ∧ Only (fun b => b = g) w (w.setCells g (i * 42) y.r.cs.toList) := by
 rcases h.2 with ⟨rfl, h0⟩ | ⟨g, cap, cur, rfl, hB, hg, h1, hm, h3, h4⟩
 ·omega
 have hc : CAt w g cur 40 := hg
 refine ⟨g, cap, rfl, hB, fun j hj => ⟨?_, hc.free _⟩, ⟨cur, hc⟩, ⟨?_, Or.inr ⟨g, cap, _, by rw [List.length_set], hB, CAt.setCells y.r.cs.toList (i * 42) cur w hc, by rw [List.length_set]; exact h1, hm, ?_, ?_⟩⟩, only_setCells _ _ _ _ rfl⟩
 ·rw [hc.cell, Array.getElem?_eq_getElem (by omega)]; rfl
 ·rw [flatR_len (fun x hx => ?_)]
  rcases List.mem_or_eq_of_mem_set hx with hx | rfl
  ·exact hk x hx
  ·exact hy
 ·have e := setAll_splice (cs := cur.toList) (vs := y.r.cs.toList) (o := i * 42) (by rw [sizeR42 hy, Array.length_toList]; omega)
  rw [List.size_toArray, e, List.length_append, List.length_append, List.length_take, List.length_drop, sizeR42 hy, Array.length_toList]; omega
 ·have e := setAll_splice (cs := cur.toList) (vs := y.r.cs.toList) (o := i * 42) (by rw [sizeR42 hy, Array.length_toList]; omega)
  rw [List.toList_toArray, e, sizeR42 hy, List.length_set, flatR_set hk hi, ← h4]
  have ha : (cur.toList.take (i * 42)).length = i * 42 := by rw [List.length_take, Array.length_toList]; omega
  rw [List.take_append, ha, List.take_append, sizeR42 hy, List.take_of_length_le (l := cur.toList.take (i * 42)) (by omega), List.take_of_length_le (l := y.r.cs.toList) (by rw [sizeR42 hy]; omega), List.take_take, Nat.min_eq_left (by omega), List.drop_take, show l.length * 42 - i * 42 - 42 = l.length * 42 - (i * 42 + 42) by omega]
end Go.Proofs.YtopibkoklagceaaGreat

/- journal.Check. -/
namespace Go.Proofs.YtopibkoklagceaaGreat
open Go Go.RowKit

/-- A record's own block, behind what was there. -/
structure Own1 (w : World) (g : Nat) (r : Rv) (W : World) : Prop where
 below : Below w.heap.size w W
 box : RBox W g r
theorem Own1.on {w W W' : World} {g : Nat} {r : Rv} (h : Own1 w g r W) (hr : r.ok) (hb : Below W.heap.size W W') : Own1 w g r W' := ⟨below_on h.below hb, h.box.below hr hb⟩
end Go.Proofs.YtopibkoklagceaaGreat

/- journal.Same, by slices.EqualFunc and record.Same. -/
namespace Go.Proofs.YtopibkoklagceaaGreat
open Go Go.RowKit

/-- What the range's variable needs of a list's record. -/
theorem RL.at {w W : World} {po : Option Addr} {c : Nat} {l : List Rp} (h : RL w (.slice po l.length c) l) (hb : Below w.heap.size w W) {k : Nat} (hk : k < l.length) :
  ∃ b o x, po = some ⟨b, o, none⟩ ∧ l[k]? = some x ∧ W.rangeAt b (o + k * 42) x.r.cs.toList ∧ RpOk W x ∧ x.r.pv.oneCell' = true := by
 obtain ⟨x, hx⟩ : ∃ x, l[k]? = some x := ⟨_, List.getElem?_eq_getElem hk⟩
 obtain ⟨po', c', e, _, _, _, hcell, heach⟩ := h.below hb
 cases e
 rcases hcell with h | ⟨b, o, e, hc⟩
 ·rw [h] at hk; cases hk
 ·have hr := heach x (List.mem_of_getElem? hx)
  refine ⟨b, o, x, e, hx, hc.range hx, hr, ?_⟩
  obtain ⟨p0, c0, e0, _⟩ := hr.pl
  rw [e0]; rfl
end Go.Proofs.YtopibkoklagceaaGreat

/- journal.Same and begins; slices.Clone of records; clone. -/
namespace Go.Proofs.YtopibkoklagceaaGreat
open Go Go.RowKit

theorem RBuf.made0 (w : World) (B : Nat) (hB : B ≤ w.heap.size) : RBuf B (w.alloc (.cells #[] 40)) (.slice (some ⟨w.heap.size, 0, none⟩) 0 0) [] := World.ownsRow_made w #[] 0 hB (by unfold maxLen; omega) (by simp)
end Go.Proofs.YtopibkoklagceaaGreat

/- journal.clone. -/
namespace Go.Proofs.YtopibkoklagceaaGreat
open Go Go.RowKit

theorem CAt.apart {w : World} {g h : Nat} {cs ds : Array Value} {t u : TypeId} (a : CAt w g cs t) (b : CAt w h ds u) (hne : t ≠ u) : g ≠ h := fun e => by
 subst e
 have := a.symm.trans b
 simp at this
 exact hne this.2
theorem PLF.other {B : Nat} {w w' : World} {v : Value} {ps : Ps} {g : Nat} {cs : Array Value} {t : TypeId} (ht : t ≠ 69) (h : PLF B w v ps) (hc : CAt w g cs t) (ho : Only (fun b => b = g) w w') : PLF B w' v ps := by
 obtain ⟨⟨po, c, h1, h2, h3, h⟩, hB, hz⟩ := h
 refine ⟨⟨po, c, h1, h2, h3, ?_⟩, fun a n c e hne => ?_, hz⟩
 ·rcases h with h | ⟨b, o, hp, h⟩
  ·exact Or.inl h
  ·refine Or.inr ⟨b, o, hp, fun i hi => ?_⟩
   obtain ⟨_, ds, hd⟩ := hB ⟨b, o, none⟩ _ _ (by rw [h1, hp]) (fun e => by rw [e] at hi; cases hi)
   have hk : w'.heap[b]? = w.heap[b]? := ho.block b hd.lt (fun e => hc.apart hd ht e.symm)
   exact ⟨(World.cell?_of_block (a := ⟨b, o + i * 2, none⟩) hk).trans (h i hi).1, (World.cell?_of_block (a := ⟨b, o + i * 2 + 1, none⟩) hk).trans (h i hi).2⟩
 ·obtain ⟨k1, ds, k2⟩ := hB a n c e hne
  exact ⟨k1, ds, k2.keep (ho.block a.block k2.lt fun e => hc.apart k2 ht e.symm)⟩
theorem RpX.other {B : Nat} {w w' : World} {x : Rp} {g : Nat} {cs : Array Value} (h : RpX B w x) (hc : CAt w g cs 40) (ho : Only (fun b => b = g) w w') : RpX B w' x := ⟨h.ok, h.pl.other (by decide) hc ho⟩
theorem RBuf.range {B : Nat} {w : World} {v : Value} {l : List Rp} (h : RBuf B w v l) (hk : ∀ x ∈ l, x.r.ok) {i : Nat} {x : Rp} (e : l[i]? = some x) :
  ∃ g c, v = .slice (some ⟨g, 0, none⟩) l.length c ∧ w.rangeAt g (i * 42) x.r.cs.toList := by
 rcases h.2 with ⟨rfl, h0⟩ | ⟨g, cap, cur, rfl, hB, hg, h1, hm, h3, h4⟩
 ·rw [List.eq_nil_of_length_eq_zero h0] at e; cases e
 refine ⟨g, cap, rfl, fun j v hv => ?_⟩
 have hc : CAt w g cur 40 := hg
 have hi := (List.getElem?_eq_some_iff.1 e).1
 have hj : j < 42 := by
  rcases Nat.lt_or_ge j 42 with q | q
  ·exact q
  ·rw [List.getElem?_eq_none (by rw [sizeR42 (hk x (List.mem_of_getElem? e))]; exact q)] at hv; cases hv
 rw [hc.cell]
 have := flatR_get hk e hj
 rw [← h4, List.getElem?_take, if_pos (by omega)] at this
 rw [Array.getElem?_toList] at this hv
 rw [this]; exact hv
/-- So many records have been copied. -/
structure CInv (w : World) (l : List Rp) (v : Value) (kk : Nat) (m : List Rp) (W : World) : Prop where
 len : m.length = l.length
 rc : rcs m = rcs l
 low : ∀ j x, j < kk → m[j]? = some x → RpX w.heap.size W x
 high : ∀ j, kk ≤ j → m[j]? = l[j]?
 buf : RBuf w.heap.size W v m
 below : Below w.heap.size w W
theorem CInv.ok {w W : World} {l m : List Rp} {v : Value} {kk : Nat} (h : CInv w l v kk m W) (hl : ∀ x ∈ l, x.r.ok) : ∀ x ∈ m, x.r.ok := fun x hx => by
 obtain ⟨j, hj, e⟩ := List.getElem_of_mem hx
 have e' : m[j]? = some x := by rw [List.getElem?_eq_getElem hj, e]
 by_cases hk : j < kk
 ·exact (h.low j x hk e').ok
 ·rw [h.high j (by omega)] at e'
  exact hl x (List.mem_of_getElem? e')
end Go.Proofs.YtopibkoklagceaaGreat

/- slices.DeleteFunc with has; without. -/
namespace Go.Proofs.YtopibkoklagceaaGreat
open Go Go.RowKit

/-- The records but the one of an ID. -/
def woutR (l : List Rp) (id : List Nat) : List Rp := l.filter fun x => decide (lst x.r.id ≠ id)
/-- So far: the first j have been looked at, i of them are kept. -/
structure DInv (B : Nat) (w : World) (l : List Rp) (v : Value) (s : ByteArray) (gf i j : Nat) (m : List Rp) (W : World) : Prop where
 len : m.length = l.length
 lt : i < j
 le : j ≤ l.length
 low : m.take i = woutR (l.take j) (lst s)
 high : ∀ k, j ≤ k → m[k]? = l[k]?
 each : ∀ x ∈ m, RpX B W x
 buf : RBuf B W v m
 below : Below B w W
 hf : CAt W gf #[.string s] 9
theorem woutR_succ {l : List Rp} {id : List Nat} {j : Nat} {x : Rp} (hx : l[j]? = some x) : woutR (l.take (j + 1)) id = woutR (l.take j) id ++ if lst x.r.id = id then [] else [x] := by
 have hj := (List.getElem?_eq_some_iff.1 hx).1
 have e : l[j] = x := (List.getElem?_eq_some_iff.1 hx).2
 rw [List.take_succ_eq_append_getElem hj, e]
 unfold woutR
 rw [List.filter_append]
 by_cases h : lst x.r.id = id <;> simp [h]
section
variable {B : Nat} {w : World} {l : List Rp} {v : Value} {s : ByteArray} {gf i j : Nat} {m : List Rp} {W W1 : World} (h : DInv B w l v s gf i j m W)
include h
theorem DInv.on (hB : B ≤ w.heap.size) (hb : Below W.heap.size W W1) : DInv B w l v s gf i j m W1 :=
 ⟨h.len, h.lt, h.le, h.low, h.high, fun x hx => (h.each x hx).below hb, h.buf.below hb, below_tr h.below (below_less hb (Nat.le_trans hB h.below.size)), h.hf.below hb⟩
theorem DInv.keep (hB : B ≤ w.heap.size) {x : Rp} (hx : l[j]? = some x) (he : lst x.r.id ≠ lst s) :
  ∃ g c, v = .slice (some ⟨g, 0, none⟩) l.length c ∧ W.there g (i * 42) 42 ∧ DInv B w l v s gf (i + 1) (j + 1) (m.set i x) (W.setCells g (i * 42) x.r.cs.toList) := by
 have hxm : m[j]? = some x := by rw [h.high j (Nat.le_refl _)]; exact hx
 have hxX := h.each x (List.mem_of_getElem? hxm)
 have hlt := h.lt
 have hle := (List.getElem?_eq_some_iff.1 hx).1
 obtain ⟨g, c, e, hg, ht, ⟨cs, hc⟩, hbuf, ho⟩ := h.buf.set (fun y hy => (h.each y hy).ok) (i := i) (by rw [h.len]; omega) hxX.ok
 refine ⟨g, c, by rw [e, h.len], ht, by rw [List.length_set, h.len], by omega, hle, ?_, fun k hk => ?_, fun y hy => ?_, hbuf, below_tr h.below (ho.below (by have := h.below.size; omega) (fun i e => by omega)), h.hf.keep (ho.block gf h.hf.lt fun e => h.hf.apart hc (by decide) e)⟩
 ·rw [woutR_succ hx, if_neg he, ← h.low, List.take_succ_eq_append_getElem (by rw [List.length_set, h.len]; omega), List.getElem_set_self, List.take_set_of_le (by omega)]
 ·rw [List.getElem?_set, if_neg (by omega)]
  exact h.high k (by omega)
 ·rcases List.mem_or_eq_of_mem_set hy with hy | rfl
  ·exact (h.each y hy).other hc ho
  ·exact hxX.other hc ho
end
theorem DInv.start {B : Nat} {w W : World} {l : List Rp} {v : Value} {s : ByteArray} {gf i : Nat} (h : Rs B W v l) (hb : Below B w W) (hf : CAt W gf #[.string s] 9) (hi : atI (rcs l) (lst s) = some i) : DInv B w l v s gf i (i + 1) l W := by
 obtain ⟨h1, h2, h3⟩ := atI_some hi
 rw [rcs_len] at h1
 have hx : l[i]? = some l[i] := List.getElem?_eq_getElem h1
 have e2 : lst l[i].r.id = lst s := by have := h2; simpa [rcs, Rp.rc, Rv.rc] using this
 refine ⟨rfl, by omega, by omega, ?_, fun k _ => rfl, h.each, h.buf, hb, hf⟩
 rw [woutR_succ hx, if_pos e2, List.append_nil]
 unfold woutR
 rw [List.filter_eq_self.2]
 intro y hy
 obtain ⟨j, hj, e⟩ := List.getElem_of_mem hy
 rw [List.length_take] at hj
 have := h3 j (by omega)
 simp only [ne_eq, decide_eq_true_eq]
 intro e3
 apply this
 rw [List.getElem_take] at e
 simpa [rcs, Rp.rc, Rv.rc, e] using e3

end Go.Proofs.YtopibkoklagceaaGreat

/- slices.Insert of one record ahead of all. -/
namespace Go.Proofs.YtopibkoklagceaaGreat
open Go Go.RowKit

theorem RpX.grown {B : Nat} {w w' : World} {x : Rp} {v : Value} {l : List Rp} (h : RpX B w x) (hb : RBuf B w v l) (hg : w.grownBy w' v.ownBlock) : RpX B w' x := by
 rcases hb.2 with ⟨rfl, _⟩ | ⟨g, cap, cur, rfl, hB, hc, _⟩
 ·exact h.below ⟨hg.os, hg.tape, hg.output, hg.size, fun i hi => hg.block i hi (fun e => by cases e)⟩
 ·exact h.other (cs := cur) (g := g) hc (Only.of_grown hg fun k e _ => by cases e; rfl)
end Go.Proofs.YtopibkoklagceaaGreat

/- A slice literal of one record. -/
namespace Go.Proofs.YtopibkoklagceaaGreat
open Go Go.RowKit

theorem fold_zip : ∀ (V : List Value) (k : Nat) (C : Array Value), ((V.zipIdx k).foldl (fun cs (p : Value × Nat) => cs.setIfInBounds p.2 p.1) C).toList = setAll C.toList k V
 | [], k, C => rfl
 | v :: r, k, C => by
  rw [List.zipIdx_cons, List.foldl_cons, fold_zip r (k + 1), setAll, Array.toList_setIfInBounds]
theorem step_run_val {P : Program} {w : World} {ops : Array Oper} {o : Oper} {a : Act} {K : Act → World → Prop} {Q : Exit → Act → World → Prop} {E : Prop} (hgd : o.guard = none) (v : Value) (w' : World)
  (hr : (execOp a.eval o).run P w = .ok (.value v) w') (h : K (a.put o.dst v) w') : if Region.wanted o (yielded ops a.tmps) = true then Oper.wp P o a w K Q else E := by
 rw [if_pos (by simp [Region.wanted, hgd])]
 unfold Oper.wp
 rw [hr]
 exact h

end Go.Proofs.YtopibkoklagceaaGreat

/- Arrays of words and of bytes as the model has them. -/
namespace Go.Proofs.YtopibkoklagceaaGreat.H
open Go.RowKit

def aW (n : Nat) (f : Nat → BitVec 32) : Array Value := Array.ofFn fun i : Fin n => Value.int .u32 (wv (f i.val))
def aB (n : Nat) (x : Nat → Nat) : Array Value := Array.ofFn fun i : Fin n => Value.int .u8 ((x i.val : Nat) : Int)
def zW : Nat → BitVec 32 := fun _ => 0
def zB : Nat → Nat := fun _ => 0
theorem wmod (x : BitVec 32) : wv x % 4294967296 = wv x := by have := wv_nonneg x; have := wv_lt x; omega
theorem wmodW (x : BitVec 32) : IntKind.u32.wrap (wv x) = wv x := by rw [IntKind.wrap_u32, wmod]
theorem aW_size (n : Nat) (f : Nat → BitVec 32) : (aW n f).size = n := by simp [aW]
theorem aB_size (n : Nat) (x : Nat → Nat) : (aB n x).size = n := by simp [aB]
theorem aW_get (n : Nat) (f : Nat → BitVec 32) (i : Nat) (h : i < n) : (aW n f)[i]? = some (.int .u32 (wv (f i))) := by simp [aW, h]
theorem aB_get (n : Nat) (x : Nat → Nat) (i : Nat) (h : i < n) : (aB n x)[i]? = some (.int .u8 ((x i : Nat) : Int)) := by simp [aB, h]
theorem aW_congr (n : Nat) {f g : Nat → BitVec 32} (h : ∀ i, i < n → f i = g i) : aW n f = aW n g := by
 unfold aW; congr 1; funext i; rw [h i.val i.isLt]
theorem aB_congr (n : Nat) {x y : Nat → Nat} (h : ∀ i, i < n → x i = y i) : aB n x = aB n y := by
 unfold aB; congr 1; funext i; rw [h i.val i.isLt]
def upW (f : Nat → BitVec 32) (k : Nat) (v : BitVec 32) (i : Nat) : BitVec 32 := if i = k then v else f i
def upB (x : Nat → Nat) (k : Nat) (v : Nat) (i : Nat) : Nat := if i = k then v else x i
theorem aW_elem (n : Nat) (f : Nat → BitVec 32) (i : Nat) (h : i < (aW n f).size) : (aW n f)[i] = .int .u32 (wv (f i)) := by simp [aW]
theorem aB_elem (n : Nat) (x : Nat → Nat) (i : Nat) (h : i < (aB n x).size) : (aB n x)[i] = .int .u8 ((x i : Nat) : Int) := by simp [aB]
theorem aW_set (n : Nat) (f : Nat → BitVec 32) (k : Nat) (v : BitVec 32) : (aW n f).setIfInBounds k (.int .u32 (wv v)) = aW n (upW f k v) := by
 apply Array.ext
 ·simp [aW]
 ·intro i h1 h2
  have hi : i < n := by simpa [aW] using h2
  rw [Array.getElem_setIfInBounds (by rw [aW_size]; omega)]
  rw [aW_elem, aW_elem]
  unfold upW
  by_cases e : i = k
  ·rw [if_pos e.symm, if_pos e]
  ·rw [if_neg (Ne.symm e), if_neg e]
theorem aB_set (n : Nat) (x : Nat → Nat) (k : Nat) (v : Nat) : (aB n x).setIfInBounds k (.int .u8 ((v : Nat) : Int)) = aB n (upB x k v) := by
 apply Array.ext
 ·simp [aB]
 ·intro i h1 h2
  have hi : i < n := by simpa [aB] using h2
  rw [Array.getElem_setIfInBounds (by rw [aB_size]; omega)]
  rw [aB_elem, aB_elem]
  unfold upB
  by_cases e : i = k
  ·rw [if_pos e.symm, if_pos e]
  ·rw [if_neg (Ne.symm e), if_neg e]
theorem aW_st (s : St) : aW 8 s.get = #[.int .u32 (wv s.a), .int .u32 (wv s.b), .int .u32 (wv s.c), .int .u32 (wv s.d), .int .u32 (wv s.e), .int .u32 (wv s.f), .int .u32 (wv s.g), .int .u32 (wv s.h)] := by
 apply Array.ext
 ·simp [aW]
 ·intro i h1 h2
  have hi : i < 8 := by simpa [aW] using h1
  simp only [aW, Array.getElem_ofFn]
  match i, hi with
  | 0, _ | 1, _ | 2, _ | 3, _ | 4, _ | 5, _ | 6, _ | 7, _ => rfl

theorem ret_row {P : Program} {fn : Func} {p : Tmp} {ty : TypeId} (h : fn.results = #[.cell p ty]) {R : Ending → World → Prop} {a : Act} {w : World} (g : Nat) (t : TypeId) (cs : Array Value) (fr : Nat × Nat) (d : TypeDesc)
  (hd0 : a.defers = []) (hp : a.tmps.getD p undef = .pointer (some ⟨g, 0, none⟩)) (hg : w.heap[g]? = some (.cells cs t fr)) (hu : P.underlying ty = some d)
  (hd : (match d with | .struct _ | .array _ _ => true | _ => false) = true) (hi : (P.info? ty).map (·.size) = some cs.size) (hR : R (.returned (.agg cs)) w) : bodyPost P fn R .ret a w :=
 ⟨hd0, _, results_cell_row h _ _ g t cs fr d hp hg hu hd hi, hR⟩

theorem wpList_alloc_row {P : Program} {ops : Array Oper} {rest : List Oper} {o : Oper} {a : Act} {w : World} {Q : Exit → Act → World → Prop} (hg : o.guard = none) (t : TypeId) (ho : o.op = .alloc t) (cs : Array Value)
  (hz : (P.info? t).map (·.zero) = some (some (.agg cs))) (h : wpList P ops Q rest (a.put o.dst (.pointer (some ⟨w.heap.size, 0, none⟩))) (w.alloc (.cells cs t))) : wpList P ops Q (o :: rest) a w := by
 refine wpList_plain hg fun _ hK => ?_
 cases hq : P.info? t with
 | none => simp [hq] at hz
 | some i =>
  have hz' : i.zero = some (.agg cs) := by simpa [hq] using hz
  unfold Oper.wp execOp
  simp only [ho, Instr.alloc, zeroValue, typeInfo, Sem.run_bind, newVar, newRow]
  simp [hq, hz', Value.cells]
  exact hK _ _ h
theorem wpList_build_to {P : Program} {ops : Array Oper} {rest : List Oper} {o : Oper} {a : Act} {w : World} {Q : Exit → Act → World → Prop} (hg : o.guard = none) (t : TypeId) (parts : Array (Nat × Operand)) (ho : o.op = .build t parts) (cs : Array Value)
  (hf : P.built t (parts.map fun (i, x) => (i, a.eval x)).toList = some cs) (h : wpList P ops Q rest (a.put o.dst (.agg cs)) w) : wpList P ops Q (o :: rest) a w :=
 wpList_build hg t parts ho (by rw [hf]; rfl) (by rw [hf]; exact h)

theorem firstWords_any (w : World) : Calls Tryz.prog 73 #[] w fun e w' => e = .returned (.agg (aW 8 st0.get)) ∧ Below w.heap.size w w' := by
 go_enter Tryz.func73, Tryz.ntmps73
 go_wp2
 refine ret_row rfl _ _ _ _ _ rfl rfl (heap_alloc_new _ _) Tryz.underlying98 rfl (by kernel_rfl) ⟨?_, (Below.refl _ _).alloc (by omega) _⟩
 rw [aW_st]; rfl
theorem begin_any (w : World) : Calls Tryz.prog 65 #[] w fun e w' => e = .returned (.agg (aW 8 st0.get)) ∧ Below w.heap.size w w' := by
 go_enter Tryz.func65, Tryz.ntmps65
 go_wp2
 refine ret_row rfl _ _ _ _ _ rfl rfl (heap_alloc_new _ _) Tryz.underlying88 rfl (by kernel_rfl) ⟨?_, (Below.refl _ _).alloc (by omega) _⟩
 rw [aW_st]; rfl
theorem aW_one (n : Nat) (f : Nat → BitVec 32) : (aW n f).all (·.oneCell') = true := by
 rw [Array.all_eq_true]; intro i h; rw [aW_elem]; rfl
theorem aB_one (n : Nat) (x : Nat → Nat) : (aB n x).all (·.oneCell') = true := by
 rw [Array.all_eq_true]; intro i h; rw [aB_elem]; rfl
theorem zero64 : (Tryz.prog.info? 90).map (·.zero) = some (some (.agg (aW 64 zW))) := by kernel_rfl
theorem size64 (f : Nat → BitVec 32) : (Tryz.prog.info? 90).map (·.size) = some (aW 64 f).size := by rw [aW_size]; kernel_rfl
theorem constants_any (w : World) : Calls Tryz.prog 101 #[] w fun e w' => e = .returned (.agg (aW 64 kk)) ∧ Below w.heap.size w w' := by
 go_enter Tryz.func101, Tryz.ntmps101
 go_wp2_with (first
  | refine wpList_alloc_row rfl 90 rfl _ zero64 ?_
  | refine wpList_build_to rfl 90 _ rfl (aW 64 kk) (by kernel_rfl) ?_
  | refine wpList_store_row rfl 90 _ _ rfl _ _ rfl rfl _ _ (heap_alloc_new _ _) (size64 _) (by rw [aW_size, aW_size]) (aW_one _ _) ?_)
 refine ret_row rfl _ _ _ _ _ rfl rfl (setRow_heap _ _ _ _ _ _ (heap_alloc_new _ _)) Tryz.underlying90 rfl (size64 _) ⟨rfl, below_setRow ((Below.refl _ _).alloc (by omega) _) (by omega) _⟩
theorem table_any (w : World) : Calls Tryz.prog 66 #[] w fun e w' => e = .returned (.agg (aW 64 kk)) ∧ Below w.heap.size w w' := by
 go_enter Tryz.func66, Tryz.ntmps66
 go_wp2_with (first
  | refine wpList_alloc_row rfl 90 rfl _ zero64 ?_
  | refine wpList_build_to rfl 90 _ rfl (aW 64 kk) (by kernel_rfl) ?_
  | refine wpList_store_row rfl 90 _ _ rfl _ _ rfl rfl _ _ (heap_alloc_new _ _) (size64 _) (by rw [aW_size, aW_size]) (aW_one _ _) ?_)
 refine ret_row rfl _ _ _ _ _ rfl rfl (setRow_heap _ _ _ _ _ _ (heap_alloc_new _ _)) Tryz.underlying90 rfl (size64 _) ⟨rfl, below_setRow ((Below.refl _ _).alloc (by omega) _) (by omega) _⟩

/-- A block holds just these cells, and may be written. -/
def CAt (w : World) (g : Nat) (cs : Array Value) (t : TypeId) : Prop := w.heap[g]? = some (.cells cs t (0, 0))
theorem CAt.lt {w : World} {g : Nat} {cs : Array Value} {t : TypeId} (h : CAt w g cs t) : g < w.heap.size := by
 rcases Nat.lt_or_ge g w.heap.size with h1 | h1
 ·exact h1
 ·unfold CAt at h; rw [Array.getElem?_eq_none h1] at h; cases h
theorem CAt.cellW {w : World} {g n : Nat} {t : TypeId} {f : Nat → BitVec 32} (h : CAt w g (aW n f) t) (i : Nat) (hi : i < n) : w.cell? ⟨g, i, none⟩ = some (.int .u32 (wv (f i))) := by
 rw [cell_of_row w g i _ _ _ h, aW_get n f i hi]
theorem CAt.cellB {w : World} {g n : Nat} {t : TypeId} {x : Nat → Nat} (h : CAt w g (aB n x) t) (i : Nat) (hi : i < n) : w.cell? ⟨g, i, none⟩ = some (.int .u8 ((x i : Nat) : Int)) := by
 rw [cell_of_row w g i _ _ _ h, aB_get n x i hi]
theorem CAt.free {w : World} {g : Nat} {cs : Array Value} {t : TypeId} (h : CAt w g cs t) (i : Nat) : w.frozen? ⟨g, i, none⟩ = false := by
 simp [World.frozen?, show w.heap[g]? = _ from h]
theorem CAt.setW {w : World} {g n : Nat} {t : TypeId} {f : Nat → BitVec 32} (h : CAt w g (aW n f) t) (i : Nat) (v : BitVec 32) : CAt (w.setCell ⟨g, i, none⟩ (.int .u32 (wv v))) g (aW n (upW f i v)) t := by
 have := heap_setCell_same w g i _ t (.int .u32 (wv v)) h
 rwa [aW_set] at this
theorem CAt.setB {w : World} {g n : Nat} {t : TypeId} {x : Nat → Nat} (h : CAt w g (aB n x) t) (i : Nat) (v : Nat) : CAt (w.setCell ⟨g, i, none⟩ (.int .u8 ((v : Nat) : Int))) g (aB n (upB x i v)) t := by
 have := heap_setCell_same w g i _ t (.int .u8 ((v : Nat) : Int)) h
 rwa [aB_set] at this
theorem CAt.other {w : World} {g : Nat} {cs : Array Value} {t : TypeId} (h : CAt w g cs t) (a : Addr) (v : Value) (hne : g ≠ a.block) : CAt (w.setCell a v) g cs t :=
 (heap_setCell_other w a g v hne).trans h
theorem CAt.alloc {w : World} {g : Nat} {cs : Array Value} {t : TypeId} (h : CAt w g cs t) (o : Obj) : CAt (w.alloc o) g cs t :=
 (Below.heap_alloc w o g h.lt).trans h
theorem CAt.new (w : World) (cs : Array Value) (t : TypeId) : CAt (w.alloc (.cells cs t)) w.heap.size cs t := heap_alloc_new _ _
theorem CAt.new' (w : World) (cs : Array Value) (t : TypeId) (H : Nat) (h : w.heap.size = H) : CAt (w.alloc (.cells cs t)) H cs t := h ▸ heap_alloc_new _ _
theorem CAt.row {w : World} {g : Nat} {old : Array Value} {t : TypeId} (h : CAt w g old t) (cs : Array Value) : CAt (w.setRow g cs) g cs t := setRow_heap w g old cs t _ h
theorem CAt.rowOther {w : World} {g k : Nat} {cs : Array Value} {t : TypeId} (h : CAt w g cs t) (c : Array Value) (hne : g ≠ k) : CAt (w.setRow k c) g cs t := (setRow_other w k g c hne).trans h
theorem CAt.below {B : Nat} {w w' : World} {g : Nat} {cs : Array Value} {t : TypeId} (h : CAt w g cs t) (hb : Below B w w') (hg : g < B) : CAt w' g cs t := (hb.block g hg).trans h
theorem drewN_heap (w : World) : ∀ m, (w.drewN m).heap = w.heap
 | m => by simp
theorem CAt.drewN {w : World} {g : Nat} {cs : Array Value} {t : TypeId} (h : CAt w g cs t) (m : Nat) : CAt (w.drewN m) g cs t := by unfold CAt; rw [drewN_heap]; exact h
theorem CAt.congr {w : World} {g : Nat} {cs cs' : Array Value} {t : TypeId} (h : CAt w g cs t) (e : cs = cs') : CAt w g cs' t := e ▸ h
theorem Below.drewN' {B : Nat} {a w : World} (h : Below B a w) (m : Nat) : Below B a (w.drewN m) := by
 refine h.trans ⟨rfl, rfl, rfl, ?_, ?_⟩
 ·rw [drewN_heap]; exact Nat.le_refl _
 ·intro k _; rw [drewN_heap]
theorem run_index_row {P : Program} (t e : TypeId) (n : Nat) (cs : Array Value) (i : Nat) (v : Value) (hu : P.underlying t = some (.array n e)) (hi : i < n) (hv : cs[i]? = some v)
  (he : (P.info? e).map (·.size) = some 1) (ha : ∀ w, (isAgg e).run P w = .ok false w) (w : World) : (Instr.index t (.agg cs) (.int .i64 (i : Int))).run P w = .ok v w := by
 cases hq : P.info? e with
 | none => simp [hq] at he
 | some j =>
  have hs : j.size = 1 := by simpa [hq] using he
  have h1 : (0 : Int) ≤ (i : Int) ∧ (i : Int) < (n : Int) := by omega
  simp [Instr.index, run_underlying hu, asIntOf, h1, sizeOf, typeInfo, hq, hs, part, Sem.run_bind, ha, hv]
  intro hbad; omega
end Go.Proofs.YtopibkoklagceaaGreat.H
