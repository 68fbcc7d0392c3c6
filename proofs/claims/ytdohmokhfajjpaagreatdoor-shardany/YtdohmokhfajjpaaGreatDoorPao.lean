/- Texts laid into one, cut to what is needed: the remark ahead of each part says what is proved there. -/
import Derived.Test.YtdohmokhfajjpaaGreatDoorPan
import Derived.Test.YtdohmokhfajjpaaGreatDoorPah
import Derived.Test.YtdohmokhfajjpaaGreatDoorPac
import Derived.Test.YtdohmokhfajjpaaGreatDoorPab
import Derived.RangeFuncNested
import Derived.RangeFuncBound
import Derived.RangeFuncCalls
import Derived.RangeFuncLeaves
import Derived.OrdersIn
import Derived.TacticsIn
/- Journals: what is added, removed, found. Mathematics alone. -/
namespace Go.Proofs.YtdohmokhfajjpaaGreatDoor

/-- The records but one's. -/
def wout (l : List Rc) (id : List Nat) : List Rc := l.filter fun r => decide (r.id ≠ id)
/-- The place of a record. -/
def atI : List Rc → List Nat → Option Nat
 | [], _ => none
 | r :: l, id => if r.id = id then some 0 else (atI l id).map (· + 1)
/-- May be added to? -/
def okA (j : Jr) : Bool := (decide (j.seq = 0) && j.recs.isEmpty) || okJ j
/-- The error's number, and the journal. -/
def addJ (j : Jr) (r : Rc) : Nat × Option Jr :=
 if okA j = false ∨ okRc r = false then (2, none) else
 if j.seq = 1099511627776 ∨ 64 ≤ (wout j.recs r.id).length then (8, none) else (0, some ⟨j.seq + 1, r :: wout j.recs r.id⟩)
theorem okJ_mk {s : Int} {l : List Rc} (h1 : 1 ≤ s) (h2 : s ≤ 1099511627776) (h3 : l.length ≤ 64) (h4 : l.all okRc = true) (h5 : (l.map Rc.id).Nodup) : okJ ⟨s, l⟩ = true := by
 simp only [okJ, Bool.and_eq_true, decide_eq_true_eq, inR_iff]
 exact ⟨⟨⟨⟨h1, h2⟩, h3⟩, h4⟩, h5⟩
theorem atI_none : ∀ {l : List Rc} {id : List Nat}, atI l id = none ↔ id ∉ l.map Rc.id
 | [], id => by simp [atI]
 | r :: l, id => by
  by_cases h : r.id = id
  ·simp [atI, h]
  ·rw [atI, if_neg h, Option.map_eq_none_iff, atI_none, List.map_cons, List.mem_cons]
   exact ⟨fun h1 h2 => h2.elim (fun e => h e.symm) h1, fun h1 h2 => h1 (Or.inr h2)⟩
theorem atI_some : ∀ {l : List Rc} {id : List Nat} {i : Nat}, atI l id = some i → ∃ h : i < l.length, l[i].id = id ∧ ∀ j (hj : j < i), (l[j]'(by omega)).id ≠ id
 | [], _, _, h => by cases h
 | r :: l, id, i, h => by
  rw [atI] at h
  by_cases h1 : r.id = id
  ·rw [if_pos h1] at h
   cases h
   exact ⟨by simp, h1, fun j hj => absurd hj (Nat.not_lt_zero _)⟩
  ·rw [if_neg h1] at h
   obtain ⟨k, hk, e⟩ := Option.map_eq_some_iff.1 h
   subst e
   obtain ⟨h2, h3, h4⟩ := atI_some hk
   refine ⟨by simp; omega, by simpa using h3, fun j hj => ?_⟩
   cases j with
   | zero => simpa using h1
   | succ j => simpa using h4 j (by omega)
/-- Where no two have one ID, each is found at its place. -/
theorem atI_at : ∀ {l : List Rc}, (l.map Rc.id).Nodup → ∀ i (h : i < l.length), atI l l[i].id = some i
 | r :: l, hn, 0, _ => by simp [atI]
 | r :: l, hn, i + 1, h => by
  rw [List.map_cons, List.nodup_cons] at hn
  have hi : i < l.length := by simpa using h
  have e : (r :: l)[i + 1].id = l[i].id := rfl
  rw [e, atI, if_neg (fun e2 => hn.1 (by rw [e2]; exact List.mem_map.2 ⟨_, List.getElem_mem hi, rfl⟩)), atI_at hn.2 i hi]
  rfl
/-- .. and only there. -/
theorem nodup_of_at {l : List Rc} (h : ∀ i (hi : i < l.length), atI l l[i].id = some i) : (l.map Rc.id).Nodup := by
 rw [List.nodup_iff_pairwise_ne, List.pairwise_iff_getElem]
 intro i j hi hj hij e
 have hi' : i < l.length := by simpa using hi
 have hj' : j < l.length := by simpa using hj
 have h1 := h i hi'
 have h2 := h j hj'
 have e2 : l[i].id = l[j].id := by simpa using e
 rw [e2, h2] at h1
 cases h1
 omega
end Go.Proofs.YtdohmokhfajjpaaGreatDoor

/- Which of the drives' journals counts. Mathematics alone. -/
namespace Go.Proofs.YtdohmokhfajjpaaGreatDoor

/-- What a drive answers. -/
structure Cp where
 err : Int
 b : List Nat
section
variable (D : List Nat → List Nat)
/-- 'As good as, or less than'. -/
def leC (x y : Int × Nat) : Prop := x.1 < y.1 ∨ x.1 = y.1 ∧ x.2 ≤ y.2
theorem leC.refl (x : Int × Nat) : leC x x := Or.inr ⟨rfl, Nat.le_refl _⟩
theorem leC.trans {x y z : Int × Nat} (h : leC x y) (k : leC y z) : leC x z := by
 unfold leC at *
 omega
variable {D}
end
end Go.Proofs.YtdohmokhfajjpaaGreatDoor

/- Shard files as mathematics: the shards and files of bytes; what a file is read as; which drives' files are sound and taken; what they make; any k of them make the bytes. No conditions but bounds. -/
namespace Go.Proofs.YtdohmokhfajjpaaGreatDoor
open Go Go.RowKit

/-- Bytes as the stripe's mathematics has them. -/
def kx (b : List Nat) (j : Nat) : U.K := U.kb (b.getD j 0)
theorem getD_lt8 {b : List Nat} (h8 : ∀ z ∈ b, z < 256) (j : Nat) : b.getD j 0 < 256 := by
 rcases Nat.lt_or_ge j b.length with h | h
 ·exact get256 h8 j h
 ·rw [List.getD_eq_getElem?_getD, List.getElem?_eq_none h]; decide
theorem kx_val {b : List Nat} (h8 : ∀ z ∈ b, z < 256) (j : Nat) : (kx b j).val = b.getD j 0 := U.kb_val _ (getD_lt8 h8 j)
theorem list_range (b : List Nat) : (List.range b.length).map (fun j => b.getD j 0) = b := by
 apply List.ext_getElem?
 intro i
 rcases Nat.lt_or_ge i b.length with h | h
 ·simp [h]
 ·simp [h]
theorem range_getD (n : Nat) (f : Nat → Nat) (j : Nat) (hj : j < n) : ((List.range n).map f).getD j 0 = f j := by simp [hj]
theorem map_range_eq {n : Nat} {f g : Nat → Nat} (h : ∀ j, j < n → f j = g j) : (List.range n).map f = (List.range n).map g := by
 apply List.map_congr_left; intro j hj; exact h j (List.mem_range.1 hj)

/-- The shards of bytes, by their places. -/
def shd (k : Nat) (b : List Nat) (i : Nat) : List Nat := (List.range (U.lgt b.length k)).map fun j => (U.ash k (U.lgt b.length k) b.length (kx b) i j).val
theorem shd_len (k : Nat) (b : List Nat) (i : Nat) : (shd k b i).length = U.lgt b.length k := by simp [shd]
theorem shd_lt (k : Nat) (b : List Nat) (i : Nat) : ∀ z ∈ shd k b i, z < 256 := fun z hz => by
 unfold shd at hz
 obtain ⟨j, _, rfl⟩ := List.mem_map.1 hz
 exact U.K.lt _
/-- The file of bytes. -/
def flL (s : List Nat) : List Nat := H.fileL s.length fun j => s.getD j 0
/-- All shard files of bytes. -/
def fls (k m : Nat) (b : List Nat) : List (List Nat) := (List.range (k + m)).map fun i => flL (shd k b i)
theorem fls_len (k m : Nat) (b : List Nat) : (fls k m b).length = k + m := by simp [fls]
theorem fls_get (k m : Nat) (b : List Nat) (i : Nat) (hi : i < k + m) : (fls k m b)[i]? = some (flL (shd k b i)) := by simp [fls, hi]

/-- What a file is read as, of so many bytes; the error's number. -/
def rdE (f : List Nat) (n : Nat) : Int := H.partE (fun j => f.getD j 0) f.length n 0 n
def rdB (f : List Nat) (n : Nat) : List Nat := H.partL (fun j => f.getD j 0) f.length n 0 n
theorem rdB_ok {f : List Nat} {n : Nat} (h : rdE f n = 0) : rdB f n = (List.range n).map fun j => H.dat (fun j => f.getD j 0) j := by
 unfold rdE H.partE at h
 unfold rdB H.partL
 split at h
 ·rename_i h1
  split at h
  ·rename_i h2
   split at h
   ·rename_i h3
    rw [if_pos ⟨h1, h2, h3⟩, H.parL_dat _ _ _ _ (by simp) (by simp)]
    simp
   ·cases h
  ·cases h
 ·cases h
theorem rdB_len {f : List Nat} {n : Nat} (h : rdE f n = 0) : (rdB f n).length = n := by rw [rdB_ok h]; simp
theorem rdB_lt {f : List Nat} (h8 : ∀ z ∈ f, z < 256) {n : Nat} (h : rdE f n = 0) : ∀ z ∈ rdB f n, z < 256 := fun z hz => by
 rw [rdB_ok h] at hz
 obtain ⟨j, _, rfl⟩ := List.mem_map.1 hz
 exact getD_lt8 h8 _
theorem flL_len (s : List Nat) : (flL s).length = s.length + 32 * H.cnt s.length := by
 unfold flL
 exact H.fileL_len _ _
theorem rd_fl (s : List Nat) (hs : s.length ≤ 65536) : rdE (flL s) s.length = 0 ∧ rdB (flL s) s.length = s := by
 have h := H.part_fil s.length (fun j => s.getD j 0) hs 0 s.length (Nat.zero_le _) (Nat.le_refl _)
 have e : (fun j => (flL s).getD j 0) = H.fil s.length (fun j => s.getD j 0) := rfl
 unfold rdE rdB
 rw [e, flL_len s]
 refine ⟨by simpa using h.2, ?_⟩
 have h1 := h.1
 simp only [Nat.sub_zero, Nat.zero_add] at h1
 rw [list_range] at h1
 simpa using h1

/-- Is a drive's file sound? How many are, of the first i? Is the one at i taken? -/
def sdB (n : Nat) (c : Cp) : Bool := decide (c.err = 0) && decide (rdE c.b n = 0)
def csN (n : Nat) (l : List Cp) : Nat → Nat
 | 0 => 0
 | i + 1 => csN n l i + (match l[i]? with | some c => if sdB n c = true then 1 else 0 | none => 0)
def hvB (n k : Nat) (l : List Cp) (i : Nat) : Bool := (match l[i]? with | some c => sdB n c | none => false) && decide (csN n l i < k)
def rdS (n : Nat) (l : List Cp) (i : Nat) : List Nat := match l[i]? with | some c => rdB c.b n | none => []
theorem cn_hv (n k : Nat) (l : List Cp) : ∀ i, U.cn (hvB n k l) i = min k (csN n l i)
 | 0 => by simp [U.cn, csN]
 | i + 1 => by
  have ih := cn_hv n k l i
  show U.cn (hvB n k l) i + (if ((match l[i]? with | some c => sdB n c | none => false) && decide (csN n l i < k)) = true then 1 else 0) = min k (csN n l i + (match l[i]? with | some c => if sdB n c = true then 1 else 0 | none => 0))
  rw [ih]
  cases l[i]? with
  | none => simp
  | some c =>
   cases h : sdB n c
   ·simp [h]
   ·simp only [h, Bool.true_and, decide_eq_true_eq, if_true]
    split <;> omega
theorem cs_mono (n : Nat) (l : List Cp) (i : Nat) : ∀ d, csN n l i ≤ csN n l (i + d)
 | 0 => Nat.le_refl _
 | d + 1 => Nat.le_trans (cs_mono n l i d) (by show _ ≤ csN n l (i + d) + _; omega)
theorem hv_past {n k : Nat} {l : List Cp} {i j : Nat} (h : k ≤ csN n l i) (hj : i ≤ j) : hvB n k l j = false := by
 obtain ⟨d, rfl⟩ := Nat.le.dest hj
 have := cs_mono n l i d
 unfold hvB
 have h2 : ¬ csN n l (i + d) < k := by omega
 simp [h2]
/-- What those make that are taken. -/
def jnB (k m s : Nat) (l : List Cp) : List Nat := (List.range s).map fun j => (U.jnd (U.lgt s k) (U.mdd k (k + m) (hvB (U.lgt s k) k l) (fun i => kx (rdS (U.lgt s k) l i))) j).val
theorem jnB_len (k m s : Nat) (l : List Cp) : (jnB k m s l).length = s := by simp [jnB]
theorem jnB_lt (k m s : Nat) (l : List Cp) : ∀ z ∈ jnB k m s l, z < 256 := fun z hz => by
 unfold jnB at hz
 obtain ⟨j, _, rfl⟩ := List.mem_map.1 hz
 exact U.K.lt _
/-- The bytes of a version by what drives answer; the error's number. -/
def whE (k m s : Nat) (sum : List Nat) (l : List Cp) : Int := if csN (U.lgt s k) l l.length < k then 10 else if dig (jnB k m s l) = sum then 0 else 14
def whB (k m s : Nat) (sum : List Nat) (l : List Cp) : List Nat := if whE k m s sum l = 0 then jnB k m s l else []
/-- Any k that are sound and have the bytes' shards make the bytes. -/
theorem jn_all {k m : Nat} {b : List Nat} {l : List Cp} (h8 : ∀ z ∈ b, z < 256) (h0 : 1 ≤ k) (h : k + m ≤ 16) (hl : l.length = k + m) (hc : k ≤ csN (U.lgt b.length k) l l.length)
  (hs : ∀ i c, l[i]? = some c → sdB (U.lgt b.length k) c = true → rdB c.b (U.lgt b.length k) = shd k b i) : jnB k m b.length l = b := by
 have hcn : k ≤ U.cn (hvB (U.lgt b.length k) k l) (k + m) := by rw [cn_hv, ← hl]; omega
 have key : ∀ r j, j < U.lgt b.length k → U.mdd k (k + m) (hvB (U.lgt b.length k) k l) (fun i => kx (rdS (U.lgt b.length k) l i)) r j = U.ash k (U.lgt b.length k) b.length (kx b) r j := by
  intro r j hj
  refine U.mdd_all (by omega) (by omega) hcn r j ?_
  intro i hi hv
  unfold hvB at hv
  cases hq : l[i]? with
  | none => rw [hq] at hv; simp at hv
  | some c =>
   rw [hq] at hv
   have hv : sdB (U.lgt b.length k) c = true := by simp at hv; exact hv.1
   have e := hs i c hq hv
   have e2 : rdS (U.lgt b.length k) l i = shd k b i := by unfold rdS; rw [hq]; exact e
   rw [e2]
   unfold kx shd
   rw [range_getD _ _ _ hj]
   apply U.K.ext
   rw [U.kb_val _ (U.K.lt _)]
   rfl
 have hroom := U.lgt_room b.length k h0
 unfold jnB
 conv => rhs; rw [← list_range b]
 apply map_range_eq
 intro j hj
 rw [U.jnd_congr (k := k) hroom (fun i _ j hj => key i j hj) j hj, U.jnd_ash j hj hroom, kx_val h8]
end Go.Proofs.YtdohmokhfajjpaaGreatDoor

/- A range over a function whose iterator may hold such ranges itself, and yields what it has just read: all that lies from the loop's beginning on lies as it lay. -/
namespace Go.Proofs.YtdohmokhfajjpaaGreatDoor.Rg
open Go Go.RowKit
open Go.Proofs.YtdohmokhfajjpaaGreatDoor.H (rndF calls_rnd rows_rnd noDefer noDefer_at list_rnd round_list round_any)

/-! ### A range over a function whose iterator may hold such ranges itself -/
/-- What keeps a loop's books. -/
def bkO : Obj → Bool
 | .loop _ => true
 | .deferred _ => true
 | _ => false
/-- New blocks, and at most one block from B on that keeps a loop's books has turned. -/
def Tn (B : Nat) (A C : World) : Prop := ∃ row : Option Nat, A.grownBy C row ∧ ∀ r, row = some r → B ≤ r ∧ ∃ o : Obj, A.heap[r]? = some o ∧ bkO o = true
theorem Tn.mono {B B' : Nat} {A C : World} (h : Tn B A C) (hB : B' ≤ B) : Tn B' A C := by
 obtain ⟨row, hg, hr⟩ := h
 exact ⟨row, hg, fun r e => ⟨Nat.le_trans hB (hr r e).1, (hr r e).2⟩⟩
theorem Tn.alloc (B : Nat) (A : World) (o : Obj) : Tn B A (A.alloc o) := ⟨none, World.grownBy_alloc A o none, fun _ e => by cases e⟩
theorem Tn.put {B : Nat} {A : World} {r : Nat} {o : Obj} (o' : Obj) (hB : B ≤ r) (h : A.heap[r]? = some o) (hb : bkO o = true) : Tn B A (A.putObj r o') :=
 ⟨some r, grownBy_putObj' A r o', fun q e => by cases e; exact ⟨hB, o, h, hb⟩⟩
theorem Tn.low {B : Nat} {A C : World} (h : Tn B A C) {k : Nat} (hk : k < B) (hA : k < A.heap.size) : C.heap[k]? = A.heap[k]? := by
 obtain ⟨row, hg, hr⟩ := h
 exact hg.block k hA fun e => by have := (hr k e.symm).1; omega
theorem Tn.other {B : Nat} {A C : World} (h : Tn B A C) {k : Nat} {o : Obj} (hk : A.heap[k]? = some o) (ho : bkO o = false) : C.heap[k]? = A.heap[k]? := by
 obtain ⟨row, hg, hr⟩ := h
 refine hg.block k (Array.getElem?_eq_some_iff.1 hk).1 fun e => ?_
 obtain ⟨_, o', h1, h2⟩ := hr k e.symm
 rw [hk] at h1; cases h1; rw [ho] at h2; cases h2
theorem Tn.size {B : Nat} {A C : World} (h : Tn B A C) : A.heap.size ≤ C.heap.size := by obtain ⟨_, hg, _⟩ := h; exact hg.size
theorem grown_below {A C : World} (h : Below A.heap.size A C) : A.grownBy C none := ⟨h.os, h.tape, h.output, h.size, fun i hi _ => h.block i hi⟩
theorem Tn.below {B : Nat} {A C : World} (h : Below A.heap.size A C) : Tn B A C := ⟨none, grown_below h, fun _ e => by cases e⟩
/-- I abides that. -/
def OwL (B : Nat) (I : World → Prop) : Prop := ∀ A C, I A → Tn B A C → I C
/-- All from B on lies as it lay. -/
structure KpL (B : Nat) (W W' : World) : Prop where
 size : W.heap.size ≤ W'.heap.size
 same : ∀ (r : Nat) (o : Obj), B ≤ r → W.heap[r]? = some o → W'.heap[r]? = some o
theorem KpL.refl (B : Nat) (W : World) : KpL B W W := ⟨Nat.le_refl _, fun _ _ _ h => h⟩
theorem KpL.trans {B : Nat} {X Y Z : World} (h : KpL B X Y) (k : KpL B Y Z) : KpL B X Z := ⟨Nat.le_trans h.size k.size, fun r o hB hr => k.same r o hB (h.same r o hB hr)⟩
theorem KpL.mono {B B' : Nat} {X Y : World} (h : KpL B X Y) (hB : B ≤ B') : KpL B' X Y := ⟨h.size, fun r _o hr => h.same r _o (Nat.le_trans hB hr)⟩
theorem KpL.below {B : Nat} {X Y : World} (h : Below X.heap.size X Y) : KpL B X Y := ⟨h.size, fun r _ _ hr => (h.block r (Array.getElem?_eq_some_iff.1 hr).1).trans hr⟩
/-- How a round may be left. -/
def rdP (B : Nat) (Go : World → Prop) (Ix : Code → World → Prop) (W : World) : Exit → Act → World → Prop
 | .normal, _, W' => KpL B W W' ∧ Go W'
 | .ret, _, W' => KpL B W W' ∧ Ix .ret W'
 | .exit id, _, W' => KpL B W W' ∧ Ix (.exit id) W'
 | .goto t, _, W' => KpL B W W' ∧ Ix (.goto t) W'
 | .panic _, _, _ => False
 | .outgrown, _, _ => False
/-- What a call of yield comes to. -/
def Yld (P : Program) (l : Nat) (args : Array Value) (B : Nat) (W : World) (Go St : World → Prop) : Prop :=
 YieldAt Fence.wide 0 P l args W fun e W' => KpL B W W' ∧ ((e = .returned (.bool true) ∧ Go W') ∨ (e = .returned (.bool false) ∧ St W'))
/-- What an iterator gf with the captured values lb does that is called in W1, for the caller's I: it goes on from J i to J (i + 1) by a call of yield where En i holds, or for itself. -/
def ItC (P : Program) (gf : Nat) (lb : Array Value) (k ns : Nat) (En : Nat → Array Value → World → Prop) (I : Nat → World → Prop) (B : Nat) : Prop :=
 ∀ (l : Nat) (W1 : World) (J : Nat → World → Prop) (Jx : World → Prop), B ≤ W1.heap.size → (∀ i, OwL W1.heap.size (J i)) → OwL W1.heap.size Jx → (∀ i W, J i W → I i W) → (∀ i i' W, J i W → I i' W → J i' W) →
  (∀ i vs W, i < k → vs.size = ns → J i W → En i vs W → Yld P l vs W1.heap.size W (J (i + 1)) Jx) → J 0 W1 → Calls P gf (#[.func (.yield l) #[] #[]] ++ lb) W1 fun e W' => (∃ v, e = .returned v) ∧ (J k W' ∨ Jx W')
def endAct (a : Act) (D : Nat) : Act := { a with defers := { target := .collected D, args := #[] } :: a.defers }
theorem range_law {P : Program} {g : Operand} {ps : Array Tmp} {assign body : Code} {Q : Exit → Act → World → Prop} {a : Act} {w : World} {gf : Nat} {lb : Array Value}
  (hg : a.eval g = .func (.func gf) #[] lb) (eg : ∀ args w, (callFunc gf args).run P w = .ok (.enter gf args) w) (k : Nat)
  (En : Nat → Array Value → World → Prop) (I : Nat → World → Prop) (Ix : Code → World → Prop) (hI : ∀ i, OwL w.heap.size (I i)) (hIx : ∀ c, OwL w.heap.size (Ix c)) (h0 : I 0 w) (hseq : ItC P gf lb k ps.size En I w.heap.size)
  (Ax : Nat → Act → World → Prop) (hAx : ∀ i a', OwL w.heap.size (Ax i a'))
  (hassign : ∀ (l i : Nat) (vs : Array Value) (W : World) (K : Act → World → Prop), i < k → vs.size = ps.size → I i W → En i vs W → (∀ a' W', KpL w.heap.size W W' → I i W' → Ax i a' W' → K a' W') →
   assign.wpIn (rndF l) 0 P (Exit.then K (fun _ _ _ => False)) { tmps := (ps.zip vs).foldl (fun t (p, v) => t.setIfInBounds p v) a.tmps, defers := [] } W)
  (hbody : ∀ (l i : Nat) (a' : Act) (W : World), i < k → I i W → Ax i a' W → body.wpIn (rndF l) 0 P (rdP w.heap.size (I (i + 1)) Ix W) a' W)
  (hdone : ∀ (D : Nat) (W : World), w.heap.size ≤ D → I k W → W.heap[D]? = some (.deferred (some [])) → Q .normal (endAct a D) W)
  (hstop : ∀ (D : Nat) (c : Code) (W : World), w.heap.size ≤ D → Ix c W → W.heap[D]? = some (.deferred (some [])) → c.wpIn Fence.wide 0 P Q (endAct a D) W) :
  (Code.rangeFunc g ps assign body).wpIn Fence.wide 0 P Q a w := by
 refine wpIn_rangeFunc fun fn hfn => ?_
 let bk : LoopState → Option Code → Loop := fun st pe => { state := st, pending := pe, fn, tmps := a.tmps, params := ps, assign, body, defers := w.heap.size }
 obtain ⟨W1, hW1⟩ : ∃ W1, (w.alloc (.deferred (some []))).alloc (.loop (bk .ready none)) = W1 := ⟨_, rfl⟩
 have hsz : W1.heap.size = w.heap.size + 2 := by rw [← hW1]; simp
 have hd1 : W1.heap[w.heap.size]? = some (.deferred (some [])) := by rw [← hW1]; exact (Below.heap_alloc _ _ _ (by simp)).trans (World.alloc_heap_new w _)
 have hl1 : W1.heap[w.heap.size + 1]? = some (.loop (bk .ready none)) := by
  rw [← hW1]; have := World.alloc_heap_new (w.alloc (.deferred (some []))) (.loop (bk .ready none)); rwa [World.size_alloc] at this
 have hi1 : I 0 W1 := by rw [← hW1]; exact hI 0 _ _ (hI 0 _ _ h0 (Tn.alloc _ _ _)) (Tn.alloc _ _ _)
 let J : Nat → World → Prop := fun i W => I i W ∧ W.heap[w.heap.size + 1]? = some (.loop (bk .ready none)) ∧ W.heap[w.heap.size]? = some (.deferred (some []))
 let Jx : World → Prop := fun W => ∃ c, Ix c W ∧ W.heap[w.heap.size + 1]? = some (.loop (bk .done (some c))) ∧ W.heap[w.heap.size]? = some (.deferred (some []))
 have kept : ∀ {A C : World} {r : Nat} {o : Obj}, Tn W1.heap.size A C → r < w.heap.size + 2 → A.heap[r]? = some o → C.heap[r]? = some o := fun ht hr h => (ht.low (by omega) (Array.getElem?_eq_some_iff.1 h).1).trans h
 refine ⟨w.heap.size + 1, [{ target := .collected w.heap.size, args := #[] }], W1, { target := .fn (.func gf) lb, args := #[.func (.yield (w.heap.size + 1)) #[] #[]] }, W1, gf, #[.func (.yield (w.heap.size + 1)) #[] #[]] ++ lb, W1, ?_, ?_, fun _ _ => trivial, ?_, fun h => (by cases h), ?_⟩
 ·rw [← hW1]; exact run_enterLoop_outer _ _ _ _ _
 ·simp only [resolve, hg]; simp [go_sem]
 ·simp [invoke, go_sem, eg]
 refine callsIn_wide.2 ((hseq (w.heap.size + 1) W1 J Jx (by omega) (fun i A C hA ht => ⟨hI i A C hA.1 (ht.mono (by omega)), kept ht (by omega) hA.2.1, kept ht (by omega) hA.2.2⟩)
  (fun A C hA ht => by obtain ⟨c, h1, h2, h3⟩ := hA; exact ⟨c, hIx c A C h1 (ht.mono (by omega)), kept ht (by omega) h2, kept ht (by omega) h3⟩)
  (fun i W h => h.1) (fun i i' W h h' => ⟨h', h.2⟩) ?_ ⟨hi1, hl1, hd1⟩).mono ?_)
 ·rintro i vs W hik hvs ⟨hi, hl, hd⟩ hen
  have hy := run_yield (P := P) (args := vs) hl hvs
  refine ⟨fn, _, assign, body, hy, roundIn_of_wpIn hfn (hassign _ i vs W _ hik hvs hi hen ?_)⟩
  clear hy
  intro a' Wa hka hia hax
  have hla := hka.same _ _ (by omega) hl
  have hda := hka.same _ _ (Nat.le_refl _) hd
  have hlt : w.heap.size + 1 < Wa.heap.size := (Array.getElem?_eq_some_iff.1 hla).1
  refine ⟨_, run_beginRound hla rfl, ?_⟩
  have tb : Tn w.heap.size Wa (Wa.putObj (w.heap.size + 1) (.loop { bk .ready none with state := .busy })) := Tn.put _ (by omega) hla rfl
  have hl2 : (Wa.putObj (w.heap.size + 1) (.loop { bk .ready none with state := .busy })).heap[w.heap.size + 1]? = some (.loop { bk .ready none with state := .busy }) := World.putObj_heap_same hlt
  have hd2 : (Wa.putObj (w.heap.size + 1) (.loop { bk .ready none with state := .busy })).heap[w.heap.size]? = some (.deferred (some [])) := (World.putObj_heap_other (by omega)).trans hda
  have far : ∀ (r : Nat) (o : Obj), W1.heap.size ≤ r → Wa.heap[r]? = some o → (Wa.putObj (w.heap.size + 1) (.loop { bk .ready none with state := .busy })).heap[r]? = some o := fun r o hr h => (World.putObj_heap_other (by omega)).trans h
  refine wpIn_mono (hbody _ i a' _ hik (hI i _ _ hia tb) (hAx i a' _ _ hax tb)) ?_
  have fin : ∀ (jump : Option Code) (W3 : World), KpL w.heap.size (Wa.putObj (w.heap.size + 1) (.loop { bk .ready none with state := .busy })) W3 →
    (Instr.endRound (w.heap.size + 1) jump).run P W3 = .ok (.bool jump.isNone) (W3.putObj (w.heap.size + 1) (.loop (bk (if jump.isNone then .ready else .done) jump))) ∧
    Tn w.heap.size W3 (W3.putObj (w.heap.size + 1) (.loop (bk (if jump.isNone then .ready else .done) jump))) ∧
    (W3.putObj (w.heap.size + 1) (.loop (bk (if jump.isNone then .ready else .done) jump))).heap[w.heap.size + 1]? = some (.loop (bk (if jump.isNone then .ready else .done) jump)) ∧
    (W3.putObj (w.heap.size + 1) (.loop (bk (if jump.isNone then .ready else .done) jump))).heap[w.heap.size]? = some (.deferred (some [])) ∧
    KpL W1.heap.size W (W3.putObj (w.heap.size + 1) (.loop (bk (if jump.isNone then .ready else .done) jump))) := fun jump W3 hk3 => by
   have hl3 := hk3.same _ _ (by omega) hl2
   exact ⟨run_endRound (P := P) jump hl3, Tn.put _ (by omega) hl3 rfl, World.putObj_heap_same (Array.getElem?_eq_some_iff.1 hl3).1, (World.putObj_heap_other (by omega)).trans (hk3.same _ _ (Nat.le_refl _) hd2),
    ⟨by have := hka.size; have := hk3.size; simp at this ⊢; omega, fun r o hr h => (World.putObj_heap_other (by omega)).trans (hk3.same r o (by omega) (far r o hr (hka.same r o (by omega) h)))⟩⟩
  rintro e a3 W3 hp
  cases e with
  | normal =>
   obtain ⟨hk3, hi3⟩ := hp
   obtain ⟨hr, ht, hl4, hd4, hkp⟩ := fin none W3 hk3
   exact ⟨_, _, hr, hkp, .inl ⟨rfl, hI _ _ _ hi3 ht, hl4, hd4⟩⟩
  | ret =>
   obtain ⟨hk3, hi3⟩ := hp
   obtain ⟨hr, ht, hl4, hd4, hkp⟩ := fin (some .ret) W3 hk3
   exact ⟨_, _, hr, hkp, .inr ⟨rfl, .ret, hIx _ _ _ hi3 ht, hl4, hd4⟩⟩
  | exit id =>
   obtain ⟨hk3, hi3⟩ := hp
   obtain ⟨hr, ht, hl4, hd4, hkp⟩ := fin (some (.exit id)) W3 hk3
   exact ⟨_, _, hr, hkp, .inr ⟨rfl, .exit id, hIx _ _ _ hi3 ht, hl4, hd4⟩⟩
  | goto t =>
   obtain ⟨hk3, hi3⟩ := hp
   obtain ⟨hr, ht, hl4, hd4, hkp⟩ := fin (some (.goto t)) W3 hk3
   exact ⟨_, _, hr, hkp, .inr ⟨rfl, .goto t, hIx _ _ _ hi3 ht, hl4, hd4⟩⟩
  | panic ch => exact hp.elim
  | outgrown => exact hp.elim
 ·rintro e W2 ⟨⟨v, rfl⟩, (⟨hi, hl, hd⟩ | ⟨c, hi, hl, hd⟩)⟩
  ·exact ⟨none, _, run_endLoop (P := P) hl (by simp [bk]), hdone _ _ (Nat.le_refl _) (hI k _ _ hi (Tn.put _ (by omega) hl rfl)) ((World.putObj_heap_other (by omega)).trans hd)⟩
  ·exact ⟨some c, _, run_endLoop (P := P) hl (by simp [bk]), hstop _ c _ (Nat.le_refl _) (hIx c _ _ hi (Tn.put _ (by omega) hl rfl)) ((World.putObj_heap_other (by omega)).trans hd)⟩
/-- .. of two values, where the loop's variables are no boxes. -/
theorem range_two {P : Program} {g : Operand} {ps : Array Tmp} {assign body : Code} {Q : Exit → Act → World → Prop} {a : Act} {w : World} {gf : Nat} {lb : Array Value}
  (hg : a.eval g = .func (.func gf) #[] lb) (eg : ∀ args w, (callFunc gf args).run P w = .ok (.enter gf args) w) (k : Nat) (hps : ps.size = 2)
  (En : Nat → Value → Value → World → Prop) (I : Nat → World → Prop) (Ix : Code → World → Prop) (hEn : ∀ i x y, OwL w.heap.size (En i x y)) (hI : ∀ i, OwL w.heap.size (I i)) (hIx : ∀ c, OwL w.heap.size (Ix c)) (h0 : I 0 w)
  (hseq : ItC P gf lb k 2 (fun i vs W => ∃ x y, vs = #[x, y] ∧ En i x y W) I w.heap.size) (asg : Nat → Value → Value → Act)
  (hassign : ∀ (l i : Nat) (x y : Value) (W : World) (K : Act → World → Prop), i < k → K (asg i x y) W → assign.wpIn (rndF l) 0 P (Exit.then K (fun _ _ _ => False)) { tmps := (ps.zip #[x, y]).foldl (fun t (p, v) => t.setIfInBounds p v) a.tmps, defers := [] } W)
  (hbody : ∀ (l i : Nat) (x y : Value) (W : World), i < k → I i W → En i x y W → body.wpIn (rndF l) 0 P (rdP w.heap.size (I (i + 1)) Ix W) (asg i x y) W)
  (hdone : ∀ (D : Nat) (W : World), w.heap.size ≤ D → I k W → W.heap[D]? = some (.deferred (some [])) → Q .normal (endAct a D) W)
  (hstop : ∀ (D : Nat) (c : Code) (W : World), w.heap.size ≤ D → Ix c W → W.heap[D]? = some (.deferred (some [])) → c.wpIn Fence.wide 0 P Q (endAct a D) W) :
  (Code.rangeFunc g ps assign body).wpIn Fence.wide 0 P Q a w :=
 range_law hg eg k (fun i vs W => ∃ x y, vs = #[x, y] ∧ En i x y W) I Ix hI hIx h0 (hps ▸ hseq) (fun i a' W => ∃ x y, a' = asg i x y ∧ En i x y W) (fun i _ A C h ht => by obtain ⟨x, y, h1, h2⟩ := h; exact ⟨x, y, h1, hEn i x y A C h2 ht⟩)
  (fun l i vs W K hik _ hi hen hK => by obtain ⟨x, y, rfl, hen⟩ := hen; exact hassign l i x y W K hik (hK _ _ (KpL.refl _ _) hi ⟨x, y, rfl, hen⟩)) (fun l i a' W hik hi hax => by obtain ⟨x, y, rfl, hen⟩ := hax; exact hbody l i x y W hik hi hen) hdone hstop
/-! ### A region in a round that calls another loop's yield -/
section
variable {P : Program} {ops : Array Oper} {Q : Exit → Act → World → Prop} {l n : Nat}
end
end Go.Proofs.YtdohmokhfajjpaaGreatDoor.Rg

/- Contracts of what writes numbers and texts: clipped, fresh, appendNumber, appendText, Uint, Text of package record. -/
namespace Go.Proofs.YtdohmokhfajjpaaGreatDoor
open Go Go.RowKit

theorem wpList_append_run {P : Program} {w w' : World} {ops : Array Oper} {rest : List Oper} {o : Oper} {a : Act} {Q : Exit → Act → World → Prop} (s x : Operand) (t t2 : TypeId)
  (ho : o.op = .call { callee := .builtin .append, args := #[s, x], argTypes := #[t, t2] }) (hw : Region.wanted o (yielded ops a.tmps) = true)
  (v xv v' : Value) (hs : a.eval s = v) (hx : a.eval x = xv) (hr : (Builtin.append_ #[t, t2] o.type #[v, xv]).run P w = .ok v' w') (h : wpList P ops Q rest (a.put o.dst v') w') : wpList P ops Q (o :: rest) a w := by
 refine BigFrame.wpList_want hw fun K hK => ?_
 unfold Oper.wp execOp
 simp only [ho, resolve, invoke, builtin, Sem.run_bind, Sem.run_pure, Result.andThen_ok, List.map_toArray, List.map_cons, List.map_nil, hs, hx, hr]
 exact hK _ _ h
def BufS (B : Nat) (w : World) (L : List Nat) (e : Ending) (w' : World) : Prop := ∃ v', e = .returned v' ∧ Buf B w' v' L ∧ Below B w w'
/-- Bytes that are told: in new memory, without spare room. -/
def OutB (B : Nat) (w : World) (v : Value) (bs : List Nat) : Prop := (v = .slice none 0 0 ∧ bs = []) ∨ ∃ g, v = .slice (some ⟨g, 0, none⟩) bs.length bs.length ∧ B ≤ g ∧ g < w.heap.size ∧ (∀ i, i < bs.length → w.cell? ⟨g, i, none⟩ = some (u8 (bs.getD i 0))) ∧ ∀ i, w.frozen? ⟨g, i, none⟩ = false
theorem OutB.form {B : Nat} {w : World} {v : Value} {bs : List Nat} (h : OutB B w v bs) : ∃ po, v = .slice po bs.length bs.length ∧ BL w po bs ∧ (po = none → bs.length = 0) := by
 rcases h with ⟨rfl, rfl⟩ | ⟨g, rfl, _, _, h, _⟩
 ·exact ⟨none, rfl, Or.inl rfl, fun _ => rfl⟩
 ·exact ⟨_, rfl, Or.inr ⟨g, 0, rfl, fun i hi => by rw [Nat.zero_add]; exact h i hi⟩, fun e => by cases e⟩
theorem OutB.below {B : Nat} {w w' : World} {v : Value} {bs : List Nat} (h : OutB B w v bs) (hb : Below w.heap.size w w') : OutB B w' v bs := by
 rcases h with h | ⟨g, h1, h2, h3, h4, h5⟩
 ·exact Or.inl h
 ·have e := hb.block g h3
  exact Or.inr ⟨g, h1, h2, by have := hb.size; omega, fun i hi => (World.cell?_of_block e).trans (h4 i hi), fun i => by have := h5 i; unfold World.frozen? at this ⊢; rw [e]; exact this⟩
theorem OutB.base {B C : Nat} {w : World} {v : Value} {bs : List Nat} (h : OutB B w v bs) (hC : C ≤ B) : OutB C w v bs := by
 rcases h with h | ⟨g, h1, h2, h3⟩
 ·exact Or.inl h
 ·exact Or.inr ⟨g, h1, by omega, h3⟩
theorem elem8 (w : World) : (sizeOf (Tryz.prog.elem 22)).run Tryz.prog w = .ok 1 w := by
 have hi : (Tryz.prog.info? (Tryz.prog.elem 22)).map (·.size) = some 1 := by kernel_rfl
 obtain ⟨i, h1, h2⟩ := Option.map_eq_some_iff.1 hi
 simp [sizeOf, typeInfo, h1, h2]
theorem underE8 : Tryz.prog.underlying 22 = some (.slice (Tryz.prog.elem 22)) := by kernel_rfl
theorem run_clip8 (po : Option Addr) (n c : Nat) (h : n ≤ c) (w : World) : (Instr.slice 22 (.slice po n c) none (some (.int .i64 (n : Int))) (some (.int .i64 (n : Int)))).run Tryz.prog w = .ok (.slice po n n) w := by
 rw [run_slice_hm (P := Tryz.prog) w 22 po n c underE8 .i64 .i64 (n : Int) (n : Int) (by omega) (by omega) (by omega), elem8]
 cases po with
 | none => simp [Result.andThen, sliced]
 | some a =>
  by_cases h0 : n = 0
  ·simp [Result.andThen, sliced, h0]
  ·simp [Result.andThen, sliced, h0, add_zero']
theorem Buf.cap {B : Nat} {w : World} {po : Option Addr} {n c : Nat} {L : List Nat} (h : Buf B w (.slice po n c) L) : n = L.length ∧ n ≤ c := by
 rcases h.2 with ⟨e, h0⟩ | ⟨g, cap, cur, e, _, hg, h1, _, h3, h4⟩
 ·cases e; exact ⟨h0.symm, Nat.le_refl _⟩
 ·cases e; exact ⟨rfl, h1⟩
theorem Buf.out {B : Nat} {w : World} {po : Option Addr} {n c : Nat} {L : List Nat} (h : Buf B w (.slice po n c) L) : OutB B w (.slice po n n) L := by
 have hbl := h.bl
 have hlt := own_ge h
 rcases h.2 with ⟨e, h0⟩ | ⟨g, cap, cur, e, hB, hg, h1, _, h3, h4⟩
 ·cases e; exact Or.inl ⟨rfl, List.eq_nil_of_length_eq_zero h0⟩
 ·cases e
  have hc : CAt w g cur 5 := hg
  refine Or.inr ⟨g, rfl, hB, hc.lt, fun i hi => ?_, fun i => hc.free i⟩
  rcases hbl with h | ⟨b, o, e, h⟩
  ·subst h; simp at hi
  ·cases e; have := h i hi; rwa [Nat.zero_add] at this
theorem clip_any (B : Nat) (v : Value) (L : List Nat) (w : World) (h : Buf B w v L) : Calls Tryz.prog 113 #[v] w fun e w' => (∃ v', e = .returned v' ∧ OutB B w v' L) ∧ w' = w := by
 obtain ⟨po, c, rfl⟩ := h.form
 have hcap := h.cap.2
 have hs := run_clip8 po L.length c hcap
 have H := hid h.out
 clear h
 go_enter Tryz.func113, Tryz.ntmps113
 go_wp2
 go_ret
 exact ⟨⟨_, rfl, H.out⟩, rfl⟩
def OutS (w : World) (bs : List Nat) (e : Ending) (w' : World) : Prop := ∃ v, e = .returned v ∧ OutB w.heap.size w' v bs ∧ Below w.heap.size w w'
theorem between_any (n a b : Int) (w : World) : Calls Tryz.prog 50 #[i64 n, i64 a, i64 b] w fun e w' => e = .returned (.bool (inR n a b)) ∧ w' = w := by
 by_cases h1 : a ≤ n
 ·by_cases h2 : n ≤ b
  ·have e : inR n a b = true := inR_iff.2 ⟨h1, h2⟩
   rw [e]
   go_enter Tryz.func50, Tryz.ntmps50
   go_wp2
   go_ret
   simp
  ·have e : inR n a b = false := by simp [inR, h2]
   rw [e]
   go_enter Tryz.func50, Tryz.ntmps50
   go_wp2
   go_ret
   simp
 ·have e : inR n a b = false := by simp [inR, h1]
  rw [e]
  go_enter Tryz.func50, Tryz.ntmps50
  go_wp2
  go_ret
  simp
theorem fresh_any (po : Option Addr) (c : Nat) (bs : List Nat) (w : World) (h : BL w po bs) (hc : po = none → c = 0) (hn : bs.length ≤ 1000000) : Calls Tryz.prog 114 #[.slice po bs.length c] w (OutS w bs) := by
 obtain ⟨v1, w1, hr, hb1, hg⟩ := (Buf.nil w.heap.size w).app po c bs h hc (by simpa using by omega) (Nat.le_refl _)
 have HRUN := hid hr
 have hw1 : Below w.heap.size w w1 := below_grown (Below.refl _ _) hg (Nat.le_refl _) (by intro b hb; cases hb)
 clear hr
 go_enter Tryz.func114, Tryz.ntmps114
 go_wp2_with (first
  | (at_builtin; refine wpList_append_run _ _ 22 22 rfl rfl _ _ _ rfl rfl HRUN.out ?_)
  | (go_at_call 113; refine (clip_any w.heap.size _ bs _ (by simpa using hb1)).mono ?_; rintro e w2 ⟨⟨v2, rfl, ho⟩, rfl⟩))
 go_ret
 exact ⟨v2, rfl, ho, hw1⟩
end Go.Proofs.YtdohmokhfajjpaaGreatDoor

/- Contracts of the reader of package record: need, take, one. -/
namespace Go.Proofs.YtdohmokhfajjpaaGreatDoor
open Go Go.RowKit

/-- A reader lies at block p: it has the bytes s still, or (none) a fault. -/
def Rd (w : World) (p : Nat) (s : Option (List Nat)) : Prop := ∃ po L, CAt w p #[.slice po L.length L.length, i64 (if s.isSome then 0 else 4)] 180 ∧ BL w po L ∧ (L ≠ [] → ∀ a, po = some a → a.block < p) ∧ (po = none → L = []) ∧ (s = none ∨ s = some L) ∧ L.length ≤ 100000 ∧ ∀ x ∈ L, x < 256
theorem Rd.lt {w : World} {p : Nat} {s : Option (List Nat)} (h : Rd w p s) : p < w.heap.size := by obtain ⟨_, _, h, _⟩ := h; exact h.lt
theorem Rd.only {w w' : World} {p : Nat} {s : Option (List Nat)} {S : Nat → Prop} (h : Rd w p s) (ho : Only S w w') (hS : ∀ i, S i → p < i) : Rd w' p s := by
 obtain ⟨po, L, h1, h2, h3, h4⟩ := h
 have hp := h1.lt
 exact ⟨po, L, h1.keep (ho.block p hp fun e => by have := hS _ e; omega), h2.onlyAt ho (fun hne a ha e => by have := hS _ e; have := h3 hne a ha; omega), h3, h4⟩
theorem Rd.below {w w' : World} {p : Nat} {s : Option (List Nat)} (h : Rd w p s) (hb : Below w.heap.size w w') : Rd w' p s := h.only (S := fun _ => False) (Only.of_below hb) (fun _ h => h.elim)
def ReS (w : World) (p : Nat) (s : Option (List Nat)) (v : Value) (e : Ending) (w' : World) : Prop := e = .returned v ∧ Rd w' p s ∧ Only (fun b => b = p) w w'
theorem need_any (w : World) (p : Nat) (s : Option (List Nat)) (b : Bool) (h : Rd w p s) : Calls Tryz.prog 117 #[ptr p, .bool b] w (ReS w p (if b then s else none) (.tuple #[])) := by
 have H := hid h
 obtain ⟨po, L, h1, h2, h3, h4, h5, h6⟩ := h
 have HC := hid h1
 have c1 := h1.cell 1
 have z1 := h1.free 1
 simp at c1
 cases b with
 | true =>
  clear h1 h2 h3 h4 h5 h6
  go_enter Tryz.func117, Tryz.ntmps117
  go_wp2
  go_end0
  exact ⟨rfl, H.out, Only.refl _ _⟩
 | false =>
  cases s with
  | none =>
   simp at c1
   clear h1 h2 h3 h4 h5 h6
   go_enter Tryz.func117, Tryz.ntmps117
   go_wp2
   go_end0
   exact ⟨rfl, H.out, Only.refl _ _⟩
  | some K =>
   simp at c1
   have HX : Hid (Rd (w.setCell ⟨p, 1, none⟩ (i64 4)) p none) := by
    refine ⟨po, L, ?_, h2.onlyAt (Only.set (S := fun b => b = p) w ⟨p, 1, none⟩ _ rfl) (fun hne a ha e => by have := h3 hne a ha; omega), h3, h4, Or.inl rfl, h6⟩
    have := h1.set 1 (i64 4)
    simpa using this
   clear h1 h2 h3 h4 h5 h6
   go_enter Tryz.func117, Tryz.ntmps117
   go_wp2
   go_end0
   exact ⟨rfl, HX.out, Only.set _ _ _ rfl⟩
theorem need_true (w : World) (p : Nat) : Calls Tryz.prog 117 #[ptr p, .bool true] w fun e w' => e = .returned (.tuple #[]) ∧ w' = w := by
 go_enter Tryz.func117, Tryz.ntmps117
 go_wp2
 go_end0
 exact ⟨rfl, rfl⟩
theorem need_gone (w : World) (p : Nat) (b : Bool) (h : Rd w p none) : Calls Tryz.prog 117 #[ptr p, .bool b] w fun e w' => e = .returned (.tuple #[]) ∧ w' = w := by
 obtain ⟨po, L, h1, _⟩ := h
 have c1 := h1.cell 1
 simp at c1
 clear h1
 cases b <;>
 ·go_enter Tryz.func117, Tryz.ntmps117
  go_wp2
  go_end0
  exact ⟨rfl, rfl⟩
theorem run_from8 (po : Option Addr) (n c l : Nat) (hl : l ≤ n) (hc : n ≤ c) : ∃ p2 : Option Addr, (∀ w : World, (Instr.slice 22 (.slice po n c) (some (.int .i64 (l : Int))) none none).run Tryz.prog w = .ok (.slice p2 (n - l) (c - l)) w) ∧
  (∀ b o, po = some ⟨b, o, none⟩ → l < n → p2 = some ⟨b, o + l, none⟩) ∧ (p2 = none → po = none) ∧ (∀ a, p2 = some a → ∃ a', po = some a' ∧ a.block = a'.block) := by
 have hr : ∀ w, (Instr.slice 22 (.slice po n c) (some (.int .i64 (l : Int))) none none).run Tryz.prog w = .ok (sliced po l n c 1) w := fun w => by
  rw [run_slice_l (P := Tryz.prog) w 22 po n c underE8 .i64 (l : Int) (by omega) (by omega), elem8]
  simp [Result.andThen]
 cases po with
 | none => exact ⟨none, fun w => by rw [hr]; simp [sliced], (fun b o e => by cases e), fun _ => rfl, fun a e => by cases e⟩
 | some a =>
  by_cases e : c = l
  ·exact ⟨some a, fun w => by rw [hr]; simp [sliced, e], (fun b o _ q => by omega), (fun e => by cases e), fun a2 e2 => ⟨a, rfl, by cases e2; rfl⟩⟩
  ·refine ⟨some (a.add l), fun w => by rw [hr]; simp [sliced, e], (fun b o q _ => by cases q; rw [add_none]), (fun e => by cases e), fun a2 e2 => ⟨a, rfl, by cases e2; unfold Addr.add; split <;> rfl⟩⟩
theorem run_head8 (po : Option Addr) (n c h : Nat) (hh : h ≤ c) (w : World) : (Instr.slice 22 (.slice po n c) none (some (.int .i64 (h : Int))) (some (.int .i64 (h : Int)))).run Tryz.prog w = .ok (.slice po h h) w := by
 rw [run_slice_hm (P := Tryz.prog) w 22 po n c underE8 .i64 .i64 (h : Int) (h : Int) (by omega) (by omega) (by omega), elem8]
 cases po with
 | none => simp [Result.andThen, sliced]
 | some a =>
  by_cases h0 : h = 0
  ·simp [Result.andThen, sliced, h0]
  ·simp [Result.andThen, sliced, h0, add_zero']
def TakS (w : World) (p n : Nat) (L : List Nat) (e : Ending) (w' : World) : Prop := ∃ po, e = .returned (.slice po n n) ∧ BL w' po (L.take n) ∧ Rd w' p (some (L.drop n)) ∧ Only (fun b => b = p) w w' ∧ (po = none → n = 0)
set_option maxRecDepth 100000 in
theorem take_ok (w : World) (p n : Nat) (L : List Nat) (h : Rd w p (some L)) (hn : n ≤ L.length) : Calls Tryz.prog 124 #[ptr p, i64 n] w (TakS w p n L) := by
 have H := hid h
 obtain ⟨po, L', h1, h2, h3, h4, h5, h6, h7⟩ := h
 have e : L' = L := by rcases h5 with h | h <;> cases h; rfl
 subst e
 have c0 := h1.cell 0
 have c1 := h1.cell 1
 have z0 := h1.free 0
 simp at c0 c1
 obtain ⟨p2, hfrom, hp2, hp3, hp4⟩ := run_from8 po L'.length L'.length n hn (Nat.le_refl _)
 have hhead := run_head8 po L'.length L'.length n hn
 have HX : Hid (Rd (w.setCell ⟨p, 0, none⟩ (.slice p2 (L'.length - n) (L'.length - n))) p (some (L'.drop n))) := by
  refine ⟨p2, L'.drop n, ?_, ?_, fun hne a ha => ?_, fun hn2 => ?_, Or.inr rfl, by rw [List.length_drop]; omega, fun x hx => h7 x (List.mem_of_mem_drop hx)⟩
  ·have := h1.set 0 (.slice p2 (L'.length - n) (L'.length - n))
   rw [List.length_drop]; simpa using this
  ·rcases Nat.lt_or_ge n L'.length with hlt | hge
   ·have h2' := h2.onlyAt (Only.set (S := fun b => b = p) w ⟨p, 0, none⟩ (.slice p2 (L'.length - n) (L'.length - n)) rfl) (fun hne a ha e => by have := h3 hne a ha; omega)
    rcases h2' with h | ⟨b, o, hpo, hc⟩
    ·subst h; simp at hlt
    ·have hq := hp2 b o hpo hlt
     have hd := BL.drop (Or.inr ⟨b, o, rfl, hc⟩) n
     rw [← hq] at hd
     exact hd
   ·exact Or.inl (List.drop_eq_nil_of_le hge)
  ·obtain ⟨a', ha', he⟩ := hp4 a ha
   rw [he]; exact h3 (fun e => hne (by rw [e]; simp)) a' ha'
  ·rw [h4 (hp3 hn2)]; simp
 have HT := hid ((h2.onlyAt (Only.set (S := fun b => b = p) w ⟨p, 0, none⟩ (.slice p2 (L'.length - n) (L'.length - n)) rfl) (fun hne a ha e => by have := h3 hne a ha; omega)).take n)
 have HPN : Hid (po = none → n = 0) := fun e => by have := h4 e; subst this; simpa using hn
 clear h1 h2 h3 h4 h5 h6 h7 hp2 hp3 hp4
 have hle : (n : Int) ≤ (L'.length : Int) := by omega
 go_enter Tryz.func124, Tryz.ntmps124
 go_wp2_with (go_at_call 117; refine (need_true w p).mono ?_; rintro e w' ⟨rfl, hw'⟩; have hw2 := hw'.symm; subst hw2)
 go_ret
 exact ⟨po, rfl, HT.out, HX.out, Only.set _ _ _ rfl, HPN.out⟩
set_option maxRecDepth 100000 in
theorem take_bad (w : World) (p : Nat) (n : Int) (s : Option (List Nat)) (h : Rd w p s) (hn : ∀ L, s = some L → (L.length : Int) < n) : Calls Tryz.prog 124 #[ptr p, i64 n] w (ReS w p none (.slice none 0 0)) := by
 have H := hid h
 obtain ⟨po, L, h1, h2, h3, h4, h5, h6, h7⟩ := h
 have c0 := h1.cell 0
 simp at c0
 clear h1 h2 h3 h4 h6 h7
 cases s with
 | none =>
  clear h5
  by_cases hle : n ≤ (L.length : Int)
  ·go_enter Tryz.func124, Tryz.ntmps124
   go_wp2_with (go_at_call 117; refine (need_gone w p _ H.out).mono ?_; rintro e w' ⟨rfl, hw'⟩; have hw2 := hw'.symm; subst hw2; obtain ⟨po2, L2, k1, _⟩ := H.out; have c1 := k1.cell 1; simp at c1; clear k1)
   go_ret
   exact ⟨rfl, H.out, Only.refl _ _⟩
  ·go_enter Tryz.func124, Tryz.ntmps124
   go_wp2_with (go_at_call 117; refine (need_gone w p _ H.out).mono ?_; rintro e w' ⟨rfl, hw'⟩; have hw2 := hw'.symm; subst hw2; obtain ⟨po2, L2, k1, _⟩ := H.out; have c1 := k1.cell 1; simp at c1; clear k1)
   go_ret
   exact ⟨rfl, H.out, Only.refl _ _⟩
 | some K =>
  have e : K = L := by rcases h5 with h | h <;> cases h; rfl
  subst e
  have hgt := hn K rfl
  clear hn h5
  have hle : ¬ n ≤ (K.length : Int) := by omega
  go_enter Tryz.func124, Tryz.ntmps124
  go_wp2_with (go_at_call 117; refine (need_any w p (some K) false H.out).mono ?_; rintro e w' ⟨rfl, hr, ho⟩; have HR := hid hr; have HO := hid ho; obtain ⟨po2, L2, k1, _⟩ := hr; have c1 := k1.cell 1; simp at c1; clear k1 ho)
  go_ret
  exact ⟨rfl, by simpa using HR.out, HO.out⟩
def oneV : Option (List Nat) → Nat | some (c :: _) => c | _ => 0
def oneR : Option (List Nat) → Option (List Nat) | some (_ :: r) => some r | _ => none
theorem one_any (w : World) (p : Nat) (s : Option (List Nat)) (h : Rd w p s) : Calls Tryz.prog 116 #[ptr p] w (ReS w p (oneR s) (u8 (oneV s))) := by
 by_cases hs : ∃ c r, s = some (c :: r)
 ·obtain ⟨c, r, rfl⟩ := hs
  have ht := take_ok w p 1 (c :: r) h (by simp)
  clear h
  go_enter Tryz.func116, Tryz.ntmps116
  go_wp2_with (go_at_call 124; refine ht.mono ?_; rintro e w1 ⟨po, rfl, hb, hr, ho, hn⟩; have HR := hid hr; have HO := hid ho; obtain ⟨po2, L2, k1, _⟩ := hr; have c1 := k1.cell 1; simp at c1; clear k1 ho; have hb' : ∃ b o, po = some ⟨b, o, none⟩ ∧ w1.cell? ⟨b, o, none⟩ = some (u8 c) := (by
   rcases hb with h | ⟨b, o, h1, h2⟩
   ·simp at h
   ·exact ⟨b, o, h1, by have := h2 0 (by simp); simpa using this⟩); obtain ⟨b, o, rfl, hcell⟩ := hb'; clear hb hn)
  go_ret
  exact ⟨rfl, by simpa [oneR] using HR.out, HO.out⟩
 ·have e1 : oneV s = 0 := by match s, hs with | none, _ => rfl | some [], _ => rfl | some (c :: r), hs => exact absurd ⟨c, r, rfl⟩ hs
  have e2 : oneR s = none := by match s, hs with | none, _ => rfl | some [], _ => rfl | some (c :: r), hs => exact absurd ⟨c, r, rfl⟩ hs
  have ht := take_bad w p 1 s h (fun L hL => by
   match L, hL with
   | [], _ => simp
   | c :: r, hL => exact absurd ⟨c, r, hL⟩ hs)
  rw [e1, e2]
  clear h
  go_enter Tryz.func116, Tryz.ntmps116
  go_wp2_with (go_at_call 124; refine ht.mono ?_; rintro e w1 ⟨rfl, hr, ho⟩; have HR := hid hr; have HO := hid ho; obtain ⟨po2, L2, k1, _⟩ := hr; have c1 := k1.cell 1; simp at c1; clear k1 ho)
  go_ret
  exact ⟨rfl, HR.out, HO.out⟩
end Go.Proofs.YtdohmokhfajjpaaGreatDoor
