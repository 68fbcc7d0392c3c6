/- Texts laid into one, cut to what is needed: the remark ahead of each part says what is proved there. -/
import Derived.Test.YtopibkoklagceaaGreatQap
import Derived.Test.YtopibkoklagceaaGreatQax
import Derived.Test.YtopibkoklagceaaGreatQak
import Derived.Test.YtopibkoklagceaaGreatQab
import Derived.Test.YtopibkoklagceaaGreatQam
import Derived.RangeFuncNested
import Derived.RangeFuncBound
import Derived.RangeFuncCalls
import Derived.RangeFuncLeaves
import Derived.OrdersIn
import Derived.TacticsIn
import Derived.Test.YtopibkoklagceaaGreatQal
/- Shard files as mathematics: the shards and files of bytes; what a file is read as; which drives' files are sound and taken; what they make; any k of them make the bytes. No conditions but bounds. -/
namespace Go.Proofs.YtopibkoklagceaaGreat
open Go Go.RowKit

/-- Bytes as the stripe's mathematics has them. -/
def kx (b : List Nat) (j : Nat) : U.K := U.kb (b.getD j 0)
theorem getD_lt8 {b : List Nat} (h8 : ∀ z ∈ b, z < 256) (j : Nat) : b.getD j 0 < 256 := by
 rcases Nat.lt_or_ge j b.length with h | h
 ·exact get256 h8 j h
 ·rw [List.getD_eq_getElem?_getD, List.getElem?_eq_none h]; decide
theorem kx_val {b : List Nat} (h8 : ∀ z ∈ b, z < 256) (j : Nat) : (kx b j).val = b.getD j 0 := U.kb_val _ (getD_lt8 h8 j)
theorem list_range (b : List Nat) : (List.range b.length).map (fun j => b.getD j 0) = b := by
 apply List.ext_getElem?
 intro i
 rcases Nat.lt_or_ge i b.length with h | h
 ·simp [h]
 ·simp [h]
theorem range_getD (n : Nat) (f : Nat → Nat) (j : Nat) (hj : j < n) : ((List.range n).map f).getD j 0 = f j := by simp [hj]
theorem map_range_eq {n : Nat} {f g : Nat → Nat} (h : ∀ j, j < n → f j = g j) : (List.range n).map f = (List.range n).map g := by
 apply List.map_congr_left; intro j hj; exact h j (List.mem_range.1 hj)

/-- The shards of bytes, by their places. -/
def shd (k : Nat) (b : List Nat) (i : Nat) : List Nat := (List.range (U.lgt b.length k)).map fun j => (U.ash k (U.lgt b.length k) b.length (kx b) i j).val
theorem shd_len (k : Nat) (b : List Nat) (i : Nat) : (shd k b i).length = U.lgt b.length k := by simp [shd]
theorem shd_lt (k : Nat) (b : List Nat) (i : Nat) : ∀ z ∈ shd k b i, z < 256 := fun z hz => by
 unfold shd at hz
 obtain ⟨j, _, rfl⟩ := List.mem_map.1 hz
 exact U.K.lt _
/-- The file of bytes. -/
def flL (s : List Nat) : List Nat := H.fileL s.length fun j => s.getD j 0
/-- All shard files of bytes. -/
def fls (k m : Nat) (b : List Nat) : List (List Nat) := (List.range (k + m)).map fun i => flL (shd k b i)
theorem fls_len (k m : Nat) (b : List Nat) : (fls k m b).length = k + m := by simp [fls]
theorem fls_get (k m : Nat) (b : List Nat) (i : Nat) (hi : i < k + m) : (fls k m b)[i]? = some (flL (shd k b i)) := by simp [fls, hi]

/-- What a file is read as, of so many bytes; the error's number. -/
def rdE (f : List Nat) (n : Nat) : Int := H.partE (fun j => f.getD j 0) f.length n 0 n
def rdB (f : List Nat) (n : Nat) : List Nat := H.partL (fun j => f.getD j 0) f.length n 0 n
theorem rdB_ok {f : List Nat} {n : Nat} (h : rdE f n = 0) : rdB f n = (List.range n).map fun j => H.dat (fun j => f.getD j 0) j := by
 unfold rdE H.partE at h
 unfold rdB H.partL
 split at h
 ·rename_i h1
  split at h
  ·rename_i h2
   split at h
   ·rename_i h3
    rw [if_pos ⟨h1, h2, h3⟩, H.parL_dat _ _ _ _ (by simp) (by simp)]
    simp
   ·cases h
  ·cases h
 ·cases h
theorem rdB_len {f : List Nat} {n : Nat} (h : rdE f n = 0) : (rdB f n).length = n := by rw [rdB_ok h]; simp
theorem rdB_lt {f : List Nat} (h8 : ∀ z ∈ f, z < 256) {n : Nat} (h : rdE f n = 0) : ∀ z ∈ rdB f n, z < 256 := fun z hz => by
 rw [rdB_ok h] at hz
 obtain ⟨j, _, rfl⟩ := List.mem_map.1 hz
 exact getD_lt8 h8 _
theorem flL_len (s : List Nat) : (flL s).length = s.length + 32 * H.cnt s.length := by
 unfold flL
 exact H.fileL_len _ _
theorem rd_fl (s : List Nat) (hs : s.length ≤ 65536) : rdE (flL s) s.length = 0 ∧ rdB (flL s) s.length = s := by
 have h := H.part_fil s.length (fun j => s.getD j 0) hs 0 s.length (Nat.zero_le _) (Nat.le_refl _)
 have e : (fun j => (flL s).getD j 0) = H.fil s.length (fun j => s.getD j 0) := rfl
 unfold rdE rdB
 rw [e, flL_len s]
 refine ⟨by simpa using h.2, ?_⟩
 have h1 := h.1
 simp only [Nat.sub_zero, Nat.zero_add] at h1
 rw [list_range] at h1
 simpa using h1

/-- Is a drive's file sound? How many are, of the first i? Is the one at i taken? -/
def sdB (n : Nat) (c : Cp) : Bool := decide (c.err = 0) && decide (rdE c.b n = 0)
def csN (n : Nat) (l : List Cp) : Nat → Nat
 | 0 => 0
 | i + 1 => csN n l i + (match l[i]? with | some c => if sdB n c = true then 1 else 0 | none => 0)
def hvB (n k : Nat) (l : List Cp) (i : Nat) : Bool := (match l[i]? with | some c => sdB n c | none => false) && decide (csN n l i < k)
def rdS (n : Nat) (l : List Cp) (i : Nat) : List Nat := match l[i]? with | some c => rdB c.b n | none => []
theorem cn_hv (n k : Nat) (l : List Cp) : ∀ i, U.cn (hvB n k l) i = min k (csN n l i)
 | 0 => by simp [U.cn, csN]
 | i + 1 => by
  have ih := cn_hv n k l i
  show U.cn (hvB n k l) i + (if ((match l[i]? with | some c => sdB n c | none => false) && decide (csN n l i < k)) = true then 1 else 0) = min k (csN n l i + (match l[i]? with | some c => if sdB n c = true then 1 else 0 | none => 0))
  rw [ih]
  cases l[i]? with
  | none => simp
  | some c =>
   cases h : sdB n c
   ·simp [h]
   ·simp only [h, Bool.true_and, decide_eq_true_eq, if_true]
    split <;> omega
theorem cs_mono (n : Nat) (l : List Cp) (i : Nat) : ∀ d, csN n l i ≤ csN n l (i + d)
 | 0 => Nat.le_refl _
 | d + 1 => Nat.le_trans (cs_mono n l i d) (by show _ ≤ csN n l (i + d) + _; omega)
theorem hv_past {n k : Nat} {l : List Cp} {i j : Nat} (h : k ≤ csN n l i) (hj : i ≤ j) : hvB n k l j = false := by
 obtain ⟨d, rfl⟩ := Nat.le.dest hj
 have := cs_mono n l i d
 unfold hvB
 have h2 : ¬ csN n l (i + d) < k := by omega
 simp [h2]
/-- What those make that are taken. -/
def jnB (k m s : Nat) (l : List Cp) : List Nat := (List.range s).map fun j => (U.jnd (U.lgt s k) (U.mdd k (k + m) (hvB (U.lgt s k) k l) (fun i => kx (rdS (U.lgt s k) l i))) j).val
theorem jnB_len (k m s : Nat) (l : List Cp) : (jnB k m s l).length = s := by simp [jnB]
theorem jnB_lt (k m s : Nat) (l : List Cp) : ∀ z ∈ jnB k m s l, z < 256 := fun z hz => by
 unfold jnB at hz
 obtain ⟨j, _, rfl⟩ := List.mem_map.1 hz
 exact U.K.lt _
/-- The bytes of a version by what drives answer; the error's number. -/
def whE (k m s : Nat) (sum : List Nat) (l : List Cp) : Int := if csN (U.lgt s k) l l.length < k then 10 else if dig (jnB k m s l) = sum then 0 else 14
def whB (k m s : Nat) (sum : List Nat) (l : List Cp) : List Nat := if whE k m s sum l = 0 then jnB k m s l else []
/-- Any k that are sound and have the bytes' shards make the bytes. -/
theorem jn_all {k m : Nat} {b : List Nat} {l : List Cp} (h8 : ∀ z ∈ b, z < 256) (h0 : 1 ≤ k) (h : k + m ≤ 16) (hl : l.length = k + m) (hc : k ≤ csN (U.lgt b.length k) l l.length)
  (hs : ∀ i c, l[i]? = some c → sdB (U.lgt b.length k) c = true → rdB c.b (U.lgt b.length k) = shd k b i) : jnB k m b.length l = b := by
 have hcn : k ≤ U.cn (hvB (U.lgt b.length k) k l) (k + m) := by rw [cn_hv, ← hl]; omega
 have key : ∀ r j, j < U.lgt b.length k → U.mdd k (k + m) (hvB (U.lgt b.length k) k l) (fun i => kx (rdS (U.lgt b.length k) l i)) r j = U.ash k (U.lgt b.length k) b.length (kx b) r j := by
  intro r j hj
  refine U.mdd_all (by omega) (by omega) hcn r j ?_
  intro i hi hv
  unfold hvB at hv
  cases hq : l[i]? with
  | none => rw [hq] at hv; simp at hv
  | some c =>
   rw [hq] at hv
   have hv : sdB (U.lgt b.length k) c = true := by simp at hv; exact hv.1
   have e := hs i c hq hv
   have e2 : rdS (U.lgt b.length k) l i = shd k b i := by unfold rdS; rw [hq]; exact e
   rw [e2]
   unfold kx shd
   rw [range_getD _ _ _ hj]
   apply U.K.ext
   rw [U.kb_val _ (U.K.lt _)]
   rfl
 have hroom := U.lgt_room b.length k h0
 unfold jnB
 conv => rhs; rw [← list_range b]
 apply map_range_eq
 intro j hj
 rw [U.jnd_congr (k := k) hroom (fun i _ j hj => key i j hj) j hj, U.jnd_ash j hj hroom, kx_val h8]
end Go.Proofs.YtopibkoklagceaaGreat

/- A range over a function whose iterator may hold such ranges itself, and yields what it has just read: all that lies from the loop's beginning on lies as it lay. -/
namespace Go.Proofs.YtopibkoklagceaaGreat.Rg
open Go Go.RowKit
open Go.Proofs.YtopibkoklagceaaGreat.H (rndF calls_rnd rows_rnd noDefer noDefer_at list_rnd round_list round_any)

/-! ### A range over a function whose iterator may hold such ranges itself -/
/-- What keeps a loop's books. -/
def bkO : Obj → Bool
 | .loop _ => true
 | .deferred _ => true
 | _ => false
/-- New blocks, and at most one block from B on that keeps a loop's books has turned. -/
def Tn (B : Nat) (A C : World) : Prop := ∃ row : Option Nat, A.grownBy C row ∧ ∀ r, row = some r → B ≤ r ∧ ∃ o : Obj, A.heap[r]? = some o ∧ bkO o = true
theorem Tn.mono {B B' : Nat} {A C : World} (h : Tn B A C) (hB : B' ≤ B) : Tn B' A C := by
 obtain ⟨row, hg, hr⟩ := h
 exact ⟨row, hg, fun r e => ⟨Nat.le_trans hB (hr r e).1, (hr r e).2⟩⟩
theorem Tn.alloc (B : Nat) (A : World) (o : Obj) : Tn B A (A.alloc o) := ⟨none, World.grownBy_alloc A o none, fun _ e => by cases e⟩
theorem Tn.put {B : Nat} {A : World} {r : Nat} {o : Obj} (o' : Obj) (hB : B ≤ r) (h : A.heap[r]? = some o) (hb : bkO o = true) : Tn B A (A.putObj r o') :=
 ⟨some r, grownBy_putObj' A r o', fun q e => by cases e; exact ⟨hB, o, h, hb⟩⟩
theorem Tn.low {B : Nat} {A C : World} (h : Tn B A C) {k : Nat} (hk : k < B) (hA : k < A.heap.size) : C.heap[k]? = A.heap[k]? := by
 obtain ⟨row, hg, hr⟩ := h
 exact hg.block k hA fun e => by have := (hr k e.symm).1; omega
theorem Tn.other {B : Nat} {A C : World} (h : Tn B A C) {k : Nat} {o : Obj} (hk : A.heap[k]? = some o) (ho : bkO o = false) : C.heap[k]? = A.heap[k]? := by
 obtain ⟨row, hg, hr⟩ := h
 refine hg.block k (Array.getElem?_eq_some_iff.1 hk).1 fun e => ?_
 obtain ⟨_, o', h1, h2⟩ := hr k e.symm
 rw [hk] at h1; cases h1; rw [ho] at h2; cases h2
theorem Tn.size {B : Nat} {A C : World} (h : Tn B A C) : A.heap.size ≤ C.heap.size := by obtain ⟨_, hg, _⟩ := h; exact hg.size
theorem grown_below {A C : World} (h : Below A.heap.size A C) : A.grownBy C none := ⟨h.os, h.tape, h.output, h.size, fun i hi _ => h.block i hi⟩
theorem Tn.below {B : Nat} {A C : World} (h : Below A.heap.size A C) : Tn B A C := ⟨none, grown_below h, fun _ e => by cases e⟩
/-- I abides that. -/
def OwL (B : Nat) (I : World → Prop) : Prop := ∀ A C, I A → Tn B A C → I C
/-- All from B on lies as it lay. -/
structure KpL (B : Nat) (W W' : World) : Prop where
 size : W.heap.size ≤ W'.heap.size
 same : ∀ (r : Nat) (o : Obj), B ≤ r → W.heap[r]? = some o → W'.heap[r]? = some o
theorem KpL.refl (B : Nat) (W : World) : KpL B W W := ⟨Nat.le_refl _, fun _ _ _ h => h⟩
theorem KpL.trans {B : Nat} {X Y Z : World} (h : KpL B X Y) (k : KpL B Y Z) : KpL B X Z := ⟨Nat.le_trans h.size k.size, fun r o hB hr => k.same r o hB (h.same r o hB hr)⟩
theorem KpL.mono {B B' : Nat} {X Y : World} (h : KpL B X Y) (hB : B ≤ B') : KpL B' X Y := ⟨h.size, fun r _o hr => h.same r _o (Nat.le_trans hB hr)⟩
theorem KpL.below {B : Nat} {X Y : World} (h : Below X.heap.size X Y) : KpL B X Y := ⟨h.size, fun r _ _ hr => (h.block r (Array.getElem?_eq_some_iff.1 hr).1).trans hr⟩
/-- How a round may be left. -/
def rdP (B : Nat) (Go : World → Prop) (Ix : Code → World → Prop) (W : World) : Exit → Act → World → Prop
 | .normal, _, W' => KpL B W W' ∧ Go W'
 | .ret, _, W' => KpL B W W' ∧ Ix .ret W'
 | .exit id, _, W' => KpL B W W' ∧ Ix (.exit id) W'
 | .goto t, _, W' => KpL B W W' ∧ Ix (.goto t) W'
 | .panic _, _, _ => False
 | .outgrown, _, _ => False
/-- What a call of yield comes to. -/
def Yld (P : Program) (l : Nat) (args : Array Value) (B : Nat) (W : World) (Go St : World → Prop) : Prop :=
 YieldAt Fence.wide 0 P l args W fun e W' => KpL B W W' ∧ ((e = .returned (.bool true) ∧ Go W') ∨ (e = .returned (.bool false) ∧ St W'))
/-- What an iterator gf with the captured values lb does that is called in W1, for the caller's I: it goes on from J i to J (i + 1) by a call of yield where En i holds, or for itself. -/
def ItC (P : Program) (gf : Nat) (lb : Array Value) (k ns : Nat) (En : Nat → Array Value → World → Prop) (I : Nat → World → Prop) (B : Nat) : Prop :=
 ∀ (l : Nat) (W1 : World) (J : Nat → World → Prop) (Jx : World → Prop), B ≤ W1.heap.size → (∀ i, OwL W1.heap.size (J i)) → OwL W1.heap.size Jx → (∀ i W, J i W → I i W) → (∀ i i' W, J i W → I i' W → J i' W) →
  (∀ i vs W, i < k → vs.size = ns → J i W → En i vs W → Yld P l vs W1.heap.size W (J (i + 1)) Jx) → J 0 W1 → Calls P gf (#[.func (.yield l) #[] #[]] ++ lb) W1 fun e W' => (∃ v, e = .returned v) ∧ (J k W' ∨ Jx W')
def endAct (a : Act) (D : Nat) : Act := { a with defers := { target := .collected D, args := #[] } :: a.defers }
theorem range_law {P : Program} {g : Operand} {ps : Array Tmp} {assign body : Code} {Q : Exit → Act → World → Prop} {a : Act} {w : World} {gf : Nat} {lb : Array Value}
  (hg : a.eval g = .func (.func gf) #[] lb) (eg : ∀ args w, (callFunc gf args).run P w = .ok (.enter gf args) w) (k : Nat)
  (En : Nat → Array Value → World → Prop) (I : Nat → World → Prop) (Ix : Code → World → Prop) (hI : ∀ i, OwL w.heap.size (I i)) (hIx : ∀ c, OwL w.heap.size (Ix c)) (h0 : I 0 w) (hseq : ItC P gf lb k ps.size En I w.heap.size)
  (Ax : Nat → Act → World → Prop) (hAx : ∀ i a', OwL w.heap.size (Ax i a'))
  (hassign : ∀ (l i : Nat) (vs : Array Value) (W : World) (K : Act → World → Prop), i < k → vs.size = ps.size → I i W → En i vs W → (∀ a' W', KpL w.heap.size W W' → I i W' → Ax i a' W' → K a' W') →
   assign.wpIn (rndF l) 0 P (Exit.then K (fun _ _ _ => False)) { tmps := (ps.zip vs).foldl (fun t (p, v) => t.setIfInBounds p v) a.tmps, defers := [] } W)
  (hbody : ∀ (l i : Nat) (a' : Act) (W : World), i < k → I i W → Ax i a' W → body.wpIn (rndF l) 0 P (rdP w.heap.size (I (i + 1)) Ix W) a' W)
  (hdone : ∀ (D : Nat) (W : World), w.heap.size ≤ D → I k W → W.heap[D]? = some (.deferred (some [])) → Q .normal (endAct a D) W)
  (hstop : ∀ (D : Nat) (c : Code) (W : World), w.heap.size ≤ D → Ix c W → W.heap[D]? = some (.deferred (some [])) → c.wpIn Fence.wide 0 P Q (endAct a D) W) :
  (Code.rangeFunc g ps assign body).wpIn Fence.wide 0 P Q a w := by
 refine wpIn_rangeFunc fun fn hfn => ?_
 let bk : LoopState → Option Code → Loop := fun st pe => { state := st, pending := pe, fn, tmps := a.tmps, params := ps, assign, body, defers := w.heap.size }
 obtain ⟨W1, hW1⟩ : ∃ W1, (w.alloc (.deferred (some []))).alloc (.loop (bk .ready none)) = W1 := ⟨_, rfl⟩
 have hsz : W1.heap.size = w.heap.size + 2 := by rw [← hW1]; simp
 have hd1 : W1.heap[w.heap.size]? = some (.deferred (some [])) := by rw [← hW1]; exact (Below.heap_alloc _ _ _ (by simp)).trans (World.alloc_heap_new w _)
 have hl1 : W1.heap[w.heap.size + 1]? = some (.loop (bk .ready none)) := by
  rw [← hW1]; have := World.alloc_heap_new (w.alloc (.deferred (some []))) (.loop (bk .ready none)); rwa [World.size_alloc] at this
 have hi1 : I 0 W1 := by rw [← hW1]; exact hI 0 _ _ (hI 0 _ _ h0 (Tn.alloc _ _ _)) (Tn.alloc _ _ _)
 let J : Nat → World → Prop := fun i W => I i W ∧ W.heap[w.heap.size + 1]? = some (.loop (bk .ready none)) ∧ W.heap[w.heap.size]? = some (.deferred (some []))
 let Jx : World → Prop := fun W => ∃ c, Ix c W ∧ W.heap[w.heap.size + 1]? = some (.loop (bk .done (some c))) ∧ W.heap[w.heap.size]? = some (.deferred (some []))
 have kept : ∀ {A C : World} {r : Nat} {o : Obj}, Tn W1.heap.size A C → r < w.heap.size + 2 → A.heap[r]? = some o → C.heap[r]? = some o := fun ht hr h => (ht.low (by omega) (Array.getElem?_eq_some_iff.1 h).1).trans h
 refine ⟨w.heap.size + 1, [{ target := .collected w.heap.size, args := #[] }], W1, { target := .fn (.func gf) lb, args := #[.func (.yield (w.heap.size + 1)) #[] #[]] }, W1, gf, #[.func (.yield (w.heap.size + 1)) #[] #[]] ++ lb, W1, ?_, ?_, fun _ _ => trivial, ?_, fun h => (by cases h), ?_⟩
 ·rw [← hW1]; exact run_enterLoop_outer _ _ _ _ _
 ·simp only [resolve, hg]; simp [go_sem]
 ·simp [invoke, go_sem, eg]
 refine callsIn_wide.2 ((hseq (w.heap.size + 1) W1 J Jx (by omega) (fun i A C hA ht => ⟨hI i A C hA.1 (ht.mono (by omega)), kept ht (by omega) hA.2.1, kept ht (by omega) hA.2.2⟩)
  (fun A C hA ht => by obtain ⟨c, h1, h2, h3⟩ := hA; exact ⟨c, hIx c A C h1 (ht.mono (by omega)), kept ht (by omega) h2, kept ht (by omega) h3⟩)
  (fun i W h => h.1) (fun i i' W h h' => ⟨h', h.2⟩) ?_ ⟨hi1, hl1, hd1⟩).mono ?_)
 ·rintro i vs W hik hvs ⟨hi, hl, hd⟩ hen
  have hy := run_yield (P := P) (args := vs) hl hvs
  refine ⟨fn, _, assign, body, hy, roundIn_of_wpIn hfn (hassign _ i vs W _ hik hvs hi hen ?_)⟩
  clear hy
  intro a' Wa hka hia hax
  have hla := hka.same _ _ (by omega) hl
  have hda := hka.same _ _ (Nat.le_refl _) hd
  have hlt : w.heap.size + 1 < Wa.heap.size := (Array.getElem?_eq_some_iff.1 hla).1
  refine ⟨_, run_beginRound hla rfl, ?_⟩
  have tb : Tn w.heap.size Wa (Wa.putObj (w.heap.size + 1) (.loop { bk .ready none with state := .busy })) := Tn.put _ (by omega) hla rfl
  have hl2 : (Wa.putObj (w.heap.size + 1) (.loop { bk .ready none with state := .busy })).heap[w.heap.size + 1]? = some (.loop { bk .ready none with state := .busy }) := World.putObj_heap_same hlt
  have hd2 : (Wa.putObj (w.heap.size + 1) (.loop { bk .ready none with state := .busy })).heap[w.heap.size]? = some (.deferred (some [])) := (World.putObj_heap_other (by omega)).trans hda
  have far : ∀ (r : Nat) (o : Obj), W1.heap.size ≤ r → Wa.heap[r]? = some o → (Wa.putObj (w.heap.size + 1) (.loop { bk .ready none with state := .busy })).heap[r]? = some o := fun r o hr h => (World.putObj_heap_other (by omega)).trans h
  refine wpIn_mono (hbody _ i a' _ hik (hI i _ _ hia tb) (hAx i a' _ _ hax tb)) ?_
  have fin : ∀ (jump : Option Code) (W3 : World), KpL w.heap.size (Wa.putObj (w.heap.size + 1) (.loop { bk .ready none with state := .busy })) W3 →
    (Instr.endRound (w.heap.size + 1) jump).run P W3 = .ok (.bool jump.isNone) (W3.putObj (w.heap.size + 1) (.loop (bk (if jump.isNone then .ready else .done) jump))) ∧
    Tn w.heap.size W3 (W3.putObj (w.heap.size + 1) (.loop (bk (if jump.isNone then .ready else .done) jump))) ∧
    (W3.putObj (w.heap.size + 1) (.loop (bk (if jump.isNone then .ready else .done) jump))).heap[w.heap.size + 1]? = some (.loop (bk (if jump.isNone then .ready else .done) jump)) ∧
    (W3.putObj (w.heap.size + 1) (.loop (bk (if jump.isNone then .ready else .done) jump))).heap[w.heap.size]? = some (.deferred (some [])) ∧
    KpL W1.heap.size W (W3.putObj (w.heap.size + 1) (.loop (bk (if jump.isNone then .ready else .done) jump))) := fun jump W3 hk3 => by
   have hl3 := hk3.same _ _ (by omega) hl2
   exact ⟨run_endRound (P := P) jump hl3, Tn.put _ (by omega) hl3 rfl, World.putObj_heap_same (Array.getElem?_eq_some_iff.1 hl3).1, (World.putObj_heap_other (by omega)).trans (hk3.same _ _ (Nat.le_refl _) hd2),
    ⟨by have := hka.size; have := hk3.size; simp at this ⊢; omega, fun r o hr h => (World.putObj_heap_other (by omega)).trans (hk3.same r o (by omega) (far r o hr (hka.same r o (by omega) h)))⟩⟩
  rintro e a3 W3 hp
  cases e with
  | normal =>
   obtain ⟨hk3, hi3⟩ := hp
   obtain ⟨hr, ht, hl4, hd4, hkp⟩ := fin none W3 hk3
   exact ⟨_, _, hr, hkp, .inl ⟨rfl, hI _ _ _ hi3 ht, hl4, hd4⟩⟩
  | ret =>
   obtain ⟨hk3, hi3⟩ := hp
   obtain ⟨hr, ht, hl4, hd4, hkp⟩ := fin (some .ret) W3 hk3
   exact ⟨_, _, hr, hkp, .inr ⟨rfl, .ret, hIx _ _ _ hi3 ht, hl4, hd4⟩⟩
  | exit id =>
   obtain ⟨hk3, hi3⟩ := hp
   obtain ⟨hr, ht, hl4, hd4, hkp⟩ := fin (some (.exit id)) W3 hk3
   exact ⟨_, _, hr, hkp, .inr ⟨rfl, .exit id, hIx _ _ _ hi3 ht, hl4, hd4⟩⟩
  | goto t =>
   obtain ⟨hk3, hi3⟩ := hp
   obtain ⟨hr, ht, hl4, hd4, hkp⟩ := fin (some (.goto t)) W3 hk3
   exact ⟨_, _, hr, hkp, .inr ⟨rfl, .goto t, hIx _ _ _ hi3 ht, hl4, hd4⟩⟩
  | panic ch => exact hp.elim
  | outgrown => exact hp.elim
 ·rintro e W2 ⟨⟨v, rfl⟩, (⟨hi, hl, hd⟩ | ⟨c, hi, hl, hd⟩)⟩
  ·exact ⟨none, _, run_endLoop (P := P) hl (by simp [bk]), hdone _ _ (Nat.le_refl _) (hI k _ _ hi (Tn.put _ (by omega) hl rfl)) ((World.putObj_heap_other (by omega)).trans hd)⟩
  ·exact ⟨some c, _, run_endLoop (P := P) hl (by simp [bk]), hstop _ c _ (Nat.le_refl _) (hIx c _ _ hi (Tn.put _ (by omega) hl rfl)) ((World.putObj_heap_other (by omega)).trans hd)⟩
/-- .. of two values, where the loop's variables are no boxes. -/
theorem range_two {P : Program} {g : Operand} {ps : Array Tmp} {assign body : Code} {Q : Exit → Act → World → Prop} {a : Act} {w : World} {gf : Nat} {lb : Array Value}
  (hg : a.eval g = .func (.func gf) #[] lb) (eg : ∀ args w, (callFunc gf args).run P w = .ok (.enter gf args) w) (k : Nat) (hps : ps.size = 2)
  (En : Nat → Value → Value → World → Prop) (I : Nat → World → Prop) (Ix : Code → World → Prop) (hEn : ∀ i x y, OwL w.heap.size (En i x y)) (hI : ∀ i, OwL w.heap.size (I i)) (hIx : ∀ c, OwL w.heap.size (Ix c)) (h0 : I 0 w)
  (hseq : ItC P gf lb k 2 (fun i vs W => ∃ x y, vs = #[x, y] ∧ En i x y W) I w.heap.size) (asg : Nat → Value → Value → Act)
  (hassign : ∀ (l i : Nat) (x y : Value) (W : World) (K : Act → World → Prop), i < k → K (asg i x y) W → assign.wpIn (rndF l) 0 P (Exit.then K (fun _ _ _ => False)) { tmps := (ps.zip #[x, y]).foldl (fun t (p, v) => t.setIfInBounds p v) a.tmps, defers := [] } W)
  (hbody : ∀ (l i : Nat) (x y : Value) (W : World), i < k → I i W → En i x y W → body.wpIn (rndF l) 0 P (rdP w.heap.size (I (i + 1)) Ix W) (asg i x y) W)
  (hdone : ∀ (D : Nat) (W : World), w.heap.size ≤ D → I k W → W.heap[D]? = some (.deferred (some [])) → Q .normal (endAct a D) W)
  (hstop : ∀ (D : Nat) (c : Code) (W : World), w.heap.size ≤ D → Ix c W → W.heap[D]? = some (.deferred (some [])) → c.wpIn Fence.wide 0 P Q (endAct a D) W) :
  (Code.rangeFunc g ps assign body).wpIn Fence.wide 0 P Q a w :=
 range_law hg eg k (fun i vs W => ∃ x y, vs = #[x, y] ∧ En i x y W) I Ix hI hIx h0 (hps ▸ hseq) (fun i a' W => ∃ x y, a' = asg i x y ∧ En i x y W) (fun i _ A C h ht => by obtain ⟨x, y, h1, h2⟩ := h; exact ⟨x, y, h1, hEn i x y A C h2 ht⟩)
  (fun l i vs W K hik _ hi hen hK => by obtain ⟨x, y, rfl, hen⟩ := hen; exact hassign l i x y W K hik (hK _ _ (KpL.refl _ _) hi ⟨x, y, rfl, hen⟩)) (fun l i a' W hik hi hax => by obtain ⟨x, y, rfl, hen⟩ := hax; exact hbody l i x y W hik hi hen) hdone hstop
/-! ### A region in a round that calls another loop's yield -/
section
variable {P : Program} {ops : Array Oper} {Q : Exit → Act → World → Prop} {l n : Nat}
end
end Go.Proofs.YtopibkoklagceaaGreat.Rg

/- Contracts of block.Read over lists of bytes and of sound of package shard: it yields what the files that are sound are read as, by their places. -/
namespace Go.Proofs.YtopibkoklagceaaGreat
open Go Go.RowKit

theorem bread_any (po : Option Addr) (c : Nat) (bs : List Nat) (n : Nat) (w : World) (hb : BL w po bs) (h8 : ∀ z ∈ bs, z < 256) (hc : bs.length ≤ c) (hp : po = none → c = 0) :
  Calls Tryz.prog 110 #[.slice po bs.length c, .int .i64 (n : Int)] w (H.PartU w (rdB bs n) (rdE bs n)) :=
 H.read_any po bs.length c (fun j => bs.getD j 0) n w hc (fun e => ⟨by have := hp e; omega, hp e⟩) hb.str (fun i hi => get256 h8 i hi)
/-- A cell stays where books alone are turned. -/
theorem Rg.Tn.cell {B : Nat} {A C : World} (h : Rg.Tn B A C) {a : Addr} (ha : A.cell? a ≠ none) : C.cell? a = A.cell? a := by
 refine World.cell?_of_block ?_
 obtain ⟨o, ho, hb⟩ : ∃ o, A.heap[a.block]? = some o ∧ Rg.bkO o = false := by
  unfold World.cell? at ha
  cases hq : A.heap[a.block]? with
  | none => simp [hq] at ha
  | some o =>
   refine ⟨o, rfl, ?_⟩
   cases o <;> first | rfl | (simp [hq] at ha)
 exact h.other ho hb
theorem CAt.tn {B : Nat} {W W' : World} {b : Nat} {cs : Array Value} {t : TypeId} (h : CAt W b cs t) (ht : Rg.Tn B W W') : CAt W' b cs t := h.keep (ht.other h rfl)
/-- What is yielded. -/
def ShR (W : World) (n : Nat) (po : Option Addr) (L : List Nat) : Prop := (po = none ∧ n = 0) ∨ ∃ g, po = some ⟨g, 0, none⟩ ∧ H.RowL W g L
def En2 (n : Nat) (l : List Cv) (i : Nat) (u v : Value) (W : World) : Prop := ∃ x po, l[i]? = some x ∧ sdB n x.cp = true ∧ u = .int .i64 (i : Int) ∧ v = .slice po n n ∧ ShR W n po (rdB x.bs n)
def EnS (n : Nat) (l : List Cv) (i : Nat) (vs : Array Value) (W : World) : Prop := ∃ u v, vs = #[u, v] ∧ En2 n l i u v W
theorem sd_parts {n : Nat} {x : Cv} : sdB n x.cp = (decide (x.err = 0) && decide (rdE x.bs n = 0)) := rfl

set_option maxHeartbeats 1000000 in
theorem sound_it (B Bl Bn n : Nat) (v : Value) (l : List Cv) (I : Nat → World → Prop) (hm : ∀ i W, I i W → CAt W Bl #[v] 35 ∧ CAt W Bn #[.int .i64 (n : Int)] 3 ∧ CL W v l)
  (hskip : ∀ i x W, l[i]? = some x → sdB n x.cp = false → I i W → I (i + 1) W) : Rg.ItC Tryz.prog 109 #[ptr Bl, ptr Bn] l.length 2 (EnS n l) I B := by
 intro l2 W1 J Jx _ hJ hJx hJI hJJ hY h0
 obtain ⟨m1, m2, m3⟩ := hm 0 W1 (hJI 0 W1 h0)
 obtain ⟨po, c, rfl, _, hl1, _⟩ := m3
 obtain ⟨k, hk⟩ : ∃ k, l.length = k := ⟨_, rfl⟩
 have HK := hid hk
 rw [hk] at hm m1 hl1 hY ⊢
 have HL1 := hid hl1
 have c0 : W1.cell? ⟨Bl, 0, none⟩ = some (.slice po k c) := m1.cell 0
 refine (callsIn_wide (n := 1)).1 ?_
 refine callsIn_of_wp Tryz.func109 rfl trivial ?_ rfl
 simp only [Tryz.ntmps109, List.size_toArray, List.length_cons, List.length_nil, Nat.reduceAdd, Nat.reduceSub, Array.replicate_succ, Array.replicate_zero, List.push_toArray, List.append_toArray, List.nil_append, List.cons_append]
 clear m1 m2 hk hl1
 gi_wp2
 clear c0
 gi_loopw [10] (fun q wr => ∃ i : Nat, i ≤ k ∧ q = .int .i64 (i : Int) ∧ J i wr) (fun q _ => (1000000 - intOf q).toNat)
 case atStart => exact ⟨0, Nat.zero_le _, rfl, h0⟩
 case round =>
  obtain ⟨i, hi, rfl, hj⟩ := hrel
  have hk1 := HL1.out
  by_cases hlt : i < k
  ·obtain ⟨m1, m2, m3⟩ := hm i wr (hJI i wr hj)
   obtain ⟨⟨er, xv, bs⟩, hx⟩ : ∃ x, l[i]? = some x := ⟨_, List.getElem?_eq_getElem (by rw [HK.out]; exact hlt)⟩
   obtain ⟨b, o, c', e1, _, hcc, hok⟩ := m3.where hx
   rw [HK.out] at e1
   cases e1
   obtain ⟨⟨px, cx, hxv, hbl, hlc, hnc⟩, hxs, hx8⟩ := hok
   obtain ⟨q1, q2⟩ := hcc i _ hx
   simp only at hxv hbl hlc hxs hx8 q1 q2
   subst hxv
   have cn : wr.cell? ⟨Bn, 0, none⟩ = some (.int .i64 (n : Int)) := m2.cell 0
   have HX := hid hx
   have hi' : (i : Int) < (k : Int) := by omega
   have hw : IntKind.i64.wrap ((i : Int) + 1) = (i : Int) + 1 := IntWalk.i64_in _ ⟨by omega, by omega⟩
   have hj2 := hJ i _ _ hj (Rg.Tn.alloc W1.heap.size wr (.cells #[.int .i64 er, .slice px bs.length cx] 59))
   have HJ2 := hid hj2
   have HBL := hid (hbl.below (below_al wr (.cells #[.int .i64 er, .slice px bs.length cx] 59)))
   have HCN : (wr.alloc (.cells #[.int .i64 er, .slice px bs.length cx] 59)).cell? ⟨Bn, 0, none⟩ = some (.int .i64 (n : Int)) := (m2.below (below_al _ _)).cell 0
   have HE := hid (sd_parts (n := n) (x := ⟨er, .slice px bs.length cx, bs⟩))
   have HM := hid hm
   have HSK := hid hskip
   have HY := hid hY
   have HJJ := hid hJJ
   have HJI := hid hJI
   have HJ := hid hJ
   clear m1 m2 m3 hcc hj hj2 hm hskip hY hJJ hJI hJ hJx hbl hx
   by_cases he : er = 0
   ·subst he
    have hsk := HSK.out i _ (wr.alloc (.cells #[.int .i64 0, .slice px bs.length cx] 59)) HX.out
    by_cases hr : rdE bs n = 0
    ·have hR0 := callsIn_wide (n := 0) |>.2 (bread_any px cx bs n (wr.alloc (.cells #[.int .i64 0, .slice px bs.length cx] 59)) HBL.out hx8 hlc hnc)
     unfold H.PartU at hR0
     rw [rdB_len hr, hr] at hR0
     have HR := hid hR0
     have HSD : Hid (sdB n (Cv.cp ⟨0, .slice px bs.length cx, bs⟩) = true) := by rw [HE.out, hr]; rfl
     have HRL := hid (rdB_len hr)
     have HEN : Hid (∀ (pr : Option Addr) (w5 : World), ((pr = none ∧ rdB bs n = []) ∨ ∃ g, pr = some ⟨g, 0, none⟩ ∧ (wr.alloc (.cells #[.int .i64 0, .slice px bs.length cx] 59)).heap.size ≤ g ∧ H.RowL w5 g (rdB bs n)) → EnS n l i #[.int .i64 (i : Int), .slice pr n n] w5) := fun pr w5 hr5 => ⟨_, _, rfl, _, pr, HX.out, HSD.out, rfl, rfl, by
      rcases hr5 with ⟨h1, h2⟩ | ⟨g, h1, _, h2⟩
      ·exact .inl ⟨h1, by have h3 := HRL.out; rw [h2] at h3; exact h3.symm⟩
      ·exact .inr ⟨g, h1, h2⟩⟩
     clear hR0 hr hsk
     gi_wp2_with (refine ⟨trivial, ?_⟩; gi_at_call 110; refine CallsIn.mono HR.out ?_; rintro e w5 ⟨pr, rfl, hb5, hr5⟩; have HJ5 := hid (HJ.out i _ _ HJ2.out (Rg.Tn.below hb5)); obtain ⟨fn, tmps, assign, body, hy, hR⟩ := HY.out i _ w5 hlt rfl HJ5.out (HEN.out pr w5 hr5); clear hr5 hb5)
     refine hR.mono ?_
     rintro e W3 ⟨_, (⟨rfl, hJ3⟩ | ⟨rfl, hJx3⟩)⟩
     ·gi_wp2
      go_roundw
      case rel => exact ⟨i + 1, hlt, by congr 1, hJ3⟩
      case measure => simp [intOf]; omega
     ·gi_wp2
      refine bodyPost_ret (results_none rfl _ _ _) rfl ?_
      exact ⟨⟨_, rfl⟩, .inr hJx3⟩
    ·have HSD := hid (show sdB n (Cv.cp ⟨0, .slice px bs.length cx, bs⟩) = false from by rw [HE.out]; simp [hr])
     have hR0 := callsIn_wide (n := 0) |>.2 (bread_any px cx bs n (wr.alloc (.cells #[.int .i64 0, .slice px bs.length cx] 59)) HBL.out hx8 hlc hnc)
     generalize rdE bs n = E at hr hR0
     have HR := hid hR0
     have hE : (E == 0) = false := by simp [hr]
     have HF := hid (HJJ.out i (i + 1) _ HJ2.out (hsk HSD.out (HJI.out i _ HJ2.out)))
     clear hR0 hsk
     gi_wp2_with (refine ⟨trivial, ?_⟩; gi_at_call 110; refine CallsIn.mono HR.out ?_; rintro e w5 ⟨pr, rfl, hb5, hr5⟩; have HF5 := hid (HJ.out (i + 1) _ _ HF.out (Rg.Tn.below hb5)); clear hb5 hr5)
     refine ⟨fun _ h => (nomatch h), ?_⟩
     go_at_K
     gi_wp2
     go_roundw
     case rel => exact ⟨i + 1, hlt, by congr 1, HF5.out⟩
     case measure => simp [intOf]; omega
   ·have HSD := hid (show sdB n (Cv.cp ⟨er, .slice px bs.length cx, bs⟩) = false from by rw [HE.out]; simp [he])
    have HF := hid (HJJ.out i (i + 1) _ HJ2.out (HSK.out i _ _ HX.out HSD.out (HJI.out i _ HJ2.out)))
    gi_wp2
    go_roundw
    case rel => exact ⟨i + 1, hlt, by congr 1, HF.out⟩
    case measure => simp [intOf]; omega
  ·have hq : ¬ (i : Int) < (k : Int) := by omega
   have hk' : i = k := by omega
   gi_wp2
   go_end0
   exact ⟨⟨_, rfl⟩, .inl (hk' ▸ hj)⟩
theorem sound_any (v : Value) (n : Int) (w : World) (po : Option Addr) (m c : Nat) (hv : v = .slice po m c) : Calls Tryz.prog 85 #[v, .int .i64 n] w fun e w' => e = .returned (.func (.func 109) #[] #[ptr w.heap.size, ptr (w.heap.size + 1)]) ∧ w' = (w.alloc (.cells #[v] 35)).alloc (.cells #[.int .i64 n] 3) := by
 subst hv
 go_enter Tryz.func85, Tryz.ntmps85
 have hmf : ∀ (fn : Fn) (first cap : Array Value) (w : World), (Instr.makeFunc fn first cap).run Tryz.prog w = .ok (.func fn first cap) w := fun _ _ _ _ => rfl
 go_wp2
 go_ret
 exact ⟨by simp, rfl⟩
end Go.Proofs.YtopibkoklagceaaGreat
