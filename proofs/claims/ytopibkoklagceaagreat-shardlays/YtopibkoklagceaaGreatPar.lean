/- Texts laid into one, cut to what is needed: the remark ahead of each part says what is proved there. -/
import Derived.Test.YtopibkoklagceaaGreatPaq
import Derived.Test.YtopibkoklagceaaGreatPao
import Derived.WalkKit
import Derived.Test.YtopibkoklagceaaGreatRows
import Derived.WalkSpells
import Derived.WalkLawsBesides
import Derived.OwnWalk
import Derived.Laws.Rows
import Derived.Laws.CopyOwn
import Derived.Laws.NewBlocks
import Derived.Laws.ResultCell
import Derived.Laws.BytesArg
import Derived.Laws.BytesString
import Derived.Laws.OwnMore
import Derived.Laws.AppendOwnNone
import Derived.Maps.AppendAt
import Derived.Lib.AppendStr
import Derived.Lib.SliceRun
import Derived.Laws.BitsAllLaws
import Derived.Deep.RegionHeld3
import Derived.Deep.QuietTactic
import Derived.Maps.OwnSet
import Derived.Test.YtopibkoklagceaaGreatPae
import Derived.Test.YtopibkoklagceaaGreatPaf
import Derived.Test.YtopibkoklagceaaGreatPai
/- Contracts of Mend, Join and Sound of package stripe, in one form for all shards: the answer in new memory, or the error's number; what was there is as it was. -/
namespace Go.Proofs.YtopibkoklagceaaGreat.U
open Go.RowKit

/-- What is wrong with shards, how many are there with it. -/
def errMd (k m ns nh : Nat) (H : Nat → Bool) (L : Nat → Nat) (z : Int) : Int := if errMt ns nh (k + m) H L z ≠ 0 then errMt ns nh (k + m) H L z else if cn H (k + m) < k then 10 else 0
theorem errMd_bad {k m ns nh : Nat} {H : Nat → Bool} {L : Nat → Nat} {z : Int} (h : errMt ns nh (k + m) H L z ≠ 0) : errMd k m ns nh H L z = errMt ns nh (k + m) H L z := by unfold errMd; rw [if_pos h]
theorem errMd_few {k m ns nh : Nat} {H : Nat → Bool} {L : Nat → Nat} {z : Int} (h : errMt ns nh (k + m) H L z = 0) (h2 : cn H (k + m) < k) : errMd k m ns nh H L z = 10 := by unfold errMd; rw [if_neg (by omega), if_pos h2]
theorem errMd_ok {k m ns nh : Nat} {H : Nat → Bool} {L : Nat → Nat} {z : Int} (h : errMt ns nh (k + m) H L z = 0) (h2 : k ≤ cn H (k + m)) : errMd k m ns nh H L z = 0 := by unfold errMd; rw [if_neg (by omega), if_neg (by omega)]

set_option maxRecDepth 100000 in
set_option maxHeartbeats 4000000 in
theorem joinS_any (pS pH : Option Addr) (ns nh cS cH k m s : Nat) (AS : Nat → Option Addr) (L CS : Nat → Nat) (S : Nat → Nat → K) (H : Nat → Bool) (w : World) (hS : MatAt w pS ns AS L CS S) (hH : BoolsAt w pH nh H) (h0 : 1 ≤ k) (h1 : 1 ≤ m) (h : k + m ≤ 16) (hs : s ≤ 65536) :
    Calls Tryz.prog 86 #[.slice pS ns cS, .slice pH nh cH, .int .i64 k, .int .i64 m, .int .i64 s] w fun e w' => Below w.heap.size w w' ∧ ((errMd k m ns nh H L ((lgt s k : Nat) : Int) ≠ 0 ∧ e = .returned (.tuple #[.slice none 0 0, .int .i64 (errMd k m ns nh H L ((lgt s k : Nat) : Int))])) ∨
      (errMd k m ns nh H L ((lgt s k : Nat) : Int) = 0 ∧ ∃ g, e = .returned (.tuple #[.slice (some ⟨g, 0, none⟩) s s, .int .i64 0]) ∧ w'.ownsRow w.heap.size 5 1 (.slice (some ⟨g, 0, none⟩) s s) s (vals s fun j => kv (jnd (lgt s k) (mdd k (k + m) H S) j)))) := by
  have RS := hid hS
  have RH := hid hH
  have hll := lgt_le s k hs h0
  clear hS hH
  go_enter Tryz.func86, Tryz.ntmps86
  go_wp2_with fail
  refine (code_any k m w h0 h1 h).mono ?_
  rintro e w1 ⟨gC, cC, GC, QC, rfl, hmC, hb1⟩
  have MC := hid hmC.toMat
  have B1 := hid hb1
  have RS1 := hid (RS.out.keep (Stays.of_below hb1))
  have RH1 := hid (RH.out.keep (Stays.of_below hb1))
  have hsz := hb1.size
  have hcC := own_le hmC.top
  clear hb1 hmC RS RH
  have HCAST : Hid (((k : Int) + (m : Int)) = ((k + m : Nat) : Int)) := by show ((k : Int) + (m : Int)) = ((k + m : Nat) : Int); omega
  go_wp2_with fail
  refine (length_ok s k w1 (by omega) h0 (by omega)).mono ?_
  rintro e w' ⟨rfl, hw⟩
  have hw2 := hw.symm
  subst hw2
  clear hw
  go_wp2_with fail
  rw [HCAST.out]
  refine (matchS_any _ _ ns _ nh _ (k + m) AS L CS H ((lgt s k : Nat) : Int) w1 (by omega) (by omega) RS1.out.top RH1.out).mono ?_
  rintro e w' ⟨rfl, hw⟩
  have hw2 := hw.symm
  subst hw2
  clear hw
  by_cases he : errMt ns nh (k + m) H L ((lgt s k : Nat) : Int) = 0
  · obtain ⟨rfl, rfl, hL1, hL2⟩ := errMt_zero he
    have EO : Hid (k ≤ cn H (k + m) → errMd k m (k + m) (k + m) H L ((lgt s k : Nat) : Int) = 0) := errMd_ok he
    have EF : Hid (cn H (k + m) < k → errMd k m (k + m) (k + m) H L ((lgt s k : Nat) : Int) = 10) := errMd_few he
    have HL : Hid (∀ i, i < k + m → H i = true → L i = lgt s k) := fun i hi hq => by
      have h2 := hL2 i hi hq
      rw [lenSt_ge (by omega)] at h2
      omega
    have hsl := run_hi24 (some ⟨gC, 0, none⟩) (k + m) cC k (by omega) (by omega)
    rw [he]
    clear he hL1 hL2
    go_wp2_with fail
    refine (remake_any _ _ pS pH k k m (lgt s k) _ _ _ _ _ _ AS _ _ L CS S H w1 (MC.out.first k (by omega)) MC.out RS1.out RH1.out h0 h h0 (by omega) hll HL.out).mono ?_
    rintro e w2 ⟨hb2, ⟨hc, rfl⟩ | ⟨hc, g, G, rfl, hm2⟩⟩
    · have B2 := hid (B1.out.then hb2)
      have E := hid (EF.out hc)
      clear hb2
      go_wp2
      go_ret2
      exact ⟨B2.out, .inl ⟨by rw [E.out]; decide, ret_se rfl E.out.symm⟩⟩
    · have B2 := hid (B1.out.then hb2)
      have E := hid (EO.out hc)
      have M2 := hid hm2.toMat
      have hsz2 := B2.out.size
      clear hb2 hm2
      go_wp2_with fail
      refine (joined_any _ k (lgt s k) _ s _ _ (mdd k (k + m) H S) w2 (by omega) hll hs (lgt_room s k h0) M2.out).mono ?_
      rintro e w3 ⟨g3, rfl, ho3, hb3⟩
      have B3 := hid (B2.out.then hb3)
      have O3 := hid (own_base ho3 hsz2)
      clear ho3 hb3
      go_wp2
      go_ret2
      exact ⟨B3.out, .inr ⟨E.out, g3, rfl, O3.out⟩⟩
  · have he' : (errMt ns nh (k + m) H L ((lgt s k : Nat) : Int) != 0) = true := by simpa using he
    have E := hid (errMd_bad he)
    have NE := hid he
    clear he
    go_wp2
    go_ret2
    exact ⟨B1.out, .inl ⟨by rw [E.out]; exact NE.out, ret_se rfl E.out.symm⟩⟩

end Go.Proofs.YtopibkoklagceaaGreat.U

/- Contracts of three, awake and StripeKnown: all of the chapter's examples are answered as it says; what was there is as it was. -/
namespace Go.Proofs.YtopibkoklagceaaGreat.U
open Go.RowKit

/-- What any k shards of bytes make are all of them. -/
theorem mdd_all {k N : Nat} {H : Nat → Bool} {S D : Nat → Nat → K} (hk : k ≤ 16) (hN : N ≤ 256) (hc : k ≤ cn H N) (r j : Nat) (h : ∀ i, i < N → H i = true → S i j = pr k (codeX k) D i j) : mdd k N H S r j = pr k (codeX k) D r j :=
  mend_all k (codeX k) _ D _ (fun i => pl (tk H k N) i) (tk_left k N H hk hN hc) r j (fun i hi => h _ (tk_lt hc i hi).1 (tk_lt hc i hi).2)
theorem jnd_ash {k l n : Nat} {x : Nat → K} (j : Nat) (hj : j < n) (hn : n ≤ k * l) : jnd l (ash k l n x) j = x j := by
  have h1 : j / l < k := Nat.div_lt_of_lt_mul (by rw [Nat.mul_comm]; omega)
  unfold jnd ash
  rw [pr_code k _ _ _ h1]
  unfold dsh
  have h2 : j / l * l + j % l = j := Nat.div_add_mod' j l
  rw [h2, if_pos hj]
theorem jnd_congr {k l s : Nat} {X Y : Nat → Nat → K} (hs : s ≤ k * l) (h : ∀ i, i < k → ∀ j, j < l → X i j = Y i j) (j : Nat) (hj : j < s) : jnd l X j = jnd l Y j := by
  have h1 : j / l < k := Nat.div_lt_of_lt_mul (by rw [Nat.mul_comm]; omega)
  have h2 : 0 < l := by
    rcases Nat.eq_zero_or_pos l with q | q
    · subst q; omega
    · exact q
  unfold jnd
  exact h _ h1 _ (Nat.mod_lt _ h2)

def b3 (a b c : Nat) (i : Nat) : K := kb (if i = 0 then a else if i = 1 then b else c)
end Go.Proofs.YtopibkoklagceaaGreat.U

/- Numbers and texts as bytes: mathematics alone. -/
namespace Go.Proofs.YtopibkoklagceaaGreat

/-- A number's bytes. -/
def nb (n : Nat) : List Nat := if n < 128 then [n] else (n % 128 + 128) :: nb (n / 128)
  termination_by n
  decreasing_by omega
/-- A number of at most k bytes from the front. -/
def rdG : Nat → List Nat → Option (Nat × List Nat)
  | 0, _ => none
  | _ + 1, [] => none
  | k + 1, c :: r => if c < 128 then some (c, r) else match rdG k r with
    | some (n, r') => if n = 0 then none else some (c % 128 + 128 * n, r')
    | none => none
def rdU (b : List Nat) : Option (Nat × List Nat) := match rdG 6 b with
  | some (n, r) => if n ≤ 1099511627776 then some (n, r) else none
  | none => none
/-- A text's bytes. -/
def tb (s : List Nat) : List Nat := nb s.length ++ s
end Go.Proofs.YtopibkoklagceaaGreat

/- Records as bytes: mathematics alone. -/
namespace Go.Proofs.YtopibkoklagceaaGreat

/-- A record. Texts are lists of bytes. -/
structure Rc where
  id : List Nat
  time : Int
  mark : Bool
  size : Int
  etag : List Nat
  k : Int
  m : Int
  data : List Nat
  sum : List Nat
  parts : List (Int × Int)
  up : List Nat
  deriving DecidableEq
def dgt (c : Nat) : Bool := decide (48 ≤ c) && decide (c ≤ 57)
def isOf (last : Nat) (dash : Bool) (c : Nat) : Bool := dgt c || (decide (97 ≤ c) && decide (c ≤ last)) || (dash && decide (c = 45))
def okOf (s : List Nat) (least most last : Nat) (dash : Bool) : Bool := s.all (isOf last dash) && decide (least ≤ s.length) && decide (s.length ≤ most)
def okId (s : List Nat) : Bool := okOf s 1 32 122 false
def okData (s : List Nat) : Bool := okOf s 32 32 102 false
def okTag (s : List Nat) : Bool := okOf s 1 40 102 true
def inR (n least most : Int) : Bool := decide (least ≤ n) && decide (n ≤ most)
def okPs : Int → List (Int × Int) → Bool
  | _, [] => true
  | last, p :: r => decide (last < p.1) && decide (p.1 ≤ 10000) && inR p.2 0 65536 && okPs p.1 r
def sumPs (l : List (Int × Int)) : Int := (l.map (·.2)).sum
def okParts (l : List (Int × Int)) (size : Int) : Bool := decide (l.length ≤ 32) && okPs 0 l && (l.isEmpty || decide (sumPs l = size))
def zeroD : List Nat := List.replicate 32 0
def okRc (r : Rc) : Bool := okId r.id && inR r.time 0 1048576 && (if r.mark then decide (r.size = 0) && r.etag.isEmpty && decide (r.k = 0) && decide (r.m = 0) && r.data.isEmpty && decide (r.sum = zeroD) && r.parts.isEmpty && r.up.isEmpty
  else inR r.size 0 65536 && okTag r.etag && inR r.k 1 15 && inR r.m 1 15 && decide (r.k + r.m ≤ 16) && okData r.data && okParts r.parts r.size && (r.up.isEmpty || okId r.up) && decide (r.sum.length = 32))
def ib (n : Int) : List Nat := nb n.toNat
def psB (l : List (Int × Int)) : List Nat := (l.map fun p => ib p.1 ++ ib p.2).flatten
def rcB (r : Rc) : List Nat := tb r.id ++ ib r.time ++ (if r.mark then [1] else [0] ++ ib r.size ++ tb r.etag ++ ib r.k ++ ib r.m ++ tb r.data ++ r.sum ++ nb r.parts.length ++ psB r.parts ++ tb r.up)
/-- So many pairs of numbers from the front. -/
def rdPs : Nat → List Nat → Option (List (Int × Int) × List Nat)
  | 0, b => some ([], b)
  | n + 1, b => do
    let (x, b) ← rdU b
    let (y, b) ← rdU b
    let (l, b) ← rdPs n b
    return (((x : Int), (y : Int)) :: l, b)
section
variable {b : List Nat}
theorem inR_iff {n least most : Int} : inR n least most = true ↔ least ≤ n ∧ n ≤ most := by simp [inR]
end
end Go.Proofs.YtopibkoklagceaaGreat

/- What memory holds: blocks, what stays, bytes in slices, texts; rows of bytes of one's own and what is appended to them. -/
namespace Go.Proofs.YtopibkoklagceaaGreat
open Go Go.RowKit

theorem hid {p : Prop} (h : p) : Hid p := h
def u8 (k : Nat) : Value := .int .u8 (k : Int)
abbrev ptr (p : Nat) : Value := .pointer (some ⟨p, 0, none⟩)
abbrev i64 (k : Int) : Value := .int .i64 k
theorem under9 : Tryz.prog.underlying 9 = some .string := by kernel_rfl
theorem Tryz.info5 : (Tryz.prog.info? 5).map (fun i => (i.zero, i.size, i.bytes)) = some (some (.int .u8 0), 1, 1) := by kernel_rfl
theorem add_zero' (a : Addr) : a.add 0 = a := by simp [Addr.add]
theorem add_none (b o n : Nat) : (⟨b, o, none⟩ : Addr).add n = ⟨b, o + n, none⟩ := by unfold Addr.add; split <;> simp_all

/-- Block b has these cells, none of them frozen. -/
def CAt (w : World) (b : Nat) (cs : Array Value) (t : TypeId) : Prop := w.heap[b]? = some (.cells cs t (0, 0))
theorem CAt.lt {w : World} {b : Nat} {cs : Array Value} {t : TypeId} (h : CAt w b cs t) : b < w.heap.size := (Array.getElem?_eq_some_iff.1 h).1
theorem CAt.cell {w : World} {b : Nat} {cs : Array Value} {t : TypeId} (h : CAt w b cs t) (i : Nat) : w.cell? ⟨b, i, none⟩ = cs[i]? := by
  simp [World.cell?, show w.heap[b]? = _ from h]
theorem CAt.free {w : World} {b : Nat} {cs : Array Value} {t : TypeId} (h : CAt w b cs t) (i : Nat) : w.frozen? ⟨b, i, none⟩ = false := by
  simp [World.frozen?, show w.heap[b]? = _ from h]
theorem CAt.set {w : World} {b : Nat} {cs : Array Value} {t : TypeId} (h : CAt w b cs t) (i : Nat) (v : Value) : CAt (w.setCell ⟨b, i, none⟩ v) b (cs.setIfInBounds i v) t := by
  unfold CAt at *
  simp [World.setCell, Array.getElem?_modify, h]
theorem CAt.keep {w w' : World} {b : Nat} {cs : Array Value} {t : TypeId} (h : CAt w b cs t) (e : w'.heap[b]? = w.heap[b]?) : CAt w' b cs t := e.trans h
theorem CAt.made (w : World) (cs : Array Value) (t : TypeId) : CAt (w.alloc (.cells cs t)) w.heap.size cs t := (MapKept.heap_alloc w _).1
theorem CAt.below {w w' : World} {b : Nat} {cs : Array Value} {t : TypeId} (h : CAt w b cs t) (hb : Below w.heap.size w w') : CAt w' b cs t := h.keep (hb.block b h.lt)
theorem heap_setCell_ne (w : World) (a : Addr) (v : Value) (b : Nat) (h : b ≠ a.block) : (w.setCell a v).heap[b]? = w.heap[b]? := RowKit.Below.heap_setCell _ _ _ _ h
theorem setCell_size (w : World) (a : Addr) (v : Value) : (w.setCell a v).heap.size = w.heap.size := by
  unfold World.setCell; split <;> simp
theorem size_al (w : World) (o : Obj) : (w.alloc o).heap.size = w.heap.size + 1 := by simp
theorem at_new (w : World) (o : Obj) : (w.alloc o).heap[w.heap.size]? = some o := (MapKept.heap_alloc w o).1
theorem heap_alloc_old (w : World) (o : Obj) {b : Nat} (h : b < w.heap.size) : (w.alloc o).heap[b]? = w.heap[b]? := (MapKept.heap_alloc w o).2 b h
theorem below_al (w : World) (o : Obj) : Below w.heap.size w (w.alloc o) := (Below.refl _ _).alloc (Nat.le_refl _) _
theorem below_on {w0 : World} {w w' : World} (h : Below w0.heap.size w0 w) (hb : Below w.heap.size w w') : Below w0.heap.size w0 w' :=
  ⟨hb.os.trans h.os, hb.tape.trans h.tape, hb.output.trans h.output, Nat.le_trans h.size hb.size, fun k hk => (hb.block k (Nat.lt_of_lt_of_le hk h.size)).trans (h.block k hk)⟩
theorem cell_lt' {w : World} {a : Addr} (h : w.cell? a ≠ none) : a.block < w.heap.size := by
  rcases Nat.lt_or_ge a.block w.heap.size with h1 | h1
  · exact h1
  · exact absurd (by simp [World.cell?, Array.getElem?_eq_none h1]) h

/-- Of what was there nothing has turned but blocks of S. -/
structure Only (S : Nat → Prop) (w w' : World) : Prop where
  os : w'.os = w.os
  tape : w'.tape = w.tape
  output : w'.output = w.output
  size : w.heap.size ≤ w'.heap.size
  block : ∀ k, k < w.heap.size → ¬ S k → w'.heap[k]? = w.heap[k]?
theorem Only.refl (S : Nat → Prop) (w : World) : Only S w w := ⟨rfl, rfl, rfl, Nat.le_refl _, fun _ _ _ => rfl⟩
theorem Only.trans {S : Nat → Prop} {a b c : World} (h : Only S a b) (k : Only S b c) : Only S a c :=
  ⟨k.os.trans h.os, k.tape.trans h.tape, k.output.trans h.output, Nat.le_trans h.size k.size, fun i hi hs => (k.block i (Nat.lt_of_lt_of_le hi h.size) hs).trans (h.block i hi hs)⟩
theorem Only.then {S T : Nat → Prop} {a b c : World} (h : Only S a b) (k : Only T b c) (hT : ∀ i, i < a.heap.size → T i → S i) : Only S a c :=
  ⟨k.os.trans h.os, k.tape.trans h.tape, k.output.trans h.output, Nat.le_trans h.size k.size, fun i hi hs => (k.block i (Nat.lt_of_lt_of_le hi h.size) (fun ht => hs (hT i hi ht))).trans (h.block i hi hs)⟩
theorem Only.mono {S T : Nat → Prop} {a b : World} (h : Only S a b) (hS : ∀ i, S i → T i) : Only T a b := ⟨h.os, h.tape, h.output, h.size, fun i hi hs => h.block i hi fun k => hs (hS i k)⟩
theorem Only.of_below {S : Nat → Prop} {a b : World} (h : Below a.heap.size a b) : Only S a b := ⟨h.os, h.tape, h.output, h.size, fun i hi _ => h.block i hi⟩
theorem Only.below {S : Nat → Prop} {a b : World} {B : Nat} (h : Only S a b) (hB : B ≤ a.heap.size) (hS : ∀ i, S i → B ≤ i) : Below B a b :=
  ⟨h.os, h.tape, h.output, h.size, fun i hi => h.block i (by omega) fun k => by have := hS i k; omega⟩
theorem Only.of_grown {S : Nat → Prop} {a b : World} {r : Option Nat} (h : a.grownBy b r) (hr : ∀ k, r = some k → k < a.heap.size → S k) : Only S a b :=
  ⟨h.os, h.tape, h.output, h.size, fun i hi hs => h.block i hi fun e => hs (hr i e.symm hi)⟩
theorem Only.set {S : Nat → Prop} (w : World) (a : Addr) (v : Value) (h : S a.block) : Only S w (w.setCell a v) := by
  exact ⟨rfl, rfl, rfl, Nat.le_of_eq (setCell_size w a v).symm, fun k _ hk => heap_setCell_ne _ _ _ _ fun e => hk (e ▸ h)⟩
theorem Only.alloc {S : Nat → Prop} (w : World) (o : Obj) : Only S w (w.alloc o) := Only.of_grown (World.grownBy_alloc w o none) (by simp)
theorem below_grown {B : Nat} {w w1 w2 : World} {r : Option Nat} (h : Below B w w1) (hg : w1.grownBy w2 r) (hB : B ≤ w.heap.size) (hr : ∀ b, r = some b → B ≤ b) : Below B w w2 :=
  ⟨hg.os.trans h.os, hg.tape.trans h.tape, hg.output.trans h.output, Nat.le_trans h.size hg.size, fun k hk => (hg.block k (by have := h.size; omega) fun e => by have := hr k e.symm; omega).trans (h.block k hk)⟩
theorem below_tr {B : Nat} {w w1 w2 : World} (h : Below B w w1) (k : Below B w1 w2) : Below B w w2 :=
  ⟨k.os.trans h.os, k.tape.trans h.tape, k.output.trans h.output, Nat.le_trans h.size k.size, fun i hi => (k.block i hi).trans (h.block i hi)⟩
theorem below_less {B C : Nat} {w w1 : World} (h : Below B w w1) (hC : C ≤ B) : Below C w w1 := ⟨h.os, h.tape, h.output, h.size, fun i hi => h.block i (by omega)⟩
theorem ownsRow_keep {w w' : World} {B e n s : Nat} {v : Value} {xs : List Value} (h : w.ownsRow B e s v n xs) (hk : ∀ b, v.ownBlock = some b → w'.heap[b]? = w.heap[b]?) : w'.ownsRow B e s v n xs := by
  obtain ⟨h1, h2⟩ := h
  refine ⟨h1, ?_⟩
  rcases h2 with h2 | ⟨g, cap, cur, rfl, hB, hb, r⟩
  · exact Or.inl h2
  · exact Or.inr ⟨g, cap, cur, rfl, hB, (hk g rfl).trans hb, r⟩
theorem own_form {w : World} {B e sz n : Nat} {v : Value} {xs : List Value} (h : w.ownsRow B e sz v n xs) : ∃ po cc, v = .slice po n cc := by
  rcases h.2 with ⟨rfl, rfl⟩ | ⟨g, cap, cur, rfl, _⟩
  · exact ⟨_, _, rfl⟩
  · exact ⟨_, _, rfl⟩
theorem own_ge {w : World} {B e sz n : Nat} {v : Value} {xs : List Value} (h : w.ownsRow B e sz v n xs) : ∀ b, v.ownBlock = some b → B ≤ b ∧ b < w.heap.size := fun b hb => World.ownsRow.lt h b hb
theorem own_base {w : World} {B B2 e sz n : Nat} {v : Value} {xs : List Value} (h : w.ownsRow B e sz v n xs) (hB : B2 ≤ B) : w.ownsRow B2 e sz v n xs := by
  refine ⟨h.1, ?_⟩
  rcases h.2 with h2 | ⟨g, cap, cur, rfl, hb, r⟩
  · exact Or.inl h2
  · exact Or.inr ⟨g, cap, cur, rfl, Nat.le_trans hB hb, r⟩

/-- A text's bytes. -/
def lst (s : ByteArray) : List Nat := s.data.toList.map UInt8.toNat
theorem lst_len (s : ByteArray) : (lst s).length = s.size := by unfold lst; rw [List.length_map, Array.length_toList]; rfl
theorem lst_lt (s : ByteArray) : ∀ x ∈ lst s, x < 256 := fun x hx => by
  obtain ⟨c, _, rfl⟩ := List.mem_map.1 hx; exact c.toNat_lt
theorem lst_inj {s t : ByteArray} (h : lst s = lst t) : s = t := by
  have : s.data.toList = t.data.toList := by
    unfold lst at h
    exact (List.map_inj_right (f := UInt8.toNat) (fun x y e => UInt8.toNat_inj.1 e)).1 h
  cases s; cases t; simp at this; rw [this]
def ba (l : List Nat) : ByteArray := strOfNums (l.map fun (k : Nat) => (k : Int))
theorem lst_ba {l : List Nat} (h : ∀ x ∈ l, x < 256) : lst (ba l) = l := by
  unfold lst ba
  rw [strOfNums_data, List.map_map, List.map_map]
  refine (List.map_congr_left fun x hx => ?_).trans (List.map_id l)
  have := h x hx
  simp only [Function.comp_apply, Int.toNat_natCast, id_eq]
  rw [UInt8.toNat_ofNat']; omega
theorem lst_nil : lst ⟨#[]⟩ = [] := rfl
theorem lst_beq (s t : ByteArray) : (s.toList == t.toList) = decide (lst s = lst t) := by
  rw [ByteArray.toList_eq, ByteArray.toList_eq]
  by_cases h : lst s = lst t
  · have := lst_inj h; subst this; simp
  · have : s.data.toList ≠ t.data.toList := fun e => h (by unfold lst; rw [e])
    rw [decide_eq_false h]
    exact Bool.eq_false_iff.2 fun e => this (eq_of_beq e)

/-- The slice leads to the bytes bs. -/
def BL (w : World) (po : Option Addr) (bs : List Nat) : Prop := bs = [] ∨ ∃ b o, po = some ⟨b, o, none⟩ ∧ ∀ i, i < bs.length → w.cell? ⟨b, o + i, none⟩ = some (u8 (bs.getD i 0))
theorem BL.keep {w w' : World} {po : Option Addr} {bs : List Nat} (h : BL w po bs) (hk : ∀ a, w.cell? a ≠ none → w'.cell? a = w.cell? a) : BL w' po bs := by
  rcases h with h | ⟨b, o, rfl, h⟩
  · exact Or.inl h
  · exact Or.inr ⟨b, o, rfl, fun i hi => (hk _ (by rw [h i hi]; simp)).trans (h i hi)⟩
theorem BL.below {w w' : World} {po : Option Addr} {bs : List Nat} (h : BL w po bs) (hb : Below w.heap.size w w') : BL w' po bs :=
  h.keep fun a ha => World.cell?_of_block (hb.block a.block (cell_lt' ha))
theorem BL.nil (w : World) (po : Option Addr) : BL w po [] := Or.inl rfl
theorem BL.conv {w : World} {po : Option Addr} {bs : List Nat} (h : BL w po bs) (c : Nat) : (convert 22 9 (.slice po bs.length c)).run Tryz.prog w = .ok (.string (ba bs)) w := by
  rcases h with rfl | ⟨b, o, rfl, h⟩
  · rw [run_convert_bytes_string w 22 9 5 _ _ c Tryz.underlying22 Tryz.underlying5 Tryz.underlying9]
    cases po <;> simp [Conv.bytesToString, loadCells, ba]
    all_goals rfl
  · exact run_convert_bytes_arg w 22 5 Tryz.underlying22 Tryz.underlying5 b o bs.length c _ (by simp) (fun i hi => by rw [h i hi]; simp [List.getD, hi, u8]) 9 Tryz.underlying9
theorem getD_drop (bs : List Nat) (n i : Nat) : (bs.drop n).getD i 0 = bs.getD (n + i) 0 := by simp [List.getD]
theorem getD_take {bs : List Nat} {n i : Nat} (h : i < n) : (bs.take n).getD i 0 = bs.getD i 0 := by simp [List.getD, h]
theorem BL.drop {w : World} {b o : Nat} {bs : List Nat} (h : BL w (some ⟨b, o, none⟩) bs) (n : Nat) : BL w (some ⟨b, o + n, none⟩) (bs.drop n) := by
  rcases h with rfl | ⟨b', o', e, h⟩
  · exact Or.inl (by simp)
  · cases e
    refine Or.inr ⟨b, o + n, rfl, fun i hi => ?_⟩
    rw [List.length_drop] at hi
    rw [getD_drop, show o + n + i = o + (n + i) by omega]
    exact h (n + i) (by omega)
theorem BL.take {w : World} {po : Option Addr} {bs : List Nat} (h : BL w po bs) (n : Nat) : BL w po (bs.take n) := by
  rcases h with rfl | ⟨b, o, rfl, h⟩
  · exact Or.inl (by simp)
  · refine Or.inr ⟨b, o, rfl, fun i hi => ?_⟩
    rw [List.length_take] at hi
    rw [getD_take (by omega)]
    exact h i (by omega)
/-- Bytes in a row of their own. -/
def Buf (B : Nat) (w : World) (v : Value) (L : List Nat) : Prop := w.ownsRow B 5 1 v L.length (L.map u8)
theorem Buf.nil (B : Nat) (w : World) : Buf B w (.slice none 0 0) [] := World.ownsRow_nil w B 5 1
theorem Buf.form {B : Nat} {w : World} {v : Value} {L : List Nat} (h : Buf B w v L) : ∃ po cc, v = .slice po L.length cc := own_form h
theorem Buf.below {B : Nat} {w w' : World} {v : Value} {L : List Nat} (h : Buf B w v L) (hb : Below w.heap.size w w') : Buf B w' v L :=
  ownsRow_keep h fun b hv => hb.block b (own_ge h b hv).2
theorem Buf.bl {B : Nat} {w : World} {po : Option Addr} {n c : Nat} {L : List Nat} (h : Buf B w (.slice po n c) L) : BL w po L := by
  rcases h.2 with ⟨e, h0⟩ | ⟨g, cap, cur, e, _, hg, h1, _, h3, h4⟩
  · exact Or.inl (List.eq_nil_of_length_eq_zero h0)
  · cases e
    refine Or.inr ⟨g, 0, rfl, fun i hi => ?_⟩
    have hc : CAt w g cur 5 := hg
    rw [Nat.zero_add, hc.cell]
    have := congrArg (fun l => l[i]?) h4
    simp [hi] at this
    rw [this]
    simp [u8, List.getD, List.getElem?_eq_getElem hi]
/-- append(v, b...), the bytes anywhere. -/
theorem Buf.app {B : Nat} {w : World} {v : Value} {L : List Nat} (hv : Buf B w v L) (po : Option Addr) (c : Nat) (bs : List Nat) (hb : BL w po bs) (hc : po = none → c = 0) (hn : L.length + bs.length ≤ 2000000) (hB : B ≤ w.heap.size) :
    ∃ v' w', (Builtin.append_ #[22, 22] 22 #[v, .slice po bs.length c]).run Tryz.prog w = .ok v' w' ∧ Buf B w' v' (L ++ bs) ∧ w.grownBy w' v.ownBlock := by
  obtain ⟨i0, hi0, hz0, hz1, hz2⟩ := info_parts Tryz.info5
  cases po with
  | none =>
    have : bs = [] := by rcases hb with h | ⟨b, o, h, _⟩
                         · exact h
                         · cases h
    subst this
    obtain rfl := hc rfl
    refine ⟨v, w, run_append_owned_none (P := Tryz.prog) (w := w) B 22 22 5 i0 1 Tryz.underlying22 hi0 v _ _ hv, by simpa using hv, ⟨rfl, rfl, rfl, Nat.le_refl _, fun _ _ _ => rfl⟩⟩
  | some a =>
    obtain ⟨v', w', hr, h2, h3, _, _⟩ := run_append_own_at (P := Tryz.prog) w B 22 22 5 i0 (.int .u8 0) 1 1 Tryz.underlying22 hi0 hz0 hz1 hz2 rfl (by decide) v L.length (L.map u8) hv a bs.length c (bs.map u8) (by simp) (fun j u hj => by
        have hjl : j < bs.length := by
          rcases Nat.lt_or_ge j bs.length with q | q
          · exact q
          · rw [List.getElem?_eq_none (by simpa using q)] at hj; cases hj
        have e : u = u8 (bs.getD j 0) := by simp [hjl] at hj; rw [← hj]; simp [List.getD, hjl]
        rcases hb with h | ⟨b, o, e2, h⟩
        · subst h; simp at hjl
        · cases e2
          rw [add_none, e]; exact h j hjl) (by intro u hu; simp at hu; obtain ⟨k, _, rfl⟩ := hu; rfl) (by unfold maxLen; omega) (by omega) hB
    refine ⟨v', w', hr, ?_, h3⟩
    unfold Buf; rw [List.length_append, List.map_append]; exact h2
end Go.Proofs.YtopibkoklagceaaGreat

/- Digests of bytes in slices, by lists. -/
namespace Go.Proofs.YtopibkoklagceaaGreat
open Go Go.RowKit

/-- The digest's 32 bytes. -/
def dig (x : List Nat) : List Nat := (List.range 32).map fun i => H.sha x.length (fun j => x.getD j 0) i
theorem dig_len (x : List Nat) : (dig x).length = 32 := by simp [dig]
theorem dig_lt (x : List Nat) : ∀ z ∈ dig x, z < 256 := fun z hz => by
  obtain ⟨i, _, rfl⟩ := List.mem_map.1 hz
  exact H.sha_lt _ _ _
theorem dig_arr (x : List Nat) : H.aB 32 (H.sha x.length fun j => x.getD j 0) = ((dig x).map u8).toArray := by
  unfold H.aB dig
  apply Array.ext
  · simp
  · intro i h1 h2
    simp [u8]
theorem BL.str {w : World} {po : Option Addr} {x : List Nat} (h : BL w po x) : H.StrAt w po x.length fun j => x.getD j 0 := by
  rcases h with rfl | ⟨b, o, e, h⟩
  · exact Or.inl rfl
  · exact Or.inr ⟨b, o, e, fun i hi => h i hi⟩
theorem get256 {x : List Nat} (h8 : ∀ z ∈ x, z < 256) (i : Nat) (hi : i < x.length) : x.getD i 0 < 256 := by
  rw [List.getD_eq_getElem?_getD, List.getElem?_eq_getElem hi]; exact h8 _ (List.getElem_mem hi)
/-- digest.Sum -/
theorem dsum_any (po : Option Addr) (c : Nat) (x : List Nat) (w : World) (hn : x.length ≤ 1000000) (hc : x.length ≤ c) (h : BL w po x) (h8 : ∀ z ∈ x, z < 256) :
    Calls Tryz.prog 51 #[.slice po x.length c] w fun e w' => e = .returned (.agg ((dig x).map u8).toArray) ∧ Below w.heap.size w w' := by
  rw [← dig_arr]
  exact H.sum_any po x.length c _ w hn hc h.str (get256 h8)
end Go.Proofs.YtopibkoklagceaaGreat

/- Journals as bytes: mathematics alone. D: the digest, of which nothing is asked but its length. -/
namespace Go.Proofs.YtopibkoklagceaaGreat

def rsB (l : List Rc) : List Nat := (l.map rcB).flatten
section
variable {D : List Nat → List Nat}
end
end Go.Proofs.YtopibkoklagceaaGreat

/- Journals: what is added, removed, found. Mathematics alone. -/
namespace Go.Proofs.YtopibkoklagceaaGreat

/-- The place of a record. -/
def atI : List Rc → List Nat → Option Nat
  | [], _ => none
  | r :: l, id => if r.id = id then some 0 else (atI l id).map (· + 1)
theorem atI_some : ∀ {l : List Rc} {id : List Nat} {i : Nat}, atI l id = some i → ∃ h : i < l.length, l[i].id = id ∧ ∀ j (hj : j < i), (l[j]'(by omega)).id ≠ id
  | [], _, _, h => by cases h
  | r :: l, id, i, h => by
    rw [atI] at h
    by_cases h1 : r.id = id
    · rw [if_pos h1] at h
      cases h
      exact ⟨by simp, h1, fun j hj => absurd hj (Nat.not_lt_zero _)⟩
    · rw [if_neg h1] at h
      obtain ⟨k, hk, e⟩ := Option.map_eq_some_iff.1 h
      subst e
      obtain ⟨h2, h3, h4⟩ := atI_some hk
      refine ⟨by simp; omega, by simpa using h3, fun j hj => ?_⟩
      cases j with
      | zero => simpa using h1
      | succ j => simpa using h4 j (by omega)
end Go.Proofs.YtopibkoklagceaaGreat

/- Which of the drives' journals counts. Mathematics alone. -/
namespace Go.Proofs.YtopibkoklagceaaGreat

/-- What a drive answers. -/
structure Cp where
  err : Int
  b : List Nat
section
variable (D : List Nat → List Nat)
/-- 'As good as, or less than'. -/
def leC (x y : Int × Nat) : Prop := x.1 < y.1 ∨ x.1 = y.1 ∧ x.2 ≤ y.2
theorem leC.refl (x : Int × Nat) : leC x x := Or.inr ⟨rfl, Nat.le_refl _⟩
theorem leC.trans {x y z : Int × Nat} (h : leC x y) (k : leC y z) : leC x z := by
  unfold leC at *
  omega
variable {D}
end
end Go.Proofs.YtopibkoklagceaaGreat

/- Shard files as mathematics: the shards and files of bytes; what a file is read as; which drives' files are sound and taken; what they make; any k of them make the bytes. No conditions but bounds. -/
namespace Go.Proofs.YtopibkoklagceaaGreat
open Go Go.RowKit

/-- Bytes as the stripe's mathematics has them. -/
def kx (b : List Nat) (j : Nat) : U.K := U.kb (b.getD j 0)
theorem getD_lt8 {b : List Nat} (h8 : ∀ z ∈ b, z < 256) (j : Nat) : b.getD j 0 < 256 := by
  rcases Nat.lt_or_ge j b.length with h | h
  · exact get256 h8 j h
  · rw [List.getD_eq_getElem?_getD, List.getElem?_eq_none h]; decide
theorem kx_val {b : List Nat} (h8 : ∀ z ∈ b, z < 256) (j : Nat) : (kx b j).val = b.getD j 0 := U.kb_val _ (getD_lt8 h8 j)
theorem list_range (b : List Nat) : (List.range b.length).map (fun j => b.getD j 0) = b := by
  apply List.ext_getElem?
  intro i
  rcases Nat.lt_or_ge i b.length with h | h
  · simp [h]
  · simp [h]
theorem range_getD (n : Nat) (f : Nat → Nat) (j : Nat) (hj : j < n) : ((List.range n).map f).getD j 0 = f j := by simp [hj]
theorem map_range_eq {n : Nat} {f g : Nat → Nat} (h : ∀ j, j < n → f j = g j) : (List.range n).map f = (List.range n).map g := by
  apply List.map_congr_left; intro j hj; exact h j (List.mem_range.1 hj)

/-- The shards of bytes, by their places. -/
def shd (k : Nat) (b : List Nat) (i : Nat) : List Nat := (List.range (U.lgt b.length k)).map fun j => (U.ash k (U.lgt b.length k) b.length (kx b) i j).val
theorem shd_len (k : Nat) (b : List Nat) (i : Nat) : (shd k b i).length = U.lgt b.length k := by simp [shd]
theorem shd_lt (k : Nat) (b : List Nat) (i : Nat) : ∀ z ∈ shd k b i, z < 256 := fun z hz => by
  unfold shd at hz
  obtain ⟨j, _, rfl⟩ := List.mem_map.1 hz
  exact U.K.lt _
/-- The file of bytes. -/
def flL (s : List Nat) : List Nat := H.fileL s.length fun j => s.getD j 0
/-- All shard files of bytes. -/
def fls (k m : Nat) (b : List Nat) : List (List Nat) := (List.range (k + m)).map fun i => flL (shd k b i)
theorem fls_len (k m : Nat) (b : List Nat) : (fls k m b).length = k + m := by simp [fls]
theorem fls_get (k m : Nat) (b : List Nat) (i : Nat) (hi : i < k + m) : (fls k m b)[i]? = some (flL (shd k b i)) := by simp [fls, hi]

/-- What a file is read as, of so many bytes; the error's number. -/
def rdE (f : List Nat) (n : Nat) : Int := H.partE (fun j => f.getD j 0) f.length n 0 n
def rdB (f : List Nat) (n : Nat) : List Nat := H.partL (fun j => f.getD j 0) f.length n 0 n
theorem rdB_ok {f : List Nat} {n : Nat} (h : rdE f n = 0) : rdB f n = (List.range n).map fun j => H.dat (fun j => f.getD j 0) j := by
  unfold rdE H.partE at h
  unfold rdB H.partL
  split at h
  · rename_i h1
    split at h
    · rename_i h2
      split at h
      · rename_i h3
        rw [if_pos ⟨h1, h2, h3⟩, H.parL_dat _ _ _ _ (by simp) (by simp)]
        simp
      · cases h
    · cases h
  · cases h
theorem rdB_len {f : List Nat} {n : Nat} (h : rdE f n = 0) : (rdB f n).length = n := by rw [rdB_ok h]; simp
theorem rdB_lt {f : List Nat} (h8 : ∀ z ∈ f, z < 256) {n : Nat} (h : rdE f n = 0) : ∀ z ∈ rdB f n, z < 256 := fun z hz => by
  rw [rdB_ok h] at hz
  obtain ⟨j, _, rfl⟩ := List.mem_map.1 hz
  exact getD_lt8 h8 _
theorem flL_len (s : List Nat) : (flL s).length = s.length + 32 * H.cnt s.length := by
  unfold flL
  exact H.fileL_len _ _
theorem rd_fl (s : List Nat) (hs : s.length ≤ 65536) : rdE (flL s) s.length = 0 ∧ rdB (flL s) s.length = s := by
  have h := H.part_fil s.length (fun j => s.getD j 0) hs 0 s.length (Nat.zero_le _) (Nat.le_refl _)
  have e : (fun j => (flL s).getD j 0) = H.fil s.length (fun j => s.getD j 0) := rfl
  unfold rdE rdB
  rw [e, flL_len s]
  refine ⟨by simpa using h.2, ?_⟩
  have h1 := h.1
  simp only [Nat.sub_zero, Nat.zero_add] at h1
  rw [list_range] at h1
  simpa using h1

/-- Is a drive's file sound? How many are, of the first i? Is the one at i taken? -/
def sdB (n : Nat) (c : Cp) : Bool := decide (c.err = 0) && decide (rdE c.b n = 0)
def csN (n : Nat) (l : List Cp) : Nat → Nat
  | 0 => 0
  | i + 1 => csN n l i + (match l[i]? with | some c => if sdB n c = true then 1 else 0 | none => 0)
def hvB (n k : Nat) (l : List Cp) (i : Nat) : Bool := (match l[i]? with | some c => sdB n c | none => false) && decide (csN n l i < k)
def rdS (n : Nat) (l : List Cp) (i : Nat) : List Nat := match l[i]? with | some c => rdB c.b n | none => []
theorem cn_hv (n k : Nat) (l : List Cp) : ∀ i, U.cn (hvB n k l) i = min k (csN n l i)
  | 0 => by simp [U.cn, csN]
  | i + 1 => by
    have ih := cn_hv n k l i
    show U.cn (hvB n k l) i + (if ((match l[i]? with | some c => sdB n c | none => false) && decide (csN n l i < k)) = true then 1 else 0) = min k (csN n l i + (match l[i]? with | some c => if sdB n c = true then 1 else 0 | none => 0))
    rw [ih]
    cases l[i]? with
    | none => simp
    | some c =>
      cases h : sdB n c
      · simp [h]
      · simp only [h, Bool.true_and, decide_eq_true_eq, if_true]
        split <;> omega
theorem cs_mono (n : Nat) (l : List Cp) (i : Nat) : ∀ d, csN n l i ≤ csN n l (i + d)
  | 0 => Nat.le_refl _
  | d + 1 => Nat.le_trans (cs_mono n l i d) (by show _ ≤ csN n l (i + d) + _; omega)
theorem hv_past {n k : Nat} {l : List Cp} {i j : Nat} (h : k ≤ csN n l i) (hj : i ≤ j) : hvB n k l j = false := by
  obtain ⟨d, rfl⟩ := Nat.le.dest hj
  have := cs_mono n l i d
  unfold hvB
  have h2 : ¬ csN n l (i + d) < k := by omega
  simp [h2]
/-- What those make that are taken. -/
def jnB (k m s : Nat) (l : List Cp) : List Nat := (List.range s).map fun j => (U.jnd (U.lgt s k) (U.mdd k (k + m) (hvB (U.lgt s k) k l) (fun i => kx (rdS (U.lgt s k) l i))) j).val
theorem jnB_len (k m s : Nat) (l : List Cp) : (jnB k m s l).length = s := by simp [jnB]
theorem jnB_lt (k m s : Nat) (l : List Cp) : ∀ z ∈ jnB k m s l, z < 256 := fun z hz => by
  unfold jnB at hz
  obtain ⟨j, _, rfl⟩ := List.mem_map.1 hz
  exact U.K.lt _
/-- The bytes of a version by what drives answer; the error's number. -/
def whE (k m s : Nat) (sum : List Nat) (l : List Cp) : Int := if csN (U.lgt s k) l l.length < k then 10 else if dig (jnB k m s l) = sum then 0 else 14
def whB (k m s : Nat) (sum : List Nat) (l : List Cp) : List Nat := if whE k m s sum l = 0 then jnB k m s l else []
/-- Any k that are sound and have the bytes' shards make the bytes. -/
theorem jn_all {k m : Nat} {b : List Nat} {l : List Cp} (h8 : ∀ z ∈ b, z < 256) (h0 : 1 ≤ k) (h : k + m ≤ 16) (hl : l.length = k + m) (hc : k ≤ csN (U.lgt b.length k) l l.length)
    (hs : ∀ i c, l[i]? = some c → sdB (U.lgt b.length k) c = true → rdB c.b (U.lgt b.length k) = shd k b i) : jnB k m b.length l = b := by
  have hcn : k ≤ U.cn (hvB (U.lgt b.length k) k l) (k + m) := by rw [cn_hv, ← hl]; omega
  have key : ∀ r j, j < U.lgt b.length k → U.mdd k (k + m) (hvB (U.lgt b.length k) k l) (fun i => kx (rdS (U.lgt b.length k) l i)) r j = U.ash k (U.lgt b.length k) b.length (kx b) r j := by
    intro r j hj
    refine U.mdd_all (by omega) (by omega) hcn r j ?_
    intro i hi hv
    unfold hvB at hv
    cases hq : l[i]? with
    | none => rw [hq] at hv; simp at hv
    | some c =>
      rw [hq] at hv
      have hv : sdB (U.lgt b.length k) c = true := by simp at hv; exact hv.1
      have e := hs i c hq hv
      have e2 : rdS (U.lgt b.length k) l i = shd k b i := by unfold rdS; rw [hq]; exact e
      rw [e2]
      unfold kx shd
      rw [range_getD _ _ _ hj]
      apply U.K.ext
      rw [U.kb_val _ (U.K.lt _)]
      rfl
  have hroom := U.lgt_room b.length k h0
  unfold jnB
  conv => rhs; rw [← list_range b]
  apply map_range_eq
  intro j hj
  rw [U.jnd_congr (k := k) hroom (fun i _ j hj => key i j hj) j hj, U.jnd_ash j hj hroom, kx_val h8]
end Go.Proofs.YtopibkoklagceaaGreat
