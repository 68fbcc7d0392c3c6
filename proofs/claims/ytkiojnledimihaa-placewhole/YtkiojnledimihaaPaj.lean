/- Texts laid into one, cut to what is needed: the remark ahead of each part says what is proved there. -/
import Derived.Test.YtkiojnledimihaaPai
import Derived.Deep.LoopGhost
import Derived.Test.YtkiojnledimihaaPac
import Derived.Test.YtkiojnledimihaaPab
import Derived.Test.YtkiojnledimihaaPag
/- What ties two drives to the document's. -/
namespace Go.Proofs.Ytkiojnledimihaa
open Go Go.RowKit

structure Rel (a b a' b' : Dl) (Z ZR : Nat → Nat × Bool) : Prop where
  da : a'.d = a.d
  db : b'.d = b.d
  fa : a'.fu.map ZR = a.fu.map Z
  fb : b'.fu.map ZR = b.fu.map Z
  sh : a.fu = b.fu ↔ a'.fu = b'.fu
structure Pd.few (d : Pd) (n : Nat) : Prop where
  len : d.F.length ≤ n
  ops : d.ops ≤ n
section
variable {a b a' b' : Dl} {Z ZR : Nat → Nat × Bool}
theorem Rel.swap (h : Rel a b a' b' Z ZR) : Rel b a b' a' Z ZR := ⟨h.db, h.da, h.fb, h.fa, ⟨fun e => (h.sh.1 e.symm).symm, fun e => (h.sh.2 e.symm).symm⟩⟩
theorem Rel.same (h : Rel a b a' b' Z ZR) (d2 : Pd) (p q : Nat) : Rel ⟨p, a.fu, d2⟩ b ⟨q, a'.fu, d2⟩ b' Z ZR := ⟨rfl, h.db, h.fa, h.fb, h.sh⟩
theorem Rel.none (h : Rel a b a' b' Z ZR) (d2 : Pd) (p q : Nat) : Rel ⟨p, none, d2⟩ b ⟨q, none, d2⟩ b' Z ZR := by
  refine ⟨rfl, h.db, rfl, h.fb, ?_⟩
  have h1 := h.fb
  constructor
  · intro e
    have e' : b.fu = .none := e.symm
    rw [e'] at h1
    show .none = b'.fu
    cases hb : b'.fu with
    | none => rfl
    | some z => rw [hb] at h1; cases h1
  · intro e
    have e' : b'.fu = .none := e.symm
    rw [e'] at h1
    show .none = b.fu
    cases hb : b.fu with
    | none => rfl
    | some z => rw [hb] at h1; cases h1
end
section
variable {d : Pd} {n : Nat}
theorem Pd.few.more (h : d.few n) : d.few (n + 1) := ⟨Nat.le_succ_of_le h.len, Nat.le_succ_of_le h.ops⟩
end
end Go.Proofs.Ytkiojnledimihaa

/- What a call leaves of two drives and of the document's since some moment. -/
namespace Go.Proofs.Ytkiojnledimihaa
open Go Go.RowKit

section
variable {w wr W W' : World} {a b a' b' a2 b2 a2' b2' : Dl} {Z ZR Z2 ZR2 : Nat → Nat × Bool} {T : Nat → Prop}
end
/-- Bytes that were lent. -/
structure LnAt (W : World) (g : Nat) (bs : List Nat) : Prop where
  row : RowAt W g 0 (bs.length + 3) (lentN bs.length fun i => bs.getD i 0)
  free : ∀ i, W.frozen? ⟨g, i, none⟩ = false
  lt : g < W.heap.size
theorem LnAt.keep {W W' : World} {g : Nat} {bs : List Nat} (h : LnAt W g bs) (hk : W'.heap[g]? = W.heap[g]?) (hs : g < W'.heap.size) : LnAt W' g bs :=
  ⟨fun i hi => (World.cell?_of_block (w := W) hk).trans (h.row i hi), fun i => (World.frozen?_of_block (w := W) hk).trans (h.free i), hs⟩
theorem LnAt.only {W W' : World} {g B : Nat} {bs : List Nat} {T : Nat → Prop} (h : LnAt W g bs) (ho : Only T W W') (hT : ∀ c, T c → c < B) (hg : B ≤ g) : LnAt W' g bs :=
  h.keep (ho.block g h.lt fun k => by have := hT g k; omega) (Nat.lt_of_lt_of_le h.lt ho.size)
theorem LnAt.below {W W' : World} {g : Nat} {bs : List Nat} (h : LnAt W g bs) (hb : Below W.heap.size W W') : LnAt W' g bs := h.keep (hb.block g h.lt) (Nat.lt_of_lt_of_le h.lt hb.size)
theorem Row8.on {w w' : World} {v : Value} {bs : List Nat} (h : Row8 w v bs) (hb : Below w.heap.size w w') : Row8 w' v bs := by
  obtain ⟨B, h⟩ := h; exact ⟨B, ownsRow_keep h fun b hb' => hb.block b (own_ge h b hb').2⟩
end Go.Proofs.Ytkiojnledimihaa

/- Contract of told of the statements. (Written by tools/gen_Ku.py.) -/
namespace Go.Proofs.Ytkiojnledimihaa
open Go Go.RowKit

theorem overT_row2 {w : World} {B : Nat} {v : Value} {ns : List Nm} (h : TxtS B w v ns) : Calls Try.prog 18 #[v] w fun e w' => e = .returned (.tuple #[]) ∧ Only (fun b => v.ownBlock = some b) w w' := by
  rcases cells_of h.t h.q with rfl | ⟨g, c, rfl, hB, hm, hc⟩
  · exact (overT_nil w).mono fun e w' ⟨h1, h2⟩ => ⟨h1, by rw [h2]; exact Only.refl _ _⟩
  · exact (overT_any g ns.length c w hm hc).mono fun e w' ⟨h1, h2⟩ => ⟨h1, h2.mono fun b (e : b = g) => (by rw [e]; rfl)⟩
theorem Row8.below {w w' : World} {v : Value} {bs : List Nat} (h : Row8 w v bs) (hb : Below w.heap.size w w') : Row8 w' v bs := by
  obtain ⟨B, h⟩ := h; exact ⟨B, ownsRow_keep h fun b hb' => hb.block b (own_ge h b hb').2⟩
end Go.Proofs.Ytkiojnledimihaa

/- lent of FanScript: files in memory of their own, with room behind. -/
namespace Go.Proofs.Ytkiojnledimihaa
open Go Go.RowKit Go.Shelf

/-- A file whose bytes were lent at block g. -/
def LnX (W : World) (B : Nat) (x : FlV) : Prop := ∃ g, x.pb = some ⟨g, 0, none⟩ ∧ x.cb = x.bs.length + 3 ∧ LnAt W g x.bs ∧ B ≤ g
def FlV.bk (x : FlV) : Nat := (x.pb.map (·.block)).getD 0
theorem LnX.keep {W W' : World} {B : Nat} {x : FlV} (h : LnX W B x) (hk : W'.heap[x.bk]? = W.heap[x.bk]?) (hs : W.heap.size ≤ W'.heap.size) : LnX W' B x := by
  obtain ⟨g, h1, h2, h3, h4⟩ := h
  have e : x.bk = g := by unfold FlV.bk; rw [h1]; rfl
  rw [e] at hk
  exact ⟨g, h1, h2, h3.keep hk (Nat.lt_of_lt_of_le h3.lt hs), h4⟩
theorem LnX.below {W W' : World} {B : Nat} {x : FlV} (h : LnX W B x) (hb : Below W.heap.size W W') : LnX W' B x := by
  obtain ⟨g, h1, h2, h3, h4⟩ := h
  exact ⟨g, h1, h2, h3.below hb, h4⟩
theorem LnX.lt {W : World} {B : Nat} {x : FlV} (h : LnX W B x) : B ≤ x.bk ∧ x.bk < W.heap.size := by
  obtain ⟨g, h1, h2, h3, h4⟩ := h
  have e : x.bk = g := by unfold FlV.bk; rw [h1]; rfl
  rw [e]; exact ⟨h4, h3.lt⟩
end Go.Proofs.Ytkiojnledimihaa

/- kept of FanScript: files are as they were lent; they are written over then. -/
namespace Go.Proofs.Ytkiojnledimihaa
open Go Go.RowKit Go.Shelf

/-- The files ahead of number j of row i. -/
def preF (R : List RowV) (i j : Nat) : List FlV := (R.take i).flatMap RowV.l ++ ((R.getD i default).l.take j)
def Od (R : List RowV) (i j : Nat) (W W' : World) : Prop := Only (fun b => ∃ x ∈ preF R i j, b = x.bk) W W'
section
variable {B : Nat} {W W' : World} {fv f1 : FsV} {i j : Nat}
theorem Od.below {R : List RowV} (h : Od R i j W W') {W2 : World} (hb : Below W'.heap.size W' W2) : Od R i j W W2 := h.then (Only.of_below (S := fun _ => False) hb) (fun _ _ e => e.elim)
end
end Go.Proofs.Ytkiojnledimihaa

/- An act; large: what it lets through. -/
namespace Go.Proofs.Ytkiojnledimihaa
open Go Go.RowKit Go.Shelf

/-- An act as a value. -/
structure AcV where
  kd : Int
  wh : Int
  nn : Int
  at_ : Int
  a : Nm
  bp : Option Addr
  bc : Nat
  b : List Nat
  f : FsV
  np : Option Addr
  nc : Nat
  ns : List Nm
  is : Bool
  m : Nat
  kp : Option Addr
  kc : Nat
  ks : List Bool
abbrev AcV.cs (x : AcV) : Array Value := #[.int .i64 x.kd, .int .i64 x.wh, .int .i64 x.nn, .int .i64 x.at_, sv x.a, .slice x.bp x.b.length x.bc, x.f.v, .slice x.np x.ns.length x.nc, .bool x.is, .int .u8 (x.m : Int), .slice x.kp x.ks.length x.kc]
abbrev AcV.v (x : AcV) : Value := .agg x.cs
/-- Files that came in, whatever their size. -/
structure FlA (w : World) (x : FlV) : Prop where
  nl : x.nm.length ≤ maxLen
  bl : x.bs.length ≤ maxLen
  b8 : ∀ y ∈ x.bs, y < 256
  bt : BAt w x.pb x.bs
structure RwA (w : World) (r : RowV) : Prop where
  at_ : r.l = [] ∨ ∃ b o, r.po = some ⟨b, o, none⟩ ∧ True ∧ ∀ j, j < r.l.length → w.cell? ⟨b, o + j * 2, none⟩ = some (sv (r.l.getD j default).nm) ∧ w.cell? ⟨b, o + j * 2 + 1, none⟩ = some (r.l.getD j default).bv
  el : ∀ x ∈ r.l, FlA w x
  cp : r.l.length ≤ r.c
  ln : r.l.length ≤ maxLen
structure FsA (w : World) (r : FsV) : Prop where
  at_ : r.l = [] ∨ ∃ b o, r.po = some ⟨b, o, none⟩ ∧ ∀ j, j < r.l.length → w.cell? ⟨b, o + j, none⟩ = some (r.l.getD j default).v
  el : ∀ x ∈ r.l, RwA w x
  ln : r.l.length ≤ maxLen
theorem FlA.below {w w' : World} {x : FlV} (h : FlA w x) (hb : Below w.heap.size w w') : FlA w' x := ⟨h.nl, h.bl, h.b8, h.bt.keepB hb⟩
theorem RwA.below {w w' : World} {r : RowV} (h : RwA w r) (hb : Below w.heap.size w w') : RwA w' r := by
  refine ⟨?_, fun x hx => (h.el x hx).below hb, h.cp, h.ln⟩
  rcases h.at_ with h1 | ⟨b, o, h1, h2, h3⟩
  · exact .inl h1
  · exact .inr ⟨b, o, h1, h2, fun j hj => ⟨(World.cell?_of_block (a := ⟨b, o + j * 2, none⟩) (hb.block b (cell_lt2 (h3 j hj).1))).trans (h3 j hj).1, (World.cell?_of_block (a := ⟨b, o + j * 2 + 1, none⟩) (hb.block b (cell_lt2 (h3 j hj).1))).trans (h3 j hj).2⟩⟩
theorem FsA.below {w w' : World} {r : FsV} (h : FsA w r) (hb : Below w.heap.size w w') : FsA w' r := by
  refine ⟨?_, fun x hx => (h.el x hx).below hb, h.ln⟩
  rcases h.at_ with h1 | ⟨b, o, h1, h3⟩
  · exact .inl h1
  · exact .inr ⟨b, o, h1, fun j hj => (World.cell?_of_block (a := ⟨b, o + j, none⟩) (hb.block b (cell_lt2 (h3 j hj)))).trans (h3 j hj)⟩
theorem FsA.row {w : World} {r : FsV} (h : FsA w r) {i : Nat} (hi : i < r.l.length) : ∃ b o, r.po = some ⟨b, o, none⟩ ∧ (∀ _ : Nat, w.cell? ⟨b, o + i, none⟩ = some (.slice (r.l.getD i default).po (r.l.getD i default).l.length (r.l.getD i default).c)) ∧ RwA w (r.l.getD i default) := by
  rcases h.at_ with h1 | ⟨b, o, h1, h3⟩
  · rw [h1] at hi; exact absurd hi (Nat.not_lt_zero _)
  · exact ⟨b, o, h1, fun _ => h3 i hi, h.el _ (by rw [getD_in _ _ _ hi]; exact List.getElem_mem hi)⟩
/-- Those that are small may be committed. -/
theorem FsA.ok {w : World} {r : FsV} (h : FsA w r) (hs : ∀ x ∈ r.l, ∀ y ∈ x.l, y.bs.length ≤ 1000000) : r.ok w (fun b => w.heap.size ≤ b) := by
  refine ⟨?_, fun x hx => ⟨?_, fun y hy => ?_, (h.el x hx).cp⟩⟩
  · rcases h.at_ with h1 | ⟨b, o, h1, h3⟩
    · exact .inl h1
    · by_cases e : r.l = []
      · exact .inl e
      · exact .inr ⟨b, o, h1, fun hle => by have := cell_lt2 (h3 0 (List.length_pos_iff.2 e)); omega, h3⟩
  · rcases (h.el x hx).at_ with h1 | ⟨b, o, h1, _, h3⟩
    · exact .inl h1
    · by_cases e : x.l = []
      · exact .inl e
      · exact .inr ⟨b, o, h1, fun hle => by have := cell_lt2 (h3 0 (List.length_pos_iff.2 e)).1; omega, h3⟩
  · have hy' := (h.el x hx).el y hy
    refine ⟨hy'.nl, hy'.b8, hs x hx y hy, hy'.bt, fun a e hn ht => ?_⟩
    rcases hy'.bt with ⟨_, h2⟩ | ⟨a', h1, h2⟩
    · exact hn h2
    · rw [h1] at e; cases e
      have := h2 0 (List.length_pos_iff.2 hn)
      have := cell_lt' (w := w) (a := a.add 0) (by rw [this]; simp)
      rw [add_block] at this
      omega
end Go.Proofs.Ytkiojnledimihaa

/- Acts that came in. -/
namespace Go.Proofs.Ytkiojnledimihaa
open Go Go.RowKit Go.Shelf

instance : Inhabited AcV := ⟨⟨0, 0, 0, 0, [], none, 0, [], ⟨none, 0, []⟩, none, 0, [], false, 0, none, 0, []⟩⟩
/-- An act that came in. -/
structure AcV.ok (w : World) (x : AcV) : Prop where
  nb : -9223372036854775808 ≤ x.nn ∧ x.nn ≤ 9223372036854775807
  ab : -9223372036854775808 ≤ x.at_ ∧ x.at_ ≤ 9223372036854775807
  al : x.a.length ≤ maxLen
  bt : BAt w x.bp x.b
  b8 : ∀ y ∈ x.b, y < 256
  bl : x.b.length ≤ maxLen
  f : FsA w x.f
  nt : TxO w x.np x.ns
  nn0 : x.np = none → x.ns = [] ∧ x.nc = 0
  nl : ∀ y ∈ x.ns, y.length ≤ maxLen
  nn' : x.ns.length ≤ maxLen
  m8 : x.m < 256
  kt : KAt w (fun _ => False) x.kp x.ks
  kl : x.ks.length ≤ maxLen
section
variable {H : Type} {enc : TypeId × Value → H} {w : World} {held : Bool} {fuel : Nat}
theorem slice_len {t e : TypeId} (ht : Try.prog.underlying t = some (.slice e)) {po : Option Addr} {n c : Nat} {x : DataW H × List MemPlace} (h : DataW.trod enc Try.prog w 0 (fun _ => true) held fuel t [.slice po n c] = some x) : n ≤ maxLen ∧ n ≤ c ∧ (po = none → n = 0 ∧ c = 0) := by
  rcases DataW.trod_slice ht h with ⟨hcs, _⟩ | ⟨ad, l, cc, elems, rest, m, _, hcs, _, _, hl, hm, _⟩
  · simp at hcs; obtain ⟨e1, e2, e3⟩ := hcs; subst e1 e2 e3; exact ⟨Nat.zero_le _, Nat.le_refl _, fun _ => ⟨rfl, rfl⟩⟩
  · simp at hcs; obtain ⟨e1, e2, e3⟩ := hcs; subst e1 e2 e3; exact ⟨Nat.le_trans hl hm, hl, fun e => by cases e⟩
/-- Elements of one slice that came in, each read by itself. -/
theorem rows_read {α : Type} [Inhabited α] {t e : TypeId} {sz : Nat} (ht : Try.prog.underlying t = some (.slice e)) (hsz : Try.prog.cellsOf e = sz) (hs0 : 0 < sz) (val : α → Array Value) (hv : ∀ y, (val y).size = sz) (ok : α → Prop)
    (hr : ∀ {fuel : Nat} {cs : List Value} {x : DataW H × List MemPlace}, DataW.trod enc Try.prog w 0 (fun _ => true) held fuel e cs = some x → ∃ y : α, ok y ∧ cs = (val y).toList)
    {cs : List Value} {x : DataW H × List MemPlace} (h : DataW.trod enc Try.prog w 0 (fun _ => true) held fuel t cs = some x) :
    ∃ (po : Option Addr) (c : Nat) (l : List α), cs = [.slice po l.length c] ∧ (l = [] ∨ ∃ b o, po = some ⟨b, o, none⟩ ∧ ∀ i, i < l.length → ∀ j, j < sz → w.cell? ⟨b, o + i * sz + j, none⟩ = (val (l.getD i default))[j]?) ∧ ∀ y ∈ l, ok y := by
  rcases DataW.trod_slice ht h with ⟨hcs, _⟩ | ⟨ad, l, c, elems, rest, n, _, hcs, _, _, hl, hc, hlen, hel, _, _⟩
  · exact ⟨none, 0, [], hcs, .inl rfl, fun y hy => by cases hy⟩
  · rw [hsz] at hel
    have each : ∀ i, i < l → ∃ y : α, ok y ∧ ∀ j, j < sz → w.cell? ((ad.add (i * sz)).add j) = (val y)[j]? := fun i hi => by
      have h1 := hel i hi
      rw [List.getElem?_eq_getElem (by omega)] at h1
      obtain ⟨ds, hc1, hc2⟩ := Option.bind_eq_some_iff.1 h1
      obtain ⟨y, hy, rfl⟩ := hr hc2
      obtain ⟨_, _, hcell⟩ := World.cells?_some hc1
      exact ⟨y, hy, fun j hj => by rw [hcell j hj]; simp⟩
    by_cases h0 : l = 0
    · subst h0
      exact ⟨some ad, c, [], hcs, .inl rfl, fun y hy => by cases hy⟩
    obtain ⟨y0, hy0, h00⟩ := each 0 (by omega)
    obtain ⟨b, o, rfl⟩ : ∃ b o, ad = ⟨b, o, none⟩ := by
      have h00 := h00 0 hs0
      rw [Nat.zero_mul, add_zero', add_zero'] at h00
      exact plain_at ad w (by rw [h00, Array.getElem?_eq_getElem (by rw [hv]; exact hs0)]; simp)
    have each2 : ∀ i, i < l → ∃ y : α, ok y ∧ ∀ j, j < sz → w.cell? ⟨b, o + i * sz + j, none⟩ = (val y)[j]? := fun i hi => by
      obtain ⟨y, h1, h2⟩ := each i hi
      exact ⟨y, h1, fun j hj => by have := h2 j hj; rw [add_none, add_none] at this; exact this⟩
    obtain ⟨g, hg⟩ : ∃ g : Nat → α, ∀ i, i < l → ok (g i) ∧ ∀ j, j < sz → w.cell? ⟨b, o + i * sz + j, none⟩ = (val (g i))[j]? :=
      ⟨fun i => if h : i < l then (each2 i h).choose else y0, fun i hi => by dsimp only; rw [dif_pos hi]; exact (each2 i hi).choose_spec⟩
    refine ⟨some ⟨b, o, none⟩, c, (List.range l).map g, by simpa using hcs, .inr ⟨b, o, rfl, fun i hi => ?_⟩, fun y hy => ?_⟩
    · have hi' : i < l := by simpa using hi
      have e : ((List.range l).map g).getD i default = g i := by rw [getD_in _ _ _ hi]; simp
      rw [e]
      exact (hg i hi').2
    · obtain ⟨i, hi, rfl⟩ := List.mem_map.1 hy
      exact (hg i (by simpa using hi)).1
theorem text_read {cs : List Value} {x : DataW H × List MemPlace} (h : DataW.trod enc Try.prog w 0 (fun _ => true) held fuel 9 cs = some x) : ∃ y : Nm, y.length ≤ maxLen ∧ cs = (#[sv y]).toList := by
  obtain ⟨s, e, _, hs⟩ := DataW.trod_string Try.underlying9 h
  exact ⟨s.data.toList, by rw [Array.length_toList]; exact hs, by rw [e]⟩
theorem texts_read10 {cs : List Value} {x : DataW H × List MemPlace} (h : DataW.trod enc Try.prog w 0 (fun _ => true) held fuel 30 cs = some x) : ∃ (po : Option Addr) (c : Nat) (ns : List Nm), cs = [.slice po ns.length c] ∧ TxO w po ns ∧ ∀ y ∈ ns, y.length ≤ maxLen := by
  obtain ⟨po, c, l, hcs, hc, hl⟩ := rows_read (sz := 1) Try.underlying30 (by kernel_rfl) (by decide) (fun y : Nm => #[sv y]) (fun _ => rfl) (fun y => y.length ≤ maxLen) (fun h => text_read h) h
  refine ⟨po, c, l, hcs, hc.imp id ?_, hl⟩
  rintro ⟨b, o, e, h⟩
  refine ⟨b, o, e, fun i hi => ?_⟩
  have := h i hi 0 (by decide)
  rw [Nat.mul_one, Nat.add_zero] at this
  exact this
end
end Go.Proofs.Ytkiojnledimihaa

/- Texts, and lists of texts, that came in. -/
namespace Go.Proofs.Ytkiojnledimihaa
open Go Go.RowKit Go.Shelf

/-- A slice's room. -/
def Rm (po : Option Addr) (n c : Nat) : Prop := n ≤ c ∧ (po = none → c = 0)
def IsTs (w : World) (v : Value) (l : List TV) : Prop := ∃ po c, v = .slice po l.length c ∧ l.length ≤ maxLen ∧ TsO w po l ∧ (∀ t ∈ l, t.ns.length ≤ maxLen ∧ (∀ x ∈ t.ns, x.length ≤ maxLen) ∧ Rm t.po t.ns.length t.c) ∧ Rm po l.length c
section
variable {H : Type} {enc : TypeId × Value → H} {w : World} {held : Bool} {fuel : Nat}
theorem row_read13 {cs : List Value} {x : DataW H × List MemPlace} (h : DataW.trod enc Try.prog w 0 (fun _ => true) held fuel 30 cs = some x) : ∃ t : TV, (TxO w t.po t.ns ∧ t.ns.length ≤ maxLen ∧ (∀ x ∈ t.ns, x.length ≤ maxLen) ∧ Rm t.po t.ns.length t.c) ∧ cs = (#[t.v]).toList := by
  obtain ⟨po, c, ns, hcs, ht, hl⟩ := texts_read10 h
  have hn := slice_len Try.underlying30 (by rw [← hcs]; exact h)
  exact ⟨⟨po, c, ns⟩, ⟨ht, hn.1, hl, hn.2.1, fun e => (hn.2.2 e).2⟩, hcs⟩
theorem tss_read13 {cs : List Value} {x : DataW H × List MemPlace} (h : DataW.trod enc Try.prog w 0 (fun _ => true) held fuel 33 cs = some x) : ∃ v l, cs = [v] ∧ IsTs w v l := by
  obtain ⟨po, c, l, hcs, hc, hl⟩ := rows_read (sz := 1) Try.underlying33 (by kernel_rfl) (by decide) (fun t : TV => #[t.v]) (fun _ => rfl) (fun t => TxO w t.po t.ns ∧ t.ns.length ≤ maxLen ∧ (∀ x ∈ t.ns, x.length ≤ maxLen) ∧ Rm t.po t.ns.length t.c) (fun h => row_read13 h) h
  have hn := slice_len Try.underlying33 (by rw [← hcs]; exact h)
  refine ⟨_, l, hcs, po, c, rfl, hn.1, ⟨hc.imp id ?_, fun t ht => (hl t ht).1⟩, fun t ht => (hl t ht).2, hn.2.1, fun e => (hn.2.2 e).2⟩
  rintro ⟨b, o, e, h⟩
  refine ⟨b, o, e, fun i hi => ?_⟩
  have := h i hi 0 (by decide)
  rw [Nat.mul_one, Nat.add_zero] at this
  exact this
end
end Go.Proofs.Ytkiojnledimihaa

/- What is asked of package place (its contracts, as a premise); awake, PlaceTells, PlaceKnown over them. -/
namespace Go.Proofs.Ytkiojnledimihaa
open Go Go.RowKit Go.Shelf

def MgP (w : World) (l : List TV) (e : Ending) (w' : World) : Prop := ∃ v, e = .returned v ∧ TxtS w.heap.size w' v (mgT l) ∧ Below w.heap.size w w'
structure PlC : Prop where
  hash : ∀ (s : Nm) (w : World), s.length ≤ maxLen → Calls Try.prog 8 #[sv s] w fun e w' => e = .returned (.tuple #[.int .u64 (hsN s : Int), .int .i64 (hsE s : Int)]) ∧ Below w.heap.size w w'
  set : ∀ (s : Nm) (n : Int) (w : World), s.length ≤ maxLen → -9223372036854775808 ≤ n ∧ n ≤ 9223372036854775807 → Calls Try.prog 10 #[sv s, .int .i64 n] w fun e w' => e = .returned (.tuple #[.int .i64 (stN s n : Int), .int .i64 (stE s n : Int)]) ∧ Below w.heap.size w w'
  parts : ∀ {w : World} {po : Option Addr} {ns : List Nm} (c : Nat) (n : Int), TxO w po ns → Rm po ns.length c → ns.length ≤ maxLen → (∀ x ∈ ns, x.length ≤ maxLen) → -9223372036854775808 ≤ n ∧ n ≤ 9223372036854775807 → Calls Try.prog 15 #[.slice po ns.length c, .int .i64 n] w (PrR w ns n)
  merge : ∀ {w : World} {po : Option Addr} {l : List TV} (c : Nat), TsO w po l → Rm po l.length c → (∀ t ∈ l, Rm t.po t.ns.length t.c ∧ t.ns.length ≤ 10000) → l.length ≤ 1000 → (flT l).length ≤ 100000 → (∀ x ∈ flT l, x.length ≤ 512) → Calls Try.prog 20 #[.slice po l.length c] w (MgP w l)
/-- abc -/
abbrev tABC : Nm := [97, 98, 99]
set_option maxRecDepth 100000 in
theorem abc_hash : hsN tABC = 13436514500253700074 := by decide +kernel
theorem awk_rows (W : World) : TsO (((W.alloc (.cells #[.string ⟨#[97]⟩, .string ⟨#[99]⟩] 9)).alloc (.cells #[.string ⟨#[98]⟩, .string ⟨#[99]⟩] 9)).alloc (.cells #[.slice (some ⟨W.heap.size, 0, none⟩) 2 2, .slice (some ⟨W.heap.size + 1, 0, none⟩) 2 2, .slice none 0 0] 30)) (some ⟨W.heap.size + 2, 0, none⟩) [⟨some ⟨W.heap.size, 0, none⟩, 2, [[97], [99]]⟩, ⟨some ⟨W.heap.size + 1, 0, none⟩, 2, [[98], [99]]⟩, ⟨none, 0, []⟩] := by
  have e1 : (W.alloc (.cells #[.string ⟨#[97]⟩, .string ⟨#[99]⟩] 9)).heap.size = W.heap.size + 1 := by simp
  have e2 : ((W.alloc (.cells #[.string ⟨#[97]⟩, .string ⟨#[99]⟩] 9)).alloc (.cells #[.string ⟨#[98]⟩, .string ⟨#[99]⟩] 9)).heap.size = W.heap.size + 2 := by simp
  have c1 := ((CAt.made W #[.string ⟨#[97]⟩, .string ⟨#[99]⟩] 9).old (.cells #[.string ⟨#[98]⟩, .string ⟨#[99]⟩] 9)).old (.cells #[.slice (some ⟨W.heap.size, 0, none⟩) 2 2, .slice (some ⟨W.heap.size + 1, 0, none⟩) 2 2, .slice none 0 0] 30)
  have c2 := (CAt.made (W.alloc (.cells #[.string ⟨#[97]⟩, .string ⟨#[99]⟩] 9)) #[.string ⟨#[98]⟩, .string ⟨#[99]⟩] 9).old (.cells #[.slice (some ⟨W.heap.size, 0, none⟩) 2 2, .slice (some ⟨W.heap.size + 1, 0, none⟩) 2 2, .slice none 0 0] 30)
  have c3 := CAt.made ((W.alloc (.cells #[.string ⟨#[97]⟩, .string ⟨#[99]⟩] 9)).alloc (.cells #[.string ⟨#[98]⟩, .string ⟨#[99]⟩] 9)) #[.slice (some ⟨W.heap.size, 0, none⟩) 2 2, .slice (some ⟨W.heap.size + 1, 0, none⟩) 2 2, .slice none 0 0] 30
  rw [e1] at c2
  rw [e2] at c3
  refine ⟨.inr ⟨_, 0, rfl, fun i hi => ?_⟩, fun t ht => ?_⟩
  · rw [Nat.zero_add, c3.cell i]
    have : i = 0 ∨ i = 1 ∨ i = 2 := by simp at hi; omega
    rcases this with rfl | rfl | rfl <;> rfl
  · simp only [List.mem_cons, List.not_mem_nil, or_false] at ht
    rcases ht with rfl | rfl | rfl
    · refine .inr ⟨_, 0, rfl, fun i hi => ?_⟩
      rw [Nat.zero_add, c1.cell i]
      have : i = 0 ∨ i = 1 := by simp at hi; omega
      rcases this with rfl | rfl <;> rfl
    · refine .inr ⟨_, 0, rfl, fun i hi => ?_⟩
      rw [Nat.zero_add, c2.cell i]
      have : i = 0 ∨ i = 1 := by simp at hi; omega
      rcases this with rfl | rfl <;> rfl
    · exact .inl rfl
set_option maxHeartbeats 4000000 in
set_option maxRecDepth 100000 in
theorem awake13_any (hP : PlC) (w : World) : Calls Try.prog 12 #[] w fun e w' => e = .returned (.bool true) ∧ Below w.heap.size w w' := by
  have HH : Hid (∀ W, Calls Try.prog 8 #[.string ⟨#[97, 98, 99]⟩] W fun e w' => e = .returned (.tuple #[.int .u64 13436514500253700074, .int .i64 0]) ∧ Below W.heap.size W w') := hid (fun W => by
    have h := hP.hash tABC W (by unfold maxLen; decide)
    rw [abc_hash, show hsE tABC = 0 by decide] at h; exact h)
  have HS : Hid (∀ W, Calls Try.prog 10 #[.string ⟨#[97, 98, 99]⟩, .int .i64 4] W fun e w' => e = .returned (.tuple #[.int .i64 2, .int .i64 0]) ∧ Below W.heap.size W w') := hid (fun W => by
    have h := hP.set tABC 4 W (by unfold maxLen; decide) (by omega)
    rw [show stE tABC 4 = 0 by decide, show stN tABC 4 = 2 by unfold stN; rw [if_pos (by decide), abc_hash]; decide] at h; exact h)
  have HM : Hid (∀ W, Calls Try.prog 20 #[.slice (some ⟨W.heap.size + 2, 0, none⟩) 3 3] (((W.alloc (.cells #[.string ⟨#[97]⟩, .string ⟨#[99]⟩] 9)).alloc (.cells #[.string ⟨#[98]⟩, .string ⟨#[99]⟩] 9)).alloc (.cells #[.slice (some ⟨W.heap.size, 0, none⟩) 2 2, .slice (some ⟨W.heap.size + 1, 0, none⟩) 2 2, .slice none 0 0] 30)) fun e w' => ∃ v, e = .returned v ∧ TxtAt w' v [[97], [98], [99]] ∧ Below W.heap.size W w') := hid (fun W => by
    have h := hP.merge 3 (awk_rows W) ⟨Nat.le_refl _, fun e => by cases e⟩ (fun t ht => by
      simp only [List.mem_cons, List.not_mem_nil, or_false] at ht
      rcases ht with rfl | rfl | rfl
      · exact ⟨⟨Nat.le_refl _, fun e => by cases e⟩, by simp⟩
      · exact ⟨⟨Nat.le_refl _, fun e => by cases e⟩, by simp⟩
      · exact ⟨⟨Nat.le_refl _, fun _ => rfl⟩, by simp⟩) (by simp) (by simp [flT]) (by simp [flT])
    refine h.mono ?_
    rintro e w' ⟨v, rfl, ht, hb⟩
    have e1 : mgT [⟨some ⟨W.heap.size, 0, none⟩, 2, [[97], [99]]⟩, ⟨some ⟨W.heap.size + 1, 0, none⟩, 2, [[98], [99]]⟩, ⟨none, 0, []⟩] = [[97], [98], [99]] := by
      show wths [] [[97], [99], [98], [99]] = _
      decide
    rw [e1] at ht
    exact ⟨v, rfl, ht.t.at, below_on _ _ ((((Below.refl _ _).alloc (Nat.le_refl _) _).alloc (by simp only [size_al]; omega) _).alloc (by simp only [size_al]; omega) _) hb⟩)
  have HSM : Hid (∀ W v, TxtAt W v [[97], [98], [99]] → Calls Try.prog 17 #[v, .slice (some ⟨W.heap.size, 0, none⟩) 3 3] (W.alloc (.cells #[.string ⟨#[97]⟩, .string ⟨#[98]⟩, .string ⟨#[99]⟩] 9)) fun e w' => e = .returned (.bool true) ∧ Below W.heap.size W w') := hid (fun W v ht => by
    have hb0 : Below W.heap.size W (W.alloc (.cells #[.string ⟨#[97]⟩, .string ⟨#[98]⟩, .string ⟨#[99]⟩] 9)) := (Below.refl _ _).alloc (Nat.le_refl _) _
    refine (sameTexts_true v (.slice (some ⟨W.heap.size, 0, none⟩) 3 3) [[97], [98], [99]] _ (by decide) (ht.below hb0) (.inr ⟨_, 3, rfl, fun i hi => ?_⟩)).mono ?_
    · rw [(CAt.made W #[.string ⟨#[97]⟩, .string ⟨#[98]⟩, .string ⟨#[99]⟩] 9).cell i]
      have : i = 0 ∨ i = 1 ∨ i = 2 := by simp at hi; omega
      rcases this with rfl | rfl | rfl <;> rfl
    · rintro e w' ⟨h1, k, rfl⟩
      exact ⟨h1, below_on _ _ hb0 (below_drewN _ _)⟩)
  clear hP
  go_enter Try.func12, Try.ntmps12
  go_wp2_with (first
    | (go_at_call 8; refine (HH.out _).mono ?_; rintro e w1 ⟨rfl, hb1⟩; have HB := hid hb1; clear hb1)
    | (go_at_call 10; refine (HS.out _).mono ?_; rintro e w2 ⟨rfl, hb2⟩; have HB := hid (below_on _ _ HB.out hb2); clear hb2)
    | (go_at_call 20; refine (HM.out _).mono ?_; rintro e w3 ⟨v, rfl, ht3, hb3⟩; have HB := hid (below_on _ _ HB.out hb3); have HT := hid ht3; clear ht3 hb3)
    | (go_at_call 17; refine (HSM.out _ _ HT.out).mono ?_; rintro e w4 ⟨rfl, hb4⟩; have HB := hid (below_on _ _ HB.out hb4); clear hb4))
  go_ret
  exact ⟨rfl, HB.out⟩
end Go.Proofs.Ytkiojnledimihaa
