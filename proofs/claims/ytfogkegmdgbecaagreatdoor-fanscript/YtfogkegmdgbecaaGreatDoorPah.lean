/- Texts laid into one, cut to what is needed: the remark ahead of each part says what is proved there. -/
import Derived.Test.YtfogkegmdgbecaaGreatDoorPag
import Derived.Test.YtfogkegmdgbecaaGreatDoorPae
/- Two drives beside one another, each with a fuse, with one together, or with none. -/
namespace Go.Proofs.YtfogkegmdgbecaaGreatDoor
open Go Go.RowKit

structure Dl where
 p : Nat
 fu : Option Nat
 d : Pd
def D2 (a b : Dl) (S0 S1 : Nat → Prop) : Nat → Dv
 | 0 => ⟨a.p, S0, a.fu, a.d⟩
 | _ => ⟨b.p, S1, b.fu, b.d⟩
def SZ (w wr : World) (a b : Dl) (Z : Nat → Nat × Bool) : Prop := ∃ S0 S1, Sys w wr 2 (D2 a b S0 S1) Z
theorem lt2 {i : Nat} (h : i < 2) : i = 0 ∨ i = 1 := by omega
section
variable {w wr : World} {a b : Dl} {Z : Nat → Nat × Bool}
theorem SZ.be (h : SZ w wr a b Z) : Below w.heap.size w wr := by obtain ⟨_, _, hs⟩ := h; exact hs.be
theorem SZ.below (h : SZ w wr a b Z) {w' : World} (hb : Below wr.heap.size wr w') : SZ w w' a b Z := by obtain ⟨S0, S1, hs⟩ := h; exact ⟨S0, S1, hs.below hb⟩
theorem SZ.swap (h : SZ w wr a b Z) : SZ w wr b a Z := by
 obtain ⟨S0, S1, hs⟩ := h
 refine ⟨S1, S0, fun i hi => ?_, fun i hi q e => ?_, fun i j hi hj hij => ?_, fun i hi => ?_, hs.be⟩
 ·rcases lt2 hi with rfl | rfl
  ·exact hs.dr 1 (by omega)
  ·exact hs.dr 0 (by omega)
 ·rcases lt2 hi with rfl | rfl
  ·obtain ⟨h1, h2, h3, h4⟩ := hs.fz 1 (by omega) q e
   exact ⟨h1, h2, h3, fun j hj => by rcases lt2 hj with rfl | rfl; exact h4 1 (by omega); exact h4 0 (by omega)⟩
  ·obtain ⟨h1, h2, h3, h4⟩ := hs.fz 0 (by omega) q e
   exact ⟨h1, h2, h3, fun j hj => by rcases lt2 hj with rfl | rfl; exact h4 1 (by omega); exact h4 0 (by omega)⟩
 ·rcases lt2 hi with rfl | rfl <;> rcases lt2 hj with rfl | rfl
  ·exact absurd rfl hij
  ·exact hs.dj 1 0 (by omega) (by omega) (by omega)
  ·exact hs.dj 0 1 (by omega) (by omega) (by omega)
  ·exact absurd rfl hij
 ·rcases lt2 hi with rfl | rfl
  ·exact hs.ge 1 (by omega)
  ·exact hs.ge 0 (by omega)
/-- A call of the first drive that only looks. -/
theorem SZ.look (h : SZ w wr a b Z) {f : FuncId} {args : Array Value} {R : Ending → World → Prop} (hc : ∀ S m L, DrC wr S a.p m a.fu a.d L → FuAt wr S a.fu (a.fu.map Z) → Calls Tryz.prog f args wr R) : Calls Tryz.prog f args wr R := by
 obtain ⟨S0, S1, hs⟩ := h
 obtain ⟨m, L, hd⟩ := hs.dr 0 (by omega)
 exact hc S0 m L hd (hs.fu (i := 0) (by omega))
/-- A call of the first drive that may change it. -/
theorem SZ.run (h : SZ w wr a b Z) {f : FuncId} {args : Array Value} {r : Nat × Pd × Fs} (hc : ∀ S m L, DrC wr S a.p m a.fu a.d L → FuAt wr S a.fu (a.fu.map Z) → Calls Tryz.prog f args wr (Done wr S a.p a.fu r)) :
  Calls Tryz.prog f args wr fun e w' => e = .returned (.int .i64 (r.1 : Int)) ∧ SZ w w' ⟨a.p, a.fu, r.2.1⟩ b (setZ Z a.fu r.2.2) := by
 obtain ⟨S0, S1, hs⟩ := h
 obtain ⟨m, L, hd⟩ := hs.dr 0 (by omega)
 refine (hc S0 m L hd (hs.fu (i := 0) (by omega))).mono fun e w' hD => ?_
 obtain ⟨h1, S2, h2⟩ := hs.done (i := 0) (by omega) hD
 exact ⟨h1, S2, S1, h2.congr fun i hi => by rcases lt2 hi with rfl | rfl <;> rfl⟩
theorem SZ.turned (h : SZ w wr a b Z) {f : FuncId} {args : Array Value} {r : Nat × Pd} (hc : ∀ S m L, DrC wr S a.p m a.fu a.d L → Calls Tryz.prog f args wr (TurnAt wr S a.p a.fu r)) :
  Calls Tryz.prog f args wr fun e w' => e = .returned (.int .i64 (r.1 : Int)) ∧ SZ w w' ⟨a.p, a.fu, r.2⟩ b Z := by
 obtain ⟨S0, S1, hs⟩ := h
 obtain ⟨m, L, hd⟩ := hs.dr 0 (by omega)
 refine (hc S0 m L hd).mono fun e w' ⟨h1, h2, h3⟩ => ⟨h1, S0, S1, ?_⟩
 have hf := hs.fu (i := 0) (by omega)
 have := hs.turn (i := 0) (by omega) (Grows.refl _ _) h2 (Or.inl rfl) (hf.kept h3 (fun q hq => hf.ne q hq)) (h3.mono fun b hb => Or.inl hb)
 rw [setZ_same] at this
 exact this.congr fun i hi => by rcases lt2 hi with rfl | rfl <;> rfl
theorem SZ.setA (h : SZ w wr a b Z) {f : FuncId} {args : Array Value} {d2 : Pd} (hc : ∀ S m L, DrC wr S a.p m a.fu a.d L → Calls Tryz.prog f args wr (SetAt wr S a.p m a.fu d2 L)) :
  Calls Tryz.prog f args wr fun e w' => e = .returned (.int .i64 0) ∧ SZ w w' ⟨a.p, a.fu, d2⟩ b Z := by
 refine (h.turned (r := (0, d2)) fun S m L hd => (hc S m L hd).mono fun e w' ⟨h1, h2, h3, _⟩ => ?_)
 exact ⟨h1, ⟨m, L, h2⟩, h3.mono fun b hb => by rw [hb]; exact hd.sp⟩
/-- Both have a fuse together. -/
theorem SZ.fuse2 (h : SZ w wr a b Z) (bl c : Nat) (hc : CAt wr bl #[ptr a.p, ptr b.p] 38) (n : Nat) (hn : n ≤ 9223372036854775807) :
  Calls Tryz.prog 29 #[.slice (some ⟨bl, 0, none⟩) 2 c, .int .i64 (n : Int)] wr fun e w' => e = .returned (.int .i64 0) ∧ ∃ q, (∀ i, a.fu = some i → i ≠ q) ∧ (∀ i, b.fu = some i → i ≠ q) ∧ SZ w w' ⟨a.p, some q, a.d.lit (a.fu.map Z)⟩ ⟨b.p, some q, b.d.lit (b.fu.map Z)⟩ (fun x => if x = q then (n, false) else Z x) := by
 obtain ⟨S0, S1, hs⟩ := h
 obtain ⟨m1, L1, h1⟩ := hs.dr 0 (by omega)
 obtain ⟨m2, L2, h2⟩ := hs.dr 1 (by omega)
 refine (fuse2_any h1 (hs.fu (i := 0) (by omega)) h2 (hs.fu (i := 1) (by omega)) (hs.dj 0 1 (by omega) (by omega) (by omega)) bl c hc n hn).mono fun e w' ⟨e1, q, hq, k1, k2, k3, k4⟩ => ⟨e1, q, fun i hi => ?_, fun i hi => ?_, S0, S1, ?_⟩
 ·have := (hs.fz 0 (by omega) i hi).1.lt; omega
 ·have := (hs.fz 1 (by omega) i hi).1.lt; omega
 ·exact (hs.lit2 (i := 0) (j := 1) (by omega) (by omega) (by omega) hn hq k1 k2 k3 k4).congr fun i hi => by rcases lt2 hi with rfl | rfl <;> rfl
end
end Go.Proofs.YtfogkegmdgbecaaGreatDoor

/- The walk of DriveKnown. -/
namespace Go.Proofs.YtfogkegmdgbecaaGreatDoor
open Go Go.RowKit

/-- Two drives that have a fuse together, or none. -/
def S2 (w wr : World) (p1 p2 : Nat) (d1 d2 : Pd) (f : Fs) : Prop := ∃ fu Z, SZ w wr ⟨p1, fu, d1⟩ ⟨p2, fu, d2⟩ Z ∧ fu.map Z = f
section
variable {w wr : World} {p1 p2 : Nat} {d1 d2 : Pd} {f : Fs}
theorem S2.be (h : S2 w wr p1 p2 d1 d2 f) : Below w.heap.size w wr := by obtain ⟨_, _, hs, _⟩ := h; exact hs.be
theorem S2.below (h : S2 w wr p1 p2 d1 d2 f) {w' : World} (hb : Below wr.heap.size wr w') : S2 w w' p1 p2 d1 d2 f := by obtain ⟨fu, Z, hs, e⟩ := h; exact ⟨fu, Z, hs.below hb, e⟩
theorem S2.alloc (h : S2 w wr p1 p2 d1 d2 f) (o : Obj) : S2 w (wr.alloc o) p1 p2 d1 d2 f := h.below ((Below.refl _ _).alloc (Nat.le_refl _) _)
theorem S2.swap (h : S2 w wr p1 p2 d1 d2 f) : S2 w wr p2 p1 d2 d1 f := by obtain ⟨fu, Z, hs, e⟩ := h; exact ⟨fu, Z, hs.swap, e⟩
theorem S2.look (h : S2 w wr p1 p2 d1 d2 f) {g : FuncId} {args : Array Value} {R : Ending → World → Prop} (hc : ∀ fu S m L, DrC wr S p1 m fu d1 L → FuAt wr S fu f → Calls Tryz.prog g args wr R) : Calls Tryz.prog g args wr R := by
 obtain ⟨fu, Z, hs, rfl⟩ := h
 exact hs.look fun S m L hd hf => hc fu S m L hd hf
theorem S2.run (h : S2 w wr p1 p2 d1 d2 f) {g : FuncId} {args : Array Value} {r0 r : Nat × Pd × Fs} (hc : ∀ fu S m L, DrC wr S p1 m fu d1 L → FuAt wr S fu f → Calls Tryz.prog g args wr (Done wr S p1 fu r0)) (hr : r0 = r) (hi : r.2.2.isSome = f.isSome) :
  Calls Tryz.prog g args wr fun e w' => e = .returned (.int .i64 (r.1 : Int)) ∧ S2 w w' p1 p2 r.2.1 d2 r.2.2 := by
 obtain ⟨fu, Z, hs, rfl⟩ := h
 subst hr
 refine (hs.run (r := r0) fun S m L hd hf => hc fu S m L hd hf).mono fun e w' ⟨h1, h2⟩ => ⟨h1, fu, _, h2, ?_⟩
 cases fu with
 | none => cases hz : r0.2.2 with
  | none => rfl
  | some z => rw [hz] at hi; cases hi
 | some q => cases hz : r0.2.2 with
  | none => rw [hz] at hi; cases hi
  | some z => simp [setZ]
theorem S2.turned (h : S2 w wr p1 p2 d1 d2 f) {g : FuncId} {args : Array Value} {r0 r : Nat × Pd} (hc : ∀ fu S m L, DrC wr S p1 m fu d1 L → Calls Tryz.prog g args wr (TurnAt wr S p1 fu r0)) (hr : r0 = r) :
  Calls Tryz.prog g args wr fun e w' => e = .returned (.int .i64 (r.1 : Int)) ∧ S2 w w' p1 p2 r.2 d2 f := by
 obtain ⟨fu, Z, hs, rfl⟩ := h
 subst hr
 exact (hs.turned (r := r0) fun S m L hd => hc fu S m L hd).mono fun e w' ⟨h1, h2⟩ => ⟨h1, fu, _, h2, rfl⟩
theorem S2.offline (h : S2 w wr p1 p2 d1 d2 f) (b : Bool) {d3 : Pd} (hr : { d1 with offl := b } = d3) :
  Calls Tryz.prog 34 #[ptr p1, .bool b] wr fun e w' => e = .returned (.int .i64 0) ∧ S2 w w' p1 p2 d3 d2 f := by
 obtain ⟨fu, Z, hs, rfl⟩ := h
 subst hr
 exact (hs.setA fun S m L hd => offline_any hd b).mono fun e w' ⟨h1, h2⟩ => ⟨h1, fu, _, h2, rfl⟩
theorem S2.write (h : S2 w wr p1 p2 d1 d2 f) (s : Nm) (hs : s.length ≤ maxLen) (po : Option Addr) (c : Nat) (bs : List Nat) (h8 : ∀ y ∈ bs, y < 256) (hx : BAt wr po bs) (hn : bs.length ≤ 140737488355328) (ho : d1.ops < 1000000000000) (hl : d1.F.length < 1000000000000) {r : Nat × Pd × Fs} (hr : d1.write f s bs = r) (hi : r.2.2.isSome = f.isSome) :
  Calls Tryz.prog 38 #[ptr p1, sv s, .slice po bs.length c] wr fun e w' => e = .returned (.int .i64 (r.1 : Int)) ∧ S2 w w' p1 p2 r.2.1 d2 r.2.2 :=
 h.run (fun _ _ _ _ hd hf => write_any hd hf s hs po c bs h8 hx hn ho hl) hr hi
theorem S2.sync (h : S2 w wr p1 p2 d1 d2 f) (s : Nm) (hs : s.length ≤ maxLen) (ho : d1.ops < 1000000000000) (hl : d1.F.length < 1000000000000) {r : Nat × Pd × Fs} (hr : d1.sync f s = r) (hi : r.2.2.isSome = f.isSome) :
  Calls Tryz.prog 115 #[ptr p1, sv s] wr fun e w' => e = .returned (.int .i64 (r.1 : Int)) ∧ S2 w w' p1 p2 r.2.1 d2 r.2.2 :=
 h.run (fun _ _ _ _ hd hf => sync_any hd hf s hs ho hl) hr hi
theorem S2.rename (h : S2 w wr p1 p2 d1 d2 f) (s t : Nm) (hs : s.length ≤ maxLen) (ht : t.length ≤ maxLen) (ho : d1.ops < 1000000000000) (hl : d1.F.length < 1000000000000) {r : Nat × Pd × Fs} (hr : d1.rename f s t = r) (hi : r.2.2.isSome = f.isSome) :
  Calls Tryz.prog 118 #[ptr p1, sv s, sv t] wr fun e w' => e = .returned (.int .i64 (r.1 : Int)) ∧ S2 w w' p1 p2 r.2.1 d2 r.2.2 :=
 h.run (fun _ _ _ _ hd hf => rename_any hd hf s t hs ht ho hl) hr hi
theorem S2.delete (h : S2 w wr p1 p2 d1 d2 f) (s : Nm) (hs : s.length ≤ maxLen) (ho : d1.ops < 1000000000000) {r : Nat × Pd × Fs} (hr : d1.delete f s = r) (hi : r.2.2.isSome = f.isSome) :
  Calls Tryz.prog 122 #[ptr p1, sv s] wr fun e w' => e = .returned (.int .i64 (r.1 : Int)) ∧ S2 w w' p1 p2 r.2.1 d2 r.2.2 :=
 h.run (fun _ _ _ _ hd hf => delete_any hd hf s hs ho) hr hi
theorem S2.turn (h : S2 w wr p1 p2 d1 d2 f) (s : Nm) (hs : s.length ≤ maxLen) (a : Int) (ha : -9223372036854775808 ≤ a ∧ a ≤ 9223372036854775807) (mask : Nat) (hm : mask < 256) {r : Nat × Pd} (hr : d1.turn s a mask = r) :
  Calls Tryz.prog 36 #[ptr p1, sv s, .int .i64 a, .int .u8 (mask : Int)] wr fun e w' => e = .returned (.int .i64 (r.1 : Int)) ∧ S2 w w' p1 p2 r.2 d2 f :=
 h.turned (fun _ _ _ _ hd => turn_any hd s hs a ha mask hm) hr
theorem S2.fuse (h : S2 w wr p1 p2 d1 d2 f) (bl c : Nat) (hc : CAt wr bl #[ptr p1, ptr p2] 38) (n : Nat) (hn : n ≤ 9223372036854775807) {d3 d4 : Pd} (h3 : d1.lit f = d3) (h4 : d2.lit f = d4) :
  Calls Tryz.prog 29 #[.slice (some ⟨bl, 0, none⟩) 2 c, .int .i64 (n : Int)] wr fun e w' => e = .returned (.int .i64 0) ∧ S2 w w' p1 p2 d3 d4 (some (n, false)) := by
 obtain ⟨fu, Z, hs, rfl⟩ := h
 subst h3 h4
 exact (hs.fuse2 bl c hc n hn).mono fun e w' ⟨h1, q, _, _, h2⟩ => ⟨h1, some q, _, h2, by simp⟩
end
end Go.Proofs.YtfogkegmdgbecaaGreatDoor

/- The document's own drives in memory; contracts of out, Up, ready, burns, At and Used of them. -/
namespace Go.Proofs.YtfogkegmdgbecaaGreatDoor
open Go Go.RowKit

def e00 : Nm × Ent := ([], ⟨.slice none 0 0, [], false⟩)
def atL (L : List (Nm × Ent)) (i : Nat) : Nm × Ent := L.getD i e00
def fent (p : Nm × Ent) : List Value := [sv p.1, p.2.v, .bool p.2.l]
def flat : List (Nm × Ent) → List Value
 | [] => []
 | p :: r => sv p.1 :: p.2.v :: .bool p.2.l :: flat r
theorem flat_len : ∀ L : List (Nm × Ent), (flat L).length = L.length * 3
 | [] => rfl
 | p :: r => by simp [flat, flat_len r]; omega
theorem flat_app : ∀ L M : List (Nm × Ent), flat (L ++ M) = flat L ++ flat M
 | [], _ => rfl
 | p :: r, M => by simp [flat, flat_app r M]
theorem flat_get : ∀ (L : List (Nm × Ent)) (i j : Nat), i < L.length → j < 3 → (flat L)[i * 3 + j]? = (fent (atL L i))[j]?
 | [], i, _, h, _ => by simp at h
 | p :: r, 0, j, _, hj => by
  have : j = 0 ∨ j = 1 ∨ j = 2 := by omega
  rcases this with rfl | rfl | rfl <;> rfl
 | p :: r, i + 1, j, h, hj => by
  have := flat_get r i j (by simpa using h) hj
  have e : (i + 1) * 3 + j = (i * 3 + j) + 3 := by omega
  rw [e]
  show (sv p.1 :: p.2.v :: .bool p.2.l :: flat r)[i * 3 + j + 3]? = _
  simpa [atL] using this
def rcells (v : Value) (fu : Option Nat) (d : Pd) : Array Value := #[.int .i64 (d.size : Int), v, .bool d.offl, .bool d.full, .bool d.out, fuV fu, .int .i64 (d.ops : Int)]
/-- A drive of the document's lies at block q, its files in the row v. -/
structure RfC (w : World) (R : Nat → Prop) (q : Nat) (v : Value) (fu : Option Nat) (d : Pd) (L : List (Nm × Ent)) : Prop where
 c : CAt w q (rcells v fu d) 78
 ow : w.ownsRow 0 134 3 v L.length (flat L)
 fs : d.F = gmap Ent.fi L
 by_ : ∀ x ∈ L, w.ownsRow 0 5 1 x.2.v x.2.b.length (x.2.b.map u8)
 sp : R q
 rv : ∀ b, v.ownBlock = some b → R b
 rb : ∀ x ∈ L, ∀ b, x.2.v.ownBlock = some b → R b
 lt : ∀ b, R b → b < w.heap.size
/-- A fuse of the document's, outside R. -/
def FuR (w : World) (R : Nat → Prop) : Option Nat → Fs → Prop
 | none, none => True
 | some q, some (n, g) => CAt w q #[.int .i64 (n : Int), .bool g] 138 ∧ ¬ R q ∧ n ≤ 9223372036854775807
 | _, _ => False
def RfAt (w : World) (R : Nat → Prop) (q : Nat) (fu : Option Nat) (d : Pd) : Prop := ∃ v L, RfC w R q v fu d L
section
variable {w w' : World} {R : Nat → Prop} {q : Nat} {v : Value} {fu : Option Nat} {d : Pd} {L : List (Nm × Ent)} {f : Fs}
theorem RfC.keep (h : RfC w R q v fu d L) (hs : w.heap.size ≤ w'.heap.size) (hk : ∀ b, R b → w'.heap[b]? = w.heap[b]?) : RfC w' R q v fu d L :=
 { h with c := h.c.keep (hk q h.sp), ow := ownsRow_keep h.ow fun b hb => hk b (h.rv b hb), by_ := fun x hx => ownsRow_keep (h.by_ x hx) fun b hb => hk b (h.rb x hx b hb), lt := fun b hb => Nat.lt_of_lt_of_le (h.lt b hb) hs }
theorem RfC.below (h : RfC w R q v fu d L) (hb : Below w.heap.size w w') : RfC w' R q v fu d L := h.keep hb.size fun b hR => hb.block b (h.lt b hR)
theorem RfC.alloc (h : RfC w R q v fu d L) (o : Obj) : RfC (w.alloc o) R q v fu d L := h.below ((Below.refl _ _).alloc (Nat.le_refl _) _)
theorem RfC.wide {R' : Nat → Prop} (h : RfC w R q v fu d L) (hS : ∀ b, R b → R' b) (hl : ∀ b, R' b → b < w.heap.size) : RfC w R' q v fu d L :=
 { h with sp := hS q h.sp, rv := fun b hb => hS b (h.rv b hb), rb := fun x hx b hb => hS b (h.rb x hx b hb), lt := hl }
theorem RfC.lenF (h : RfC w R q v fu d L) : L.length = d.F.length := by rw [h.fs, len_map]
theorem FuR.keep : ∀ {fu : Option Nat} {f : Fs}, FuR w R fu f → (∀ q, fu = some q → w'.heap[q]? = w.heap[q]?) → FuR w' R fu f
 | none, none, _, _ => trivial
 | some q, some (_, _), h, hk => ⟨h.1.keep (hk q rfl), h.2⟩
theorem FuR.lt : ∀ {fu : Option Nat} {f : Fs}, FuR w R fu f → ∀ q, fu = some q → q < w.heap.size
 | some q, some (_, _), h, _, e => by cases e; exact h.1.lt
theorem FuR.ne : ∀ {fu : Option Nat} {f : Fs}, FuR w R fu f → ∀ q, fu = some q → ¬ R q
 | some q, some (_, _), h, _, e => by cases e; exact h.2.1
theorem FuR.below (h : FuR w R fu f) (hb : Below w.heap.size w w') : FuR w' R fu f := h.keep fun q e => hb.block q (h.lt q e)
theorem FuR.alloc (h : FuR w R fu f) (o : Obj) : FuR (w.alloc o) R fu f := h.below ((Below.refl _ _).alloc (Nat.le_refl _) _)
theorem RfC.at (h : RfC w R q v fu d L) {i : Nat} (hi : i < L.length) : ∃ g c, v = .slice (some ⟨g, 0, none⟩) L.length c ∧ w.cell? ⟨g, i * 3, none⟩ = some (sv (atL L i).1) ∧ w.cell? ⟨g, i * 3 + 1, none⟩ = some (atL L i).2.v ∧ w.cell? ⟨g, i * 3 + 2, none⟩ = some (.bool (atL L i).2.l) ∧ ∀ j, w.frozen? ⟨g, j, none⟩ = false := by
 rcases h.ow.2 with ⟨_, h0⟩ | ⟨g, cap, cur, rfl, _, hg, h1, _, h3, h4⟩
 ·omega
 ·have hc : CAt w g cur 134 := hg
  have get : ∀ j, j < 3 → w.cell? ⟨g, i * 3 + j, none⟩ = (fent (atL L i))[j]? := fun j hj => by
   rw [hc.cell, ← flat_get L i j hi hj, ← h4, List.getElem?_take, if_pos (by omega)]
   simp
  exact ⟨g, cap, rfl, get 0 (by omega), get 1 (by omega), get 2 (by omega), fun j => hc.free j⟩
theorem RfC.form (h : RfC w R q v fu d L) : ∃ po c, v = .slice po L.length c := own_form h.ow
theorem rout_any (h : RfC w R q v fu d L) (hf : FuR w R fu f) : Calls Tryz.prog 92 #[ptr q] w fun e w' => e = .returned (.bool (d.isOut f)) ∧ w' = w := by
 have c7 : w.cell? ⟨q, 4, none⟩ = some (.bool d.out) := h.c.cell 4
 have c8 : w.cell? ⟨q, 5, none⟩ = some (fuV fu) := h.c.cell 5
 cases ho : d.out
 ·match fu, f, hf with
  | none, none, _ =>
   rw [ho] at c7
   simp only [fuV] at c8
   go_enter Tryz.func92, Tryz.ntmps92
   go_wp2
   go_ret
   simp [Pd.isOut, ho, goneF]
  | some q, some (n, g), hf =>
   rw [ho] at c7
   simp only [fuV] at c8
   have g1 : w.cell? ⟨q, 1, none⟩ = some (.bool g) := hf.1.cell 1
   go_enter Tryz.func92, Tryz.ntmps92
   go_wp2
   go_ret
   simp [Pd.isOut, ho, goneF]
 ·rw [ho] at c7
  go_enter Tryz.func92, Tryz.ntmps92
  go_wp2
  go_ret
  simp [Pd.isOut, ho]
theorem rup_any (h : RfC w R q v fu d L) (hf : FuR w R fu f) : Calls Tryz.prog 49 #[ptr q] w fun e w' => e = .returned (.bool (d.up f)) ∧ w' = w := by
 have c2 : w.cell? ⟨q, 2, none⟩ = some (.bool d.offl) := h.c.cell 2
 have hout := rout_any h hf
 cases ho : d.isOut f
 ·rw [ho] at hout
  go_enter Tryz.func49, Tryz.ntmps49
  go_wp2_with (go_at_call 92; refine hout.mono ?_; rintro e w' ⟨rfl, hw'⟩; have hw2 := hw'.symm; subst hw2)
  go_ret
  simp [Pd.up, ho]
 ·rw [ho] at hout
  go_enter Tryz.func49, Tryz.ntmps49
  go_wp2_with (go_at_call 92; refine hout.mono ?_; rintro e w' ⟨rfl, hw'⟩; have hw2 := hw'.symm; subst hw2)
  go_ret
  simp [Pd.up, ho]
/-- A change goes by: the fuse burns, and one change more is counted; or the fuse is gone. -/
theorem burns_any (h : RfC w R q v fu d L) (hf : FuR w R fu f) (ho : d.ops < 1000000000000) :
  Calls Tryz.prog 101 #[ptr q] w fun e w' => e = .returned (.bool (letsF f)) ∧ RfC w' R q v fu (if letsF f then { d with ops := d.ops + 1 } else d) L ∧ FuR w' R fu (burn f) ∧ Only (fun b => b = q ∨ fu = some b) w w' ∧ w'.heap.size = w.heap.size := by
 have c5 : w.cell? ⟨q, 5, none⟩ = some (fuV fu) := h.c.cell 5
 have c6 : w.cell? ⟨q, 6, none⟩ = some (.int .i64 (d.ops : Int)) := h.c.cell 6
 have z6 : w.frozen? ⟨q, 6, none⟩ = false := h.c.free 6
 have hset : ∀ W : World, RfC W R q v fu d L → RfC (W.setCell ⟨q, 6, none⟩ (.int .i64 ((d.ops : Int) + 1))) R q v fu { d with ops := d.ops + 1 } L := fun W h => by
  have hne : ∀ b t cs, CAt W b cs t → t ≠ 78 → b ≠ q := fun b t cs hc ht e => by
   subst e; have e2 : W.heap[b]? = _ := hc; have := h.c; unfold CAt at this; rw [this] at e2; cases e2; exact ht rfl
  have own : ∀ {t s n : Nat} {u : Value} {xs : List Value}, W.ownsRow 0 t s u n xs → t ≠ 78 → (W.setCell ⟨q, 6, none⟩ (.int .i64 ((d.ops : Int) + 1))).ownsRow 0 t s u n xs := fun {t s n u xs} ho ht => ownsRow_keep ho fun b hb => heap_setCell_ne _ _ _ _ (by
   rcases ho.2 with ⟨rfl, _⟩ | ⟨g, cap, cur, rfl, _, hg, _⟩
   ·cases hb
   ·cases hb; exact hne _ _ _ hg ht)
  exact ⟨by have := h.c.set 6 (.int .i64 ((d.ops : Int) + 1)); simpa [rcells] using this, own h.ow (by decide), h.fs, fun x hx => own (h.by_ x hx) (by decide), h.sp, h.rv, h.rb, fun b hb => by rw [setCell_size]; exact h.lt b hb⟩
 match fu, f, hf with
 | none, none, _ =>
  simp only [fuV] at c5
  have H := hid h
  have HS := hid hset
  clear h hset
  go_enter Tryz.func101, Tryz.ntmps101
  go_wp2
  go_ret
  exact ⟨rfl, HS.out _ H.out, trivial, Only.set _ _ _ (by simp), setCell_size _ _ _⟩
 | some q2, some (0, g), hf =>
  simp only [fuV] at c5
  have g0 : w.cell? ⟨q2, 0, none⟩ = some (.int .i64 0) := hf.1.cell 0
  have g1 : w.cell? ⟨q2, 1, none⟩ = some (.bool g) := hf.1.cell 1
  have z1 : w.frozen? ⟨q2, 1, none⟩ = false := hf.1.free 1
  have H := hid h
  have HS := hid hset
  have HF := hid hf
  clear h hset hf
  go_enter Tryz.func101, Tryz.ntmps101
  go_wp2
  go_ret
  refine ⟨rfl, ?_, ⟨HF.out.1.set 1 (.bool true), HF.out.2⟩, Only.set _ _ _ (Or.inr rfl), setCell_size _ _ _⟩
  exact H.out.keep (by rw [setCell_size]; exact Nat.le_refl _) fun b hb => heap_setCell_ne _ _ _ _ fun e => HF.out.2.1 ((show b = q2 from e) ▸ hb)
 | some q2, some (n + 1, g), hf =>
  simp only [fuV] at c5
  have g0 : w.cell? ⟨q2, 0, none⟩ = some (.int .i64 ((n + 1 : Nat) : Int)) := hf.1.cell 0
  have z0 : w.frozen? ⟨q2, 0, none⟩ = false := hf.1.free 0
  have hn := hf.2.2
  have hne : q2 ≠ q := fun e => hf.2.1 (e ▸ h.sp)
  have H := hid h
  have HS := hid hset
  have HF := hid hf
  clear h hset hf
  go_enter Tryz.func101, Tryz.ntmps101
  go_wp2
  go_ret
  have k1 : RfC (w.setCell ⟨q2, 0, none⟩ (.int .i64 (n : Int))) R q v (some q2) d L := H.out.keep (by rw [setCell_size]; exact Nat.le_refl _) fun b hb => heap_setCell_ne _ _ _ _ fun e => HF.out.2.1 ((show b = q2 from e) ▸ hb)
  have k2 : CAt (w.setCell ⟨q2, 0, none⟩ (.int .i64 (n : Int))) q2 #[.int .i64 (n : Int), .bool g] 138 := by have := HF.out.1.set 0 (.int .i64 (n : Int)); simpa using this
  refine ⟨rfl, HS.out _ k1, ⟨k2.keep (heap_setCell_ne _ _ _ _ hne), HF.out.2.1, by omega⟩, (Only.set _ _ _ (Or.inr rfl)).trans (Only.set _ _ _ (Or.inl rfl)), by rw [setCell_size, setCell_size]⟩
end
end Go.Proofs.YtfogkegmdgbecaaGreatDoor

/- Contract of Name of the document's own answer; the walk of DriveNames. -/
namespace Go.Proofs.YtfogkegmdgbecaaGreatDoor
open Go Go.RowKit

set_option maxRecDepth 100000 in
theorem rname_any (s : Nm) (w : World) (hl : s.length ≤ maxLen) : Calls Tryz.prog 76 #[sv s] w fun e w' => e = .returned (.bool (okNm s)) ∧ w' = w := by
 have hz : (⟨s.toArray⟩ : ByteArray).size = s.length := by simp [ByteArray.size]
 have hml : maxLen = 9223372036854775807 := rfl
 rw [hml] at hl
 have HX := hid (idx_sv s)
 unfold sv at HX ⊢
 generalize (⟨s.toArray⟩ : ByteArray) = bs at hz HX ⊢
 go_enter Tryz.func76, Tryz.ntmps76
 go_wp2
 go_loopw [3] (fun v wr => ∃ k : Nat, k ≤ s.length ∧ v = .int .i64 (k : Int) ∧ wr = w ∧ ∀ i, i < k → okB (s.getD i 0) = true) (fun v _ => (s.length - intOf v).toNat)
 case atStart => exact ⟨0, by omega, rfl, rfl, fun i hi => by omega⟩
 case round =>
  obtain ⟨k, hk, rfl, hw, hok⟩ := hrel
  have HOK := hid hok
  subst hw
  clear hok
  by_cases hlt : k < s.length
  ·have hx := HX.out k hlt
   generalize hc : s.getD k 0 = c at hx
   have HC := hid hc
   clear hc
   have hlt' : (k : Int) < (s.length : Int) := by omega
   by_cases hlo : (c.toNat : Int) < 33
   ·go_wp2
    go_ret
    rw [okNm_not hlt (by rw [HC.out]; exact okB_lo hlo)]; simp
   by_cases hhi : 126 < (c.toNat : Int)
   ·go_wp2
    go_ret
    rw [okNm_not hlt (by rw [HC.out]; exact okB_hi hhi)]; simp
   go_wp2
   go_roundw
   case rel =>
    refine ⟨k + 1, by omega, by go_num, by trivial, fun i hi => ?_⟩
    by_cases e : i = k
    ·rw [e, HC.out]; exact okB_in hlo hhi
    ·exact HOK.out i (by omega)
   case measure => simp [intOf]; omega
  ·have hlt' : ¬ (k : Int) < (s.length : Int) := by omega
   have e : okNm s = (decide (1 ≤ (s.length : Int)) && decide ((s.length : Int) ≤ 512)) := by
    rw [Bool.eq_iff_iff, okNm_iff]
    simp only [Bool.and_eq_true, decide_eq_true_eq]
    constructor
    ·rintro ⟨h1, h2, _⟩; omega
    ·rintro ⟨h1, h2⟩; exact ⟨by omega, by omega, fun i hi => HOK.out i (by omega)⟩
   by_cases h1 : s.length < 1
   ·have h1' : ¬ 1 ≤ (s.length : Int) := by omega
    have e2 : okNm s = false := by rw [e]; simp; omega
    clear e
    go_wp2
    go_ret
    exact ⟨by first | rfl | (rw [e2]; rfl), by first | rfl | trivial⟩
   ·by_cases h2 : s.length ≤ 512
    ·have h1' : 1 ≤ (s.length : Int) := by omega
     have h2' : (s.length : Int) ≤ 512 := by omega
     have e2 : okNm s = true := by rw [e]; simp; omega
     clear e
     go_wp2
     go_ret
     exact ⟨by first | rfl | (rw [e2]; rfl), by first | rfl | trivial⟩
    ·have h1' : 1 ≤ (s.length : Int) := by omega
     have h2' : ¬ (s.length : Int) ≤ 512 := by omega
     have e2 : okNm s = false := by rw [e]; simp; omega
     clear e
     go_wp2
     go_ret
     exact ⟨by first | rfl | (rw [e2]; rfl), by first | rfl | trivial⟩

end Go.Proofs.YtfogkegmdgbecaaGreatDoor

/- Contracts of ready, At and Used of the document's drives. -/
namespace Go.Proofs.YtfogkegmdgbecaaGreatDoor
open Go Go.RowKit
section
variable {w w' : World} {R : Nat → Prop} {q : Nat} {v : Value} {fu : Option Nat} {d : Pd} {L : List (Nm × Ent)} {f : Fs}
/-- A row of bytes or files does not lie where a drive lies. -/
theorem RfC.ne_q (h : RfC w R q v fu d L) {t s n : Nat} {u : Value} {xs : List Value} (ho : w.ownsRow 0 t s u n xs) (ht : t ≠ 78) : ∀ b, u.ownBlock = some b → b ≠ q := fun b hb e => by
 rcases ho.2 with ⟨rfl, _⟩ | ⟨g, cap, cur, rfl, _, hg, _⟩
 ·cases hb
 ·cases hb
  have h2 : w.heap[q]? = _ := h.c
  have e' : g = q := e
  rw [e', h2] at hg
  cases hg
  exact ht rfl
theorem RfC.setq (h : RfC w R q v fu d L) (i : Nat) (x : Value) {fu2 : Option Nat} {d2 : Pd} (hc : (rcells v fu d).setIfInBounds i x = rcells v fu2 d2) (hF : d2.F = d.F) : RfC (w.setCell ⟨q, i, none⟩ x) R q v fu2 d2 L := by
 have own : ∀ {t s n : Nat} {u : Value} {xs : List Value}, w.ownsRow 0 t s u n xs → t ≠ 78 → (w.setCell ⟨q, i, none⟩ x).ownsRow 0 t s u n xs := fun ho ht => ownsRow_keep ho fun b hb => heap_setCell_ne _ _ _ _ (h.ne_q ho ht b hb)
 exact ⟨by have := h.c.set i x; rw [hc] at this; exact this, own h.ow (by decide), hF.trans h.fs, fun x hx => own (h.by_ x hx) (by decide), h.sp, h.rv, h.rb, fun b hb => by rw [setCell_size]; exact h.lt b hb⟩
theorem RfC.setL (h : RfC w R q v fu d L) (v2 : Value) (L2 : List (Nm × Ent)) (how : w.ownsRow 0 134 3 v2 L2.length (flat L2)) (hby : ∀ x ∈ L2, w.ownsRow 0 5 1 x.2.v x.2.b.length (x.2.b.map u8))
  {R2 : Nat → Prop} (hR : ∀ b, R b → R2 b) (hv : ∀ b, v2.ownBlock = some b → R2 b) (hb : ∀ x ∈ L2, ∀ b, x.2.v.ownBlock = some b → R2 b) (hl : ∀ b, R2 b → b < w.heap.size) {F2 : List (Nm × Fi)} (hF : F2 = gmap Ent.fi L2) :
  RfC (w.setCell ⟨q, 1, none⟩ v2) R2 q v2 fu { d with F := F2 } L2 := by
 have own : ∀ {t s n : Nat} {u : Value} {xs : List Value}, w.ownsRow 0 t s u n xs → t ≠ 78 → (w.setCell ⟨q, 1, none⟩ v2).ownsRow 0 t s u n xs := fun ho ht => ownsRow_keep ho fun b hb => heap_setCell_ne _ _ _ _ (h.ne_q ho ht b hb)
 exact ⟨by have := h.c.set 1 v2; simpa [rcells] using this, own how (by decide), hF, fun x hx => own (hby x hx) (by decide), hR q h.sp, hv, hb, fun b hb => by rw [setCell_size]; exact hl b hb⟩
set_option maxHeartbeats 400000 in
set_option maxRecDepth 100000 in
theorem ready_any (h : RfC w R q v fu d L) (hf : FuR w R fu f) (vn : Value) (ns : List Nm) (hv : TxtAt w vn ns) (hn : ns.length ≤ 1000) (hl : ∀ x ∈ ns, x.length ≤ maxLen) :
  Calls Tryz.prog 100 #[ptr q, vn] w fun e w' => e = .returned (.int .i64 (d.ans f ns : Int)) ∧ w' = w := by
 have c2 : w.cell? ⟨q, 2, none⟩ = some (.bool d.offl) := h.c.cell 2
 have hout := rout_any h hf
 clear h hf
 cases ho : d.isOut f
 ·cases hof : d.offl
  ·rw [ho] at hout
   rw [hof] at c2
   have hform : ∃ po c, vn = .slice po ns.length c := by rcases hv with ⟨rfl, rfl⟩ | ⟨b, c, rfl, _⟩ <;> exact ⟨_, _, rfl⟩
   obtain ⟨po, c, rfl⟩ := hform
   have HV := hid hv
   have HL := hid hl
   clear hv hl
   go_enter Tryz.func100, Tryz.ntmps100
   go_wp2_with (go_at_call 92; refine hout.mono ?_; rintro e w' ⟨rfl, hw'⟩; have hw2 := hw'.symm; subst hw2)
   go_loopw [5] (fun v wr => ∃ k : Nat, k ≤ ns.length ∧ v = .int .i64 (k : Int) ∧ wr = w ∧ ∀ i, i < k → okNm (ns.getD i []) = true) (fun v _ => (ns.length - intOf v).toNat)
   case atStart => exact ⟨0, by omega, rfl, rfl, fun i hi => by omega⟩
   case round =>
    obtain ⟨k, hk, rfl, hw, hok⟩ := hrel
    have HOK := hid hok
    clear hok
    subst hw
    by_cases hlt : k < ns.length
    ·rcases HV.out with ⟨h0, _⟩ | ⟨b, c2, hv, hc⟩
     ·rw [h0] at hlt; simp at hlt
     cases hv
     have hx := hc k hlt
     clear hc
     have hnm := rname_any (ns.getD k []) wr (HL.out _ (by rw [getD_in _ _ _ hlt]; exact List.getElem_mem hlt))
     generalize hc : ns.getD k [] = c at hx hnm
     have HC := hid hc
     clear hc
     have hlt' : (k : Int) < (ns.length : Int) := by omega
     cases hb : okNm c
     ·rw [hb] at hnm
      go_wp2_with (go_at_call 76; refine hnm.mono ?_; rintro e w' ⟨rfl, hw'⟩; have hw2 := hw'.symm; subst hw2)
      go_ret
      rw [ans_bad ho hof hlt (by rw [HC.out]; exact hb)]; simp
     ·rw [hb] at hnm
      go_wp2_with (go_at_call 76; refine hnm.mono ?_; rintro e w' ⟨rfl, hw'⟩; have hw2 := hw'.symm; subst hw2)
      go_roundw
      case rel =>
       refine ⟨k + 1, by omega, by go_num, by trivial, fun i hi => ?_⟩
       by_cases e : i = k
       ·rw [e, HC.out]; exact hb
       ·exact HOK.out i (by omega)
      case measure => simp [intOf]; omega
    ·have hlt' : ¬ (k : Int) < (ns.length : Int) := by omega
     have e : d.ans f ns = 0 := ans_all ho hof fun i hi => HOK.out i (by omega)
     go_wp2
     go_ret
     exact ⟨by first | rfl | (rw [e]; rfl), by first | rfl | trivial⟩
  ·have e : d.ans f ns = 12 := by unfold Pd.ans; rw [ho, hof]; rfl
   rw [e]
   rw [ho] at hout
   rw [hof] at c2
   go_enter Tryz.func100, Tryz.ntmps100
   go_wp2_with (go_at_call 92; refine hout.mono ?_; rintro e w' ⟨rfl, hw'⟩; have hw2 := hw'.symm; subst hw2)
   go_ret
   simp
 ·have e : d.ans f ns = 11 := by unfold Pd.ans; rw [ho]; rfl
  rw [e]
  rw [ho] at hout
  go_enter Tryz.func100, Tryz.ntmps100
  go_wp2_with (go_at_call 92; refine hout.mono ?_; rintro e w' ⟨rfl, hw'⟩; have hw2 := hw'.symm; subst hw2)
  go_ret
  simp
/-- Where a file stands. -/
def idx : List (Nm × Ent) → Nm → Option Nat
 | [], _ => none
 | p :: r, s => if p.1 = s then some 0 else (idx r s).map (· + 1)
def atI (L : List (Nm × Ent)) (s : Nm) : Int := match idx L s with | some i => (i : Int) | none => -1
theorem idx_none : ∀ (L : List (Nm × Ent)) (s : Nm), (∀ i, i < L.length → (atL L i).1 ≠ s) → idx L s = none
 | [], _, _ => rfl
 | p :: r, s, h => by
  have h0 : p.1 ≠ s := h 0 (by simp)
  have := idx_none r s fun i hi => h (i + 1) (by simpa using hi)
  simp [idx, h0, this]
theorem idx_some : ∀ (L : List (Nm × Ent)) (s : Nm) (k : Nat), k < L.length → (∀ i, i < k → (atL L i).1 ≠ s) → (atL L k).1 = s → idx L s = some k
 | [], _, k, h, _, _ => by simp at h
 | p :: r, s, 0, _, _, h2 => by have : p.1 = s := h2; simp [idx, this]
 | p :: r, s, k + 1, hk, h, h2 => by
  have h0 : p.1 ≠ s := h 0 (by omega)
  have := idx_some r s k (by simpa using hk) (fun i hi => h (i + 1) (by omega)) h2
  simp [idx, h0, this]
theorem idx_get : ∀ {L : List (Nm × Ent)} {s : Nm} {i : Nat}, idx L s = some i → i < L.length ∧ (atL L i).1 = s ∧ gget L s = some (atL L i).2
 | [], _, _, h => by cases h
 | p :: r, s, i, h => by
  unfold idx at h
  by_cases e : p.1 = s
  ·rw [if_pos e] at h; cases h
   exact ⟨by simp, e, by unfold gget; rw [List.find?_cons_of_pos (by simpa using e)]; rfl⟩
  ·rw [if_neg e] at h
   cases hi : idx r s with
   | none => rw [hi] at h; cases h
   | some j =>
    rw [hi] at h; cases h
    obtain ⟨h1, h2, h3⟩ := idx_get hi
    refine ⟨by simpa using h1, h2, ?_⟩
    unfold gget at h3 ⊢
    rw [List.find?_cons_of_neg (by simpa using e)]; exact h3
theorem idx_miss : ∀ {L : List (Nm × Ent)} {s : Nm}, idx L s = none → gget L s = none
 | [], _, _ => rfl
 | p :: r, s, h => by
  unfold idx at h
  by_cases e : p.1 = s
  ·rw [if_pos e] at h; cases h
  ·rw [if_neg e] at h
   have := idx_miss (L := r) (s := s) (by cases hi : idx r s with | none => rfl | some j => rw [hi] at h; cases h)
   unfold gget at this ⊢
   rw [List.find?_cons_of_neg (by simpa using e)]; exact this
set_option maxRecDepth 100000 in
theorem at_any (h : RfC w R q v fu d L) (s : Nm) (hl : L.length < 1000000000000) :
  Calls Tryz.prog 95 #[ptr q, sv s] w fun e w' => e = .returned (.int .i64 (atI L s)) ∧ w' = w := by
 have c1 : w.cell? ⟨q, 1, none⟩ = some v := h.c.cell 1
 obtain ⟨po, c, rfl⟩ := h.form
 have H := hid h
 have HB := hid (fun x => sv_eq x s)
 clear h
 generalize hA : atI L s = A at *
 have HA := hid hA
 clear hA
 unfold sv
 generalize (⟨s.toArray⟩ : ByteArray) = Y at *
 go_enter Tryz.func95, Tryz.ntmps95
 go_wp2
 go_loopw [5] (fun v wr => ∃ k : Nat, k ≤ L.length ∧ v = .int .i64 (k : Int) ∧ wr = w ∧ ∀ i, i < k → (atL L i).1 ≠ s) (fun v _ => (L.length - intOf v).toNat)
 case atStart => exact ⟨0, by omega, rfl, rfl, fun i hi => by omega⟩
 case round =>
  obtain ⟨k, hk, rfl, hw, hok⟩ := hrel
  have HOK := hid hok
  subst hw
  clear hok
  by_cases hlt : k < L.length
  ·have hlt' : (k : Int) < (L.length : Int) := by omega
   obtain ⟨g, cc, hv, ck, _⟩ := H.out.at hlt
   cases hv
   have hbq := HB.out (atL L k).1
   unfold sv at ck
   generalize (⟨(atL L k).1.toArray⟩ : ByteArray) = X at *
   by_cases he : (atL L k).1 = s
   ·have hxy := hbq.2 he
    subst hxy
    clear hbq
    go_wp2
    go_ret
    exact ⟨by rw [← HA.out]; unfold atI; rw [idx_some L s k hlt HOK.out he]; rfl, rfl⟩
   ·have hxy : X ≠ Y := fun e => he (hbq.1 e)
    have hx2 := ba_ne hxy
    clear hbq
    go_wp2
    go_roundw
    case rel =>
     refine ⟨k + 1, by omega, by go_num, by trivial, fun i hi => ?_⟩
     by_cases e : i = k
     ·rw [e]; exact he
     ·exact HOK.out i (by omega)
    case measure => simp [intOf]; omega
  ·have hlt' : ¬ (k : Int) < (L.length : Int) := by omega
   go_wp2
   go_ret
   exact ⟨by rw [← HA.out]; unfold atI; rw [idx_none L s fun i hi => HOK.out i (by omega)]; rfl, rfl⟩
end
end Go.Proofs.YtfogkegmdgbecaaGreatDoor

/- Contracts of Used and without of the document's drives. -/
namespace Go.Proofs.YtfogkegmdgbecaaGreatDoor
open Go Go.RowKit

/-- Files that lie in a row of their own. -/
def FilL (B : Nat) (w : World) (v : Value) (L : List (Nm × Ent)) : Prop := w.ownsRow B 134 3 v L.length (flat L)
theorem Tryz.infoFile : (Tryz.prog.info? 134).map (fun i => (i.zero, i.size, i.bytes)) = some (some (.agg #[.string ⟨#[]⟩, .slice none 0 0, .bool false]), 3, 48) := by kernel_rfl
theorem fil_one (x : Nm × Ent) (hx : ∃ po n c, x.2.v = .slice po n c) : ∀ u ∈ [sv x.1, x.2.v, .bool x.2.l], u.oneCell' = true := by
 obtain ⟨po, n, c, e⟩ := hx
 intro u hu
 simp at hu
 rcases hu with rfl | rfl | rfl
 ·rfl
 ·rw [e]; rfl
 ·rfl
theorem FilL.push {B : Nat} {w : World} {v : Value} {L : List (Nm × Ent)} (h : FilL B w v L) (x : Nm × Ent) (hx : ∃ po n c, x.2.v = .slice po n c) (hn : L.length ≤ 1000000) (hB : B ≤ w.heap.size) :
  ∃ v' w', (Builtin.append_ #[75, 75] 75 #[v, .slice (some ⟨w.heap.size, 0, none⟩) 1 1]).run Tryz.prog (w.alloc (.cells #[sv x.1, x.2.v, .bool x.2.l] 134)) = .ok v' w' ∧ FilL B w' v' (L ++ [x]) ∧
   (w.alloc (.cells #[sv x.1, x.2.v, .bool x.2.l] 134)).grownBy w' v.ownBlock := by
 obtain ⟨i0, hi0, hz0, hz1, hz2⟩ := info_parts Tryz.infoFile
 have h2 : (w.alloc (.cells #[sv x.1, x.2.v, .bool x.2.l] 134)).ownsRow B 134 3 v L.length (flat L) := h.kept (World.grownBy_alloc w _ none) (by
  cases hv : v.ownBlock
  ·exact Or.inl rfl
  ·exact Or.inr (by simp))
 have hc : CAt (w.alloc (.cells #[sv x.1, x.2.v, .bool x.2.l] 134)) w.heap.size #[sv x.1, x.2.v, .bool x.2.l] 134 := CAt.made w _ _
 obtain ⟨v', w', hr, h3, h4, _, h5⟩ := run_append_own_at (P := Tryz.prog) (w.alloc (.cells #[sv x.1, x.2.v, .bool x.2.l] 134)) B 75 75 134 i0 _ 3 48 Tryz.underlying75 hi0 hz0 hz1 hz2 rfl (by decide) v L.length (flat L) h2 ⟨w.heap.size, 0, none⟩ 1 1 [sv x.1, x.2.v, .bool x.2.l] rfl (fun j u hj => by
   rw [add_none, Nat.zero_add, hc.cell]
   have : j = 0 ∨ j = 1 ∨ j = 2 := by rcases j with _ | _ | _ | j <;> simp at hj ⊢
   rcases this with rfl | rfl | rfl <;> simpa using hj) (fil_one x hx) (by unfold maxLen; omega) (by omega) (by rw [size_al]; omega)
 refine ⟨v', w', hr, ?_, h4⟩
 unfold FilL; rw [flat_app]; simpa [flat] using h3
theorem FilL.below {B : Nat} {w w' : World} {v : Value} {L : List (Nm × Ent)} (h : FilL B w v L) (hb : Below w.heap.size w w') : FilL B w' v L := ownsRow_keep h fun b hb' => hb.block b (own_ge h b hb').2
theorem FilL.nil (B : Nat) (w : World) : FilL B w (.slice none 0 0) [] := World.ownsRow_nil _ _ _ _
theorem take_at (L : List (Nm × Ent)) {k : Nat} (h : k < L.length) : L.take (k + 1) = L.take k ++ [atL L k] := by
 rw [List.take_add_one, List.getElem?_eq_getElem h]; simp [atL, List.getD, h]
theorem atL_mem {L : List (Nm × Ent)} {k : Nat} (h : k < L.length) : atL L k ∈ L := by unfold atL; rw [getD_in _ _ _ h]; exact List.getElem_mem h
section
variable {w w' : World} {R : Nat → Prop} {q : Nat} {v : Value} {fu : Option Nat} {d : Pd} {L : List (Nm × Ent)} {f : Fs}
theorem RfC.slice (h : RfC w R q v fu d L) {x : Nm × Ent} (hx : x ∈ L) : ∃ po c, x.2.v = .slice po x.2.b.length c := own_form (h.by_ x hx)
theorem used_take {L : List (Nm × Ent)} {k : Nat} (h : k < L.length) : usedOf (gmap Ent.fi (L.take (k + 1))) = usedOf (gmap Ent.fi (L.take k)) + (atL L k).2.b.length := by
 rw [take_at L h]; simp [gmap, usedOf, Ent.fi]
theorem used_take_le (L : List (Nm × Ent)) (k : Nat) : usedOf (gmap Ent.fi (L.take k)) ≤ usedOf (gmap Ent.fi L) := by
 have : L = L.take k ++ L.drop k := (List.take_append_drop k L).symm
 have h2 : usedOf (gmap Ent.fi L) = usedOf (gmap Ent.fi (L.take k)) + usedOf (gmap Ent.fi (L.drop k)) := by
  have h3 : ∀ A B : List (Nm × Ent), usedOf (gmap Ent.fi (A ++ B)) = usedOf (gmap Ent.fi A) + usedOf (gmap Ent.fi B) := fun A B => by simp [gmap, usedOf]
  rw [← h3, List.take_append_drop]
 omega
set_option maxHeartbeats 400000 in
set_option maxRecDepth 100000 in
theorem rused_any (h : RfC w R q v fu d L) (hl : L.length < 1000000) (hu : usedOf d.F ≤ 1000000000000) :
  Calls Tryz.prog 45 #[ptr q] w fun e w' => e = .returned (.int .i64 (usedOf d.F : Int)) ∧ w' = w := by
 have c1 : w.cell? ⟨q, 1, none⟩ = some v := h.c.cell 1
 obtain ⟨po, c, rfl⟩ := h.form
 have HU : Hid (∀ k, usedOf (gmap Ent.fi (L.take k)) ≤ 1000000000000) := hid (fun k => Nat.le_trans (used_take_le L k) (by rw [← h.fs]; exact hu))
 have HE : Hid (usedOf (gmap Ent.fi L) = usedOf d.F) := hid (by rw [h.fs])
 have H := hid h
 clear h hu
 generalize usedOf d.F = u at *
 go_enter Tryz.func45, Tryz.ntmps45
 go_wp2
 go_loopw [3, 4] (fun v3 v wr => ∃ k : Nat, k ≤ L.length ∧ v = .int .i64 (k : Int) ∧ v3 = .int .i64 (usedOf (gmap Ent.fi (L.take k)) : Int) ∧ wr = w) (fun _ v _ => (L.length - intOf v).toNat)
 case atStart => exact ⟨0, by omega, rfl, rfl, rfl⟩
 case round =>
  obtain ⟨k, hk, rfl, rfl, hw⟩ := hrel
  subst hw
  by_cases hlt : k < L.length
  ·have hlt' : (k : Int) < (L.length : Int) := by omega
   obtain ⟨g, cc, hv, _, ck, _⟩ := H.out.at hlt
   obtain ⟨pb, cb, hb⟩ := H.out.slice (atL_mem hlt)
   rw [hb] at ck
   cases hv
   have hst := used_take hlt
   have hle := HU.out (k + 1)
   rw [hst] at hle
   have HST := hid hst
   clear hst
   generalize usedOf (gmap Ent.fi (L.take k)) = u1 at *
   generalize (atL L k).2.b.length = n1 at *
   go_wp2
   go_roundw
   case rel => exact ⟨k + 1, by omega, by go_num, by rw [HST.out]; go_num, by trivial⟩
   case measure => simp [intOf]; omega
  ·have hlt' : ¬ (k : Int) < (L.length : Int) := by omega
   have e : k = L.length := by omega
   subst e
   go_wp2
   go_ret
   exact ⟨by rw [HE.out]; rfl, rfl⟩
set_option maxHeartbeats 1000000 in
set_option maxRecDepth 100000 in
theorem without_any (h : RfC w R q v fu d L) (s : Nm) (hl : L.length < 1000000) :
  Calls Tryz.prog 123 #[ptr q, sv s] w fun e w' => ∃ v2, e = .returned v2 ∧ FilL w.heap.size w' v2 (gdel L s) ∧ Below w.heap.size w w' := by
 have hcq : ∀ W, Below w.heap.size w W → W.cell? ⟨q, 1, none⟩ = some v := fun W hb => (h.below hb).c.cell 1
 obtain ⟨po, c, rfl⟩ := h.form
 have HCQ := hid hcq
 have c1 := hcq w (Below.refl _ _)
 have H := hid h
 have HB := hid (fun x => sv_eq x s)
 have HL0 := hid (len_del L s)
 clear h hcq
 have HG : Hid (gdel (L.take L.length) s = gdel L s) := hid (by rw [List.take_length])
 unfold sv
 generalize hY : (⟨s.toArray⟩ : ByteArray) = Y at *
 clear hY
 go_enter Tryz.func123, Tryz.ntmps123
 go_wp2
 go_loopw [5, 6] (fun v5 v wr => ∃ k : Nat, k ≤ L.length ∧ v = .int .i64 (k : Int) ∧ FilL w.heap.size wr v5 (gdel (L.take k) s) ∧ Below w.heap.size w wr) (fun _ v _ => (L.length - intOf v).toNat)
 case atStart => exact ⟨0, by omega, rfl, FilL.nil _ _, Below.refl _ _⟩
 case round =>
  obtain ⟨k, hk, rfl, hF, hb⟩ := hrel
  obtain ⟨po5, c5, hv5⟩ := own_form hF
  subst hv5
  have HF := hid hF
  have HBE := hid hb
  have d1 := HCQ.out wr hb
  clear c1 hF hb
  by_cases hlt : k < L.length
  ·have hlt' : (k : Int) < (L.length : Int) := by omega
   obtain ⟨g, cc, hv, ck, ck1, ck2, _⟩ := (H.out.below HBE.out).at hlt
   obtain ⟨pb, cb, hb⟩ := H.out.slice (atL_mem hlt)
   have HPB := hid hb
   cases hv
   have hbq := HB.out (atL L k).1
   have HT := hid (take_at L hlt)
   by_cases he : (atL L k).1 = s
   ·have hxy := hbq.2 he
    have HD : Hid (gdel (L.take (k + 1)) s = gdel (L.take k) s) := hid (by rw [HT.out]; simp [gdel, he])
    unfold sv at ck
    rw [hxy] at ck
    clear hbq ck1 ck2 hb
    go_wp2
    go_roundw
    case rel => exact ⟨k + 1, by omega, by go_num, by rw [HD.out]; exact HF.out, HBE.out⟩
    case measure => simp [intOf]; omega
   ·have hxy : (⟨(atL L k).1.toArray⟩ : ByteArray) ≠ Y := fun e => he (hbq.1 e)
    have hx2 := ba_ne hxy
    have HD : Hid (gdel (L.take (k + 1)) s = gdel (L.take k) s ++ [atL L k]) := hid (by rw [HT.out]; simp [gdel, he])
    have HLN : Hid ((gdel (L.take k) s).length ≤ 1000000) := hid (by have := len_del (L.take k) s; rw [List.length_take] at this; omega)
    obtain ⟨v4, w4, hrun, hF4, hg4⟩ := HF.out.push (atL L k) ⟨_, _, _, hb⟩ HLN.out HBE.out.size
    have HRUN := hid hrun
    have HF4 := hid hF4
    have HG4 := hid hg4
    clear hbq hrun hF4 hg4 hb hxy
    generalize hX : atL L k = X at *
    obtain ⟨xn, xv, xb, xl⟩ := X
    simp only at ck ck1 ck2 HRUN HG4 HPB hx2
    have HX := hid hX
    clear hX
    unfold sv at ck HRUN HG4
    generalize (⟨xn.toArray⟩ : ByteArray) = XX at *
    go_wp2_with (at_builtin; refine wpList_append_run _ _ 75 rfl rfl _ _ v4 rfl rfl HRUN.out ?_)
    go_roundw
    case rel =>
     refine ⟨k + 1, by omega, by go_num, by rw [HD.out]; exact HF4.out, ?_⟩
     exact below_on_grown (below_on _ _ HBE.out ((Below.refl _ _).alloc (Nat.le_refl _) _)) HG4.out (fun b hb => (own_ge HF.out b hb).1)
    case measure => simp [intOf]; omega
  ·have hlt' : ¬ (k : Int) < (L.length : Int) := by omega
   have e : k = L.length := by omega
   subst e
   have HR : Hid (FilL w.heap.size wr (.slice po5 (gdel L s).length c5) (gdel L s)) := hid (by have := HF.out; rw [HG.out] at this; exact this)
   go_wp2
   go_ret
   exact ⟨_, rfl, HR.out, HBE.out⟩
end
end Go.Proofs.YtfogkegmdgbecaaGreatDoor
