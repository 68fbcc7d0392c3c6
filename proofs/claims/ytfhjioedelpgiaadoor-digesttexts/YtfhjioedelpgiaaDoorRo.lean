/- What is carried through the walk of DigestTexts. -/
import Derived.Test.YtfhjioedelpgiaaDoorRk
import Derived.Test.YtfhjioedelpgiaaDoorRm
import Derived.Test.YtfhjioedelpgiaaDoorRn
import Derived.Test.YtfhjioedelpgiaaDoorSw
import Derived.Test.YtfhjioedelpgiaaDoorQm
namespace Go.Proofs.YtfhjioedelpgiaaDoor
open Go Go.RowKit
/-- What was handed in and what was lent, and the digests that were put into variables. -/
structure TM (w wr : World) (p q pv : Option Addr) (n m cv gt B : Nat) (A : Nat → Option Addr) (L C G : Nat → Nat) (X : Nat → Nat → Nat) (S : Nat → ByteArray) (l : List (Nat × Array Value)) : Prop where
  ls : LsAt wr p n A L C X
  tx : TxtAt wr q m S
  ll : LL B wr (.slice pv n cv) n G L X
  lt : TxtAt wr (some ⟨gt, 0, none⟩) (m + 3) (lentS m S)
  dg : ∀ gc ∈ l, CAt wr gc.1 gc.2 24
  be : Below w.heap.size w wr
theorem TM.on {w wr w' : World} {p q pv : Option Addr} {n m cv gt B : Nat} {A : Nat → Option Addr} {L C G : Nat → Nat} {X : Nat → Nat → Nat} {S : Nat → ByteArray} {l : List (Nat × Array Value)} (h : TM w wr p q pv n m cv gt B A L C G X S l) (hb : Below wr.heap.size wr w') : TM w w' p q pv n m cv gt B A L C G X S l :=
  ⟨h.ls.below hb, h.tx.below hb, h.ll.below hb, h.lt.below hb, fun gc hg => (h.dg gc hg).below hb (h.dg gc hg).lt, h.be.trans (hb.mono h.be.size)⟩
theorem TM.put {w wr : World} {p q pv : Option Addr} {n m cv gt B : Nat} {A : Nat → Option Addr} {L C G : Nat → Nat} {X : Nat → Nat → Nat} {S : Nat → ByteArray} {l : List (Nat × Array Value)} (h : TM w wr p q pv n m cv gt B A L C G X S l) (cs : Array Value) :
    TM w ((wr.alloc (.cells (aB 32 zB) 24)).setRow wr.heap.size cs) p q pv n m cv gt B A L C G X S ((wr.heap.size, cs) :: l) := by
  have hb : Below wr.heap.size wr ((wr.alloc (.cells (aB 32 zB) 24)).setRow wr.heap.size cs) := below_setRow ((Below.refl _ _).alloc (Nat.le_refl _) _) (Nat.le_refl _) _
  have h2 := h.on hb
  refine ⟨h2.ls, h2.tx, h2.ll, h2.lt, fun gc hg => ?_, h2.be⟩
  rcases List.mem_cons.1 hg with rfl | hg
  · exact (CAt.new _ _ _).row _
  · exact h2.dg gc hg
theorem TM.tm {w wr : World} {p q pv : Option Addr} {n m cv gt B : Nat} {A : Nat → Option Addr} {L C G : Nat → Nat} {X : Nat → Nat → Nat} {S : Nat → ByteArray} {l : List (Nat × Array Value)} (h : TM w wr p q pv n m cv gt B A L C G X S l) : TxtAt wr (some ⟨gt, 0, none⟩) m S := by
  rcases h.lt with e | ⟨b, o, e, hr⟩
  · omega
  · refine .inr ⟨b, o, e, fun i hi => ?_⟩
    rw [hr i (by omega)]; unfold lentS; rw [if_pos hi]
theorem TM.lent {w wr : World} {p q pv : Option Addr} {n m cv gt B : Nat} {A : Nat → Option Addr} {L C G : Nat → Nat} {X : Nat → Nat → Nat} {S : Nat → ByteArray} {l : List (Nat × Array Value)} (h : TM w wr p q pv n m cv gt B A L C G X S l) : LsAt wr pv n (fun i => some ⟨G i, 0, none⟩) L (fun i => L i + 3) X := by
  obtain ⟨p', c', e, hs⟩ := h.ll.slice fun i hi => (h.ls.at i hi).elim fun _ q => q.elim fun _ q => q.2.2.2.2.2
  cases e; exact hs
theorem hexQ {C : World → Prop} (hon : ∀ w w', C w → Below w.heap.size w w' → C w') (x : Nat → Nat) (hx : ∀ i, i < 32 → x i < 256) (h : ByteArray) (hh : h = strN 64 (hexF x)) (t : WC C) :
    Calls Tryd.prog 14 #[.agg (aB 32 x)] t.w fun e w' => e = .returned (.string h) ∧ ∃ t' : WC C, w' = t'.w := by
  rw [hh]
  exact (hex_any x hx t.w).mono fun _ w' ⟨h1, h2⟩ => ⟨h1, ⟨w', hon _ _ t.ok h2⟩, rfl⟩
theorem rhexQ {C : World → Prop} (hon : ∀ w w', C w → Below w.heap.size w w' → C w') (x : Nat → Nat) (hx : ∀ i, i < 32 → x i < 256) (h : ByteArray) (hh : h = strN 64 (hexF x)) (t : WC C) :
    Calls Tryd.prog 15 #[.agg (aB 32 x)] t.w fun e w' => e = .returned (.string h) ∧ ∃ t' : WC C, w' = t'.w := by
  rw [hh]
  exact (rhex_any x hx t.w).mono fun _ w' ⟨h1, h2⟩ => ⟨h1, ⟨w', hon _ _ t.ok h2⟩, rfl⟩
end Go.Proofs.YtfhjioedelpgiaaDoor
