/- The statements' acts; contracts of Pick and step. -/
import Derived.Test.YtfppmpfmafnfmaaDy
namespace Go.Proofs.Ytfppmpfmafnfmaa
open Go Go.RowKit

/-- An act, as it stands in memory. -/
structure AV where
  kind : Int
  which : Int
  at_ : Int
  A : Nm
  C : Nm
  pb : Option Addr
  cb : Nat
  bs : List Nat
  is_ : Bool
  mask : Int
  pk : Option Addr
  ck : Nat
  ks : List Bool
def AV.val (x : AV) : Array Value := #[.int .i64 x.kind, .int .i64 x.which, .int .i64 x.at_, sv x.A, sv x.C, .slice x.pb x.bs.length x.cb, .bool x.is_, .int .u8 x.mask, .slice x.pk x.ks.length x.ck]
structure AV.ok (w : World) (x : AV) : Prop where
  hA : x.A.length ≤ maxLen
  hC : x.C.length ≤ maxLen
  bB : BAt w x.pb x.bs
  b8 : ∀ y ∈ x.bs, y < 256
  bK : KAt w (fun _ => False) x.pk x.ks
  k1 : -9223372036854775808 ≤ x.kind ∧ x.kind ≤ 9223372036854775807
  k2 : -9223372036854775808 ≤ x.which ∧ x.which ≤ 9223372036854775807
  k3 : -9223372036854775808 ≤ x.at_ ∧ x.at_ ≤ 9223372036854775807
  k4 : 0 ≤ x.mask ∧ x.mask ≤ 255
theorem AV.ok.below {w w' : World} {x : AV} (h : x.ok w) (hb : Below w.heap.size w w') : x.ok w' :=
  { h with bB := h.bB.keepB hb, bK := h.bK.only (T := fun _ => False) ⟨hb.os, hb.tape, hb.output, hb.size, fun k hk _ => hb.block k hk⟩ (fun _ _ h => h) }
theorem KAt.under {w : World} {S : Nat → Prop} {po : Option Addr} {ks : List Bool} (h : KAt w (fun _ => False) po ks) {B : Nat} (hB : ∀ b o i, po = some ⟨b, o, none⟩ → i < ks.length → b < B) (hS : ∀ b, S b → B ≤ b) : KAt w S po ks := by
  rcases h with h | ⟨b, o, rfl, _, h⟩
  · exact Or.inl h
  · by_cases h0 : ks = []
    · exact Or.inl h0
    · refine Or.inr ⟨b, o, rfl, fun hs => ?_, h⟩
      have h1 := hB b o 0 rfl (by cases ks; exact absurd rfl h0; simp)
      have := hS b hs; omega
def pkN (x : Int) (n : Nat) : Nat := if x.tmod n < 0 then (x.tmod n + n).toNat else (x.tmod n).toNat
theorem tmod_lo (x : Int) (n : Nat) (h : 1 ≤ n) : -(n : Int) < x.tmod n := by
  have := Int.tmod_lt_of_pos (-x) (b := (n : Int)) (by omega)
  rw [Int.neg_tmod] at this; omega
theorem pkN_lt (x : Int) (n : Nat) (h : 1 ≤ n) : pkN x n < n := by
  have b1 := Int.tmod_lt_of_pos x (b := (n : Int)) (by omega)
  have b2 := tmod_lo x n h
  unfold pkN; split <;> omega
theorem pick_any (x : Int) (n : Nat) (w : World) (h1 : 1 ≤ n) (hn : n ≤ 100000) :
    Calls Try.prog 11 #[.int .i64 x, .int .i64 (n : Int)] w fun e w' => e = .returned (.int .i64 (pkN x n : Int)) ∧ w' = w := by
  have b1 := Int.tmod_lt_of_pos x (b := (n : Int)) (by omega)
  have b2 := tmod_lo x n h1
  have hn1 : ¬ (n : Int) < 1 := by omega
  have hn0 : ¬ (n : Int) = 0 := by omega
  by_cases hneg : x.tmod n < 0
  · have e : ((pkN x n : Nat) : Int) = x.tmod n + n := by unfold pkN; rw [if_pos hneg]; omega
    have HE := hid e
    clear e
    go_enter Try.func11, Try.ntmps11
    go_wp2
    go_ret
    exact ⟨by rw [HE.out]; rfl, rfl⟩
  · have e : ((pkN x n : Nat) : Int) = x.tmod n := by unfold pkN; rw [if_neg hneg]; omega
    have HE := hid e
    clear e
    go_enter Try.func11, Try.ntmps11
    go_wp2
    go_ret
    exact ⟨by rw [HE.out]; rfl, rfl⟩
def Pd.step (d : Pd) (f : Fs) (x : AV) : Nat × Pd × Fs :=
  match pkN x.kind 4 with
  | 0 => d.write f x.A x.bs
  | 1 => d.sync f x.A
  | 2 => d.rename f x.A x.C
  | _ => d.delete f x.A
section
variable {w : World} {S : Nat → Prop} {p m : Nat} {fu : Option Nat} {d : Pd} {L : List (Nm × Ent)}
theorem Done.from1 {o : Obj} {w' : World} {r : Nat × Pd × Fs} {e : Ending} (h : Done (w.alloc o) S p fu r e w') : Done w S p fu r e w' := Done.from ((Below.refl _ _).alloc (Nat.le_refl _) _) h
set_option maxRecDepth 100000 in
theorem step_any (h : DrC w S p m fu d L) {f : Fs} (hf : FuAt w S fu f) (x : AV) (hx : x.ok w) (hn : x.bs.length ≤ 140737488355328) (ho : d.ops < 1000000000000) (hl : d.F.length < 1000000000000) :
    Calls Try.prog 35 #[ptr p, .agg x.val] w (Done w S p fu (d.step f x)) := by
  have H := hid h
  have HF := hid hf
  have HX := hid hx
  have HP := hid (fun W => pick_any x.kind 4 W (by omega) (by omega))
  have h4 := pkN_lt x.kind 4 (by omega)
  have HST : Hid (d.step f x = match pkN x.kind 4 with | 0 => d.write f x.A x.bs | 1 => d.sync f x.A | 2 => d.rename f x.A x.C | _ => d.delete f x.A) := hid rfl
  unfold AV.val
  clear h hf hx
  generalize hk : pkN x.kind 4 = k at *
  clear hk
  have : k = 0 ∨ k = 1 ∨ k = 2 ∨ k = 3 := by omega
  rcases this with rfl | rfl | rfl | rfl
  · go_enter Try.func35, Try.ntmps35
    go_wp2_with (first
      | (go_at_call 11; refine (HP.out _).mono ?_; rintro e w' ⟨rfl, hw'⟩; have hw2 := hw'.symm; subst hw2)
      | (go_at_call 23; refine (write_any (H.out.alloc _) (HF.out.alloc _) x.A HX.out.hA x.pb x.cb x.bs HX.out.b8 (HX.out.bB.keepB ((Below.refl _ _).alloc (Nat.le_refl _) _)) hn ho hl).mono ?_; rintro e2 w2 hD; obtain ⟨rfl, hR⟩ := Done.from1 hD; have HR := hid hR; clear hD hR))
    go_ret
    rw [HST.out]
    exact ⟨rfl, HR.out⟩
  · go_enter Try.func35, Try.ntmps35
    go_wp2_with (first
      | (go_at_call 11; refine (HP.out _).mono ?_; rintro e w' ⟨rfl, hw'⟩; have hw2 := hw'.symm; subst hw2)
      | (go_at_call 24; refine (sync_any (H.out.alloc _) (HF.out.alloc _) x.A HX.out.hA ho hl).mono ?_; rintro e2 w2 hD; obtain ⟨rfl, hR⟩ := Done.from1 hD; have HR := hid hR; clear hD hR))
    go_ret
    rw [HST.out]
    exact ⟨rfl, HR.out⟩
  · go_enter Try.func35, Try.ntmps35
    go_wp2_with (first
      | (go_at_call 11; refine (HP.out _).mono ?_; rintro e w' ⟨rfl, hw'⟩; have hw2 := hw'.symm; subst hw2)
      | (go_at_call 25; refine (rename_any (H.out.alloc _) (HF.out.alloc _) x.A x.C HX.out.hA HX.out.hC ho hl).mono ?_; rintro e2 w2 hD; obtain ⟨rfl, hR⟩ := Done.from1 hD; have HR := hid hR; clear hD hR))
    go_ret
    rw [HST.out]
    exact ⟨rfl, HR.out⟩
  · go_enter Try.func35, Try.ntmps35
    go_wp2_with (first
      | (go_at_call 11; refine (HP.out _).mono ?_; rintro e w' ⟨rfl, hw'⟩; have hw2 := hw'.symm; subst hw2)
      | (go_at_call 26; refine (delete_any (H.out.alloc _) (HF.out.alloc _) x.A HX.out.hA ho).mono ?_; rintro e2 w2 hD; obtain ⟨rfl, hR⟩ := Done.from1 hD; have HR := hid hR; clear hD hR))
    go_ret
    rw [HST.out]
    exact ⟨rfl, HR.out⟩
end
#print axioms step_any
end Go.Proofs.Ytfppmpfmafnfmaa
