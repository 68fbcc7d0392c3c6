/- Texts laid into one, cut to what is needed: the remark ahead of each part says what is proved there. -/
import Derived.Test.YtopibkoklagceaaGreatQal
import Derived.Test.YtopibkoklagceaaGreatQah
import Derived.Deep.Cut
import Derived.Test.YtopibkoklagceaaGreatQag
/- same of the statements on shard: two lists of copies with the same content (as stage 9's). -/
namespace Go.Proofs.YtopibkoklagceaaGreat
open Go Go.RowKit

set_option maxRecDepth 100000 in
set_option maxHeartbeats 4000000 in
theorem same11_any (u v : Value) (l m : List Cv) (w : World) (hl : CL w u l) (hm : CL w v m) (he : cps l = cps m) : Calls Tryz.prog 25 #[u, v] w fun e w' => e = .returned (.bool true) ∧ Below w.heap.size w w' := by
 have HL := hid hl
 have HM := hid hm
 have HE := hid he
 obtain ⟨po, c, rfl, -, hn, -⟩ := hl
 obtain ⟨qo, d, rfl, -⟩ := hm
 have hlen : m.length = l.length := by have := congrArg List.length he; rw [cps_len, cps_len] at this; exact this.symm
 obtain ⟨n, hN⟩ : ∃ n, l.length = n := ⟨_, rfl⟩
 have HN := hid hN
 have HN2 : Hid (m.length = n) := hid (hlen.trans hN)
 rw [hlen, hN] at HM ⊢
 rw [hN] at hn HL
 have hnn : ((n : Int) != (n : Int)) = false := by simp
 clear hN hlen he
 go_enter Tryz.func25, Tryz.ntmps25
 go_wp2
 go_loopg [5] n (fun gg s5 wr => ∃ kk : Nat, kk ≤ n ∧ n - kk ≤ gg ∧ s5 = i64 kk ∧ Hid (Below w.heap.size w wr))
 case atStart => exact ⟨0, Nat.zero_le _, by omega, rfl, hid (Below.refl _ _)⟩
 case round =>
  obtain ⟨kk, hkk, hg, rfl, BW⟩ := hrel
  by_cases hlt : kk < n
  ·have hltz : (kk : Int) < (n : Int) := by omega
   obtain ⟨x, hx⟩ : ∃ x, l[kk]? = some x := ⟨_, List.getElem?_eq_getElem (by have := HN.out; omega)⟩
   obtain ⟨y, hy⟩ : ∃ y, m[kk]? = some y := ⟨_, List.getElem?_eq_getElem (by have := HN2.out; omega)⟩
   have hxy : x.cp = y.cp := by have := congrArg (fun q => q[kk]?) HE.out; simp only [cps_get, hx, hy] at this; exact Option.some.inj this
   obtain ⟨b, o, c', e, -⟩ := HL.out.where hx
   rw [HN.out] at e
   cases e
   obtain ⟨b2, o2, d', e, -⟩ := HM.out.where hy
   rw [HN2.out] at e
   cases e
   obtain ⟨-, -, hok⟩ := HL.out.at BW.out hx
   obtain ⟨-, -, hok2⟩ := HM.out.at BW.out hy
   obtain ⟨p1, c1, hxv, -⟩ := hok.sl
   obtain ⟨p2, c2, hyv, -⟩ := hok2.sl
   obtain ⟨m1, hm1⟩ : ∃ m, x.bs.length = m := ⟨_, rfl⟩
   obtain ⟨m2, hm2⟩ : ∃ m, y.bs.length = m := ⟨_, rfl⟩
   rw [hm1] at hxv
   rw [hm2] at hyv
   obtain ⟨E, hEE⟩ : ∃ E, x.err = E := ⟨_, rfl⟩
   have hE2 : y.err = E := by rw [← hEE]; exact (congrArg Cp.err hxy).symm
   have hbs : x.bs = y.bs := congrArg Cp.b hxy
   have HSF : Hid (∀ W, Below w.heap.size w W → (fun W => W.cell? ⟨b, o + kk * 2, none⟩ = some (i64 E) ∧ W.cell? ⟨b, o + kk * 2 + 1, none⟩ = some (.slice p1 m1 c1) ∧ W.cell? ⟨b2, o2 + kk * 2, none⟩ = some (i64 E) ∧ W.cell? ⟨b2, o2 + kk * 2 + 1, none⟩ = some (.slice p2 m2 c2)) W) := hid (fun W hW => by
    obtain ⟨h1, h2, -⟩ := HL.out.at hW hx
    obtain ⟨h3, h4, -⟩ := HM.out.at hW hy
    rw [hxv] at h2
    rw [hyv] at h4
    rw [hEE] at h1
    rw [hE2] at h3
    exact ⟨h1, h2, h3, h4⟩)
   have HSB : Hid (∀ W, Below w.heap.size w W → Calls Tryz.prog 23 #[.slice p1 m1 c1, .slice p2 m2 c2] W fun e w' => e = .returned (.bool true) ∧ w' = W) := hid (fun W hW => by
    have h1 := (HL.out.at hW hx).2.2
    have h2 := (HM.out.at hW hy).2.2
    have := sameB_any h1.slv h2.slv h1.byte h2.byte
    rw [decide_eq_true hbs, hxv, hyv] at this
    exact this)
   have hzE : (E != E) = false := by simp
   clear hok hok2 hxv hyv hm1 hm2 hx hy hxy hEE hE2 hbs
   go_wp2_with fail
   have HD := hid (below_drew wr)
   refine wp_region_held_drew (S := (fun W => W.cell? ⟨b, o + kk * 2, none⟩ = some (i64 E) ∧ W.cell? ⟨b, o + kk * 2 + 1, none⟩ = some (.slice p1 m1 c1) ∧ W.cell? ⟨b2, o2 + kk * 2, none⟩ = some (i64 E) ∧ W.cell? ⟨b2, o2 + kk * 2 + 1, none⟩ = some (.slice p2 m2 c2))) (by kernel_rfl) (HSF.out _ (below_on BW.out HD.out)) (fun hHeld => ?_)
   replace BW := hid (below_on BW.out HD.out)
   generalize wr.drew = wd at BW hHeld ⊢
   refine wpAnyH_take (i := 0) (oi := ⟨some 17, .move (.tmp 0), _, _, _, none⟩) (v := .slice (some ⟨b, o, none⟩) n c) rfl (by kernel_rfl) (by kernel_rfl) (by kernel_rfl) (fun _ _ _ h => h) (Or.inl ⟨by kernel_rfl, by intro W hW; obtain ⟨q0, q1, q2, q3⟩ := hW; go_simp⟩) hHeld ?_
   refine wpAnyH_take (i := 1) (oi := ⟨some 18, .move (.tmp 5), _, _, _, none⟩) (v := i64 kk) rfl (by kernel_rfl) (by kernel_rfl) (by kernel_rfl) (fun _ _ _ h => h) (Or.inl ⟨by kernel_rfl, by intro W hW; obtain ⟨q0, q1, q2, q3⟩ := hW; go_simp⟩) hHeld ?_
   refine wpAnyH_take (i := 2) (oi := ⟨some 19, .indexAddr 35 (.tmp 17) (.tmp 18), _, _, _, none⟩) (v := .pointer (some ⟨b, o + kk * 2, none⟩)) rfl (by kernel_rfl) (by kernel_rfl) (by kernel_rfl) (fun _ _ _ h => h) (Or.inl ⟨by kernel_rfl, by intro W hW; obtain ⟨q0, q1, q2, q3⟩ := hW; go_simp⟩) hHeld ?_
   refine wpAnyH_take (i := 3) (oi := ⟨some 20, .fieldAddr 59 (.tmp 19) 0, _, _, _, none⟩) (v := .pointer (some ⟨b, o + kk * 2, none⟩)) rfl (by kernel_rfl) (by kernel_rfl) (by kernel_rfl) (fun _ _ _ h => h) (Or.inl ⟨by kernel_rfl, by intro W hW; obtain ⟨q0, q1, q2, q3⟩ := hW; go_simp⟩) hHeld ?_
   refine wpAnyH_take (i := 4) (oi := ⟨some 21, .load 25 (.tmp 20), _, _, _, none⟩) (v := i64 E) rfl (by kernel_rfl) (by kernel_rfl) (by kernel_rfl) (fun _ _ _ h => h) (Or.inl ⟨by kernel_rfl, by intro W hW; obtain ⟨q0, q1, q2, q3⟩ := hW; go_simp⟩) hHeld ?_
   refine wpAnyH_take (i := 5) (oi := ⟨some 22, .move (.tmp 1), _, _, _, none⟩) (v := .slice (some ⟨b2, o2, none⟩) n d) rfl (by kernel_rfl) (by kernel_rfl) (by kernel_rfl) (fun _ _ _ h => h) (Or.inl ⟨by kernel_rfl, by intro W hW; obtain ⟨q0, q1, q2, q3⟩ := hW; go_simp⟩) hHeld ?_
   refine wpAnyH_take (i := 6) (oi := ⟨some 23, .move (.tmp 5), _, _, _, none⟩) (v := i64 kk) rfl (by kernel_rfl) (by kernel_rfl) (by kernel_rfl) (fun _ _ _ h => h) (Or.inl ⟨by kernel_rfl, by intro W hW; obtain ⟨q0, q1, q2, q3⟩ := hW; go_simp⟩) hHeld ?_
   refine wpAnyH_take (i := 7) (oi := ⟨some 24, .indexAddr 35 (.tmp 22) (.tmp 23), _, _, _, none⟩) (v := .pointer (some ⟨b2, o2 + kk * 2, none⟩)) rfl (by kernel_rfl) (by kernel_rfl) (by kernel_rfl) (fun _ _ _ h => h) (Or.inl ⟨by kernel_rfl, by intro W hW; obtain ⟨q0, q1, q2, q3⟩ := hW; go_simp⟩) hHeld ?_
   refine wpAnyH_take (i := 8) (oi := ⟨some 25, .fieldAddr 59 (.tmp 24) 0, _, _, _, none⟩) (v := .pointer (some ⟨b2, o2 + kk * 2, none⟩)) rfl (by kernel_rfl) (by kernel_rfl) (by kernel_rfl) (fun _ _ _ h => h) (Or.inl ⟨by kernel_rfl, by intro W hW; obtain ⟨q0, q1, q2, q3⟩ := hW; go_simp⟩) hHeld ?_
   refine wpAnyH_take (i := 9) (oi := ⟨some 26, .load 25 (.tmp 25), _, _, _, none⟩) (v := i64 E) rfl (by kernel_rfl) (by kernel_rfl) (by kernel_rfl) (fun _ _ _ h => h) (Or.inl ⟨by kernel_rfl, by intro W hW; obtain ⟨q0, q1, q2, q3⟩ := hW; go_simp⟩) hHeld ?_
   refine wpAnyH_take (i := 10) (oi := ⟨some 27, .binOp .neq 25 (.tmp 21) (.tmp 26) 25, _, _, _, none⟩) (v := .bool false) rfl (by kernel_rfl) (by kernel_rfl) (by kernel_rfl) (fun _ _ _ h => h) (Or.inl ⟨by kernel_rfl, by intro W hW; obtain ⟨q0, q1, q2, q3⟩ := hW; go_simp⟩) hHeld ?_
   refine wpAnyH_take (i := 11) (oi := ⟨some 28, .move (.tmp 27), _, _, _, none⟩) (v := .bool false) rfl (by kernel_rfl) (by kernel_rfl) (by kernel_rfl) (fun _ _ _ h => h) (Or.inl ⟨by kernel_rfl, by intro W hW; obtain ⟨q0, q1, q2, q3⟩ := hW; go_simp⟩) hHeld ?_
   refine wpAnyH_take (i := 12) (oi := ⟨some 29, .move (.tmp 0), _, _, _, some (11, false)⟩) (v := .slice (some ⟨b, o, none⟩) n c) rfl (by kernel_rfl) (by kernel_rfl) (by kernel_rfl) (fun _ _ _ h => h) (Or.inl ⟨by kernel_rfl, by intro W hW; obtain ⟨q0, q1, q2, q3⟩ := hW; go_simp⟩) hHeld ?_
   refine wpAnyH_take (i := 13) (oi := ⟨some 30, .move (.tmp 5), _, _, _, some (11, false)⟩) (v := i64 kk) rfl (by kernel_rfl) (by kernel_rfl) (by kernel_rfl) (fun _ _ _ h => h) (Or.inl ⟨by kernel_rfl, by intro W hW; obtain ⟨q0, q1, q2, q3⟩ := hW; go_simp⟩) hHeld ?_
   refine wpAnyH_take (i := 14) (oi := ⟨some 31, .indexAddr 35 (.tmp 29) (.tmp 30), _, _, _, some (11, false)⟩) (v := .pointer (some ⟨b, o + kk * 2, none⟩)) rfl (by kernel_rfl) (by kernel_rfl) (by kernel_rfl) (fun _ _ _ h => h) (Or.inl ⟨by kernel_rfl, by intro W hW; obtain ⟨q0, q1, q2, q3⟩ := hW; go_simp⟩) hHeld ?_
   refine wpAnyH_take (i := 15) (oi := ⟨some 32, .fieldAddr 59 (.tmp 31) 1, _, _, _, some (11, false)⟩) (v := .pointer (some ⟨b, o + kk * 2 + 1, none⟩)) rfl (by kernel_rfl) (by kernel_rfl) (by kernel_rfl) (fun _ _ _ h => h) (Or.inl ⟨by kernel_rfl, by intro W hW; obtain ⟨q0, q1, q2, q3⟩ := hW; go_simp⟩) hHeld ?_
   refine wpAnyH_take (i := 16) (oi := ⟨some 33, .load 22 (.tmp 32), _, _, _, some (11, false)⟩) (v := .slice p1 m1 c1) rfl (by kernel_rfl) (by kernel_rfl) (by kernel_rfl) (fun _ _ _ h => h) (Or.inl ⟨by kernel_rfl, by intro W hW; obtain ⟨q0, q1, q2, q3⟩ := hW; go_simp⟩) hHeld ?_
   refine wpAnyH_take (i := 17) (oi := ⟨some 34, .move (.tmp 1), _, _, _, some (11, false)⟩) (v := .slice (some ⟨b2, o2, none⟩) n d) rfl (by kernel_rfl) (by kernel_rfl) (by kernel_rfl) (fun _ _ _ h => h) (Or.inl ⟨by kernel_rfl, by intro W hW; obtain ⟨q0, q1, q2, q3⟩ := hW; go_simp⟩) hHeld ?_
   refine wpAnyH_take (i := 18) (oi := ⟨some 35, .move (.tmp 5), _, _, _, some (11, false)⟩) (v := i64 kk) rfl (by kernel_rfl) (by kernel_rfl) (by kernel_rfl) (fun _ _ _ h => h) (Or.inl ⟨by kernel_rfl, by intro W hW; obtain ⟨q0, q1, q2, q3⟩ := hW; go_simp⟩) hHeld ?_
   refine wpAnyH_take (i := 19) (oi := ⟨some 36, .indexAddr 35 (.tmp 34) (.tmp 35), _, _, _, some (11, false)⟩) (v := .pointer (some ⟨b2, o2 + kk * 2, none⟩)) rfl (by kernel_rfl) (by kernel_rfl) (by kernel_rfl) (fun _ _ _ h => h) (Or.inl ⟨by kernel_rfl, by intro W hW; obtain ⟨q0, q1, q2, q3⟩ := hW; go_simp⟩) hHeld ?_
   refine wpAnyH_take (i := 20) (oi := ⟨some 37, .fieldAddr 59 (.tmp 36) 1, _, _, _, some (11, false)⟩) (v := .pointer (some ⟨b2, o2 + kk * 2 + 1, none⟩)) rfl (by kernel_rfl) (by kernel_rfl) (by kernel_rfl) (fun _ _ _ h => h) (Or.inl ⟨by kernel_rfl, by intro W hW; obtain ⟨q0, q1, q2, q3⟩ := hW; go_simp⟩) hHeld ?_
   refine wpAnyH_take (i := 21) (oi := ⟨some 38, .load 22 (.tmp 37), _, _, _, some (11, false)⟩) (v := .slice p2 m2 c2) rfl (by kernel_rfl) (by kernel_rfl) (by kernel_rfl) (fun _ _ _ h => h) (Or.inl ⟨by kernel_rfl, by intro W hW; obtain ⟨q0, q1, q2, q3⟩ := hW; go_simp⟩) hHeld ?_
   refine wpAnyH_ready (rs := [22]) (by kernel_rfl) (by simp) ?_
   refine AllReadyH.cons rfl (fun K hK => ?_) AllReadyH.nil
   go_simp
   refine (HSB.out _ BW.out).mono ?_
   rintro e w4 ⟨rfl, hw⟩
   have hw4 := hw.symm
   subst hw4
   go_wp2_with fail
   refine hK.out _ _ (HSF.out _ BW.out) (fun hHeld => ?_)
   clear hK K
   refine wpAnyH_take (i := 23) (oi := ⟨some 40, .unOp .not 4 (.tmp 39), _, _, _, some (11, false)⟩) (v := .bool false) rfl (by kernel_rfl) (by kernel_rfl) (by kernel_rfl) (fun _ _ _ h => h) (Or.inl ⟨by kernel_rfl, by intro W hW; obtain ⟨q0, q1, q2, q3⟩ := hW; go_simp⟩) hHeld ?_
   refine wpAnyH_take (i := 24) (oi := ⟨some 41, .pick (.tmp 28) (.const (.bool true)) (.tmp 40), _, _, _, none⟩) (v := .bool false) rfl (by kernel_rfl) (by kernel_rfl) (by kernel_rfl) (fun _ _ _ h => h) (Or.inl ⟨by kernel_rfl, by intro W hW; obtain ⟨q0, q1, q2, q3⟩ := hW; go_simp⟩) hHeld ?_
   refine wpAnyH_done (by kernel_rfl) ?_ _
   (try simp only [Act.put, List.setIfInBounds_toArray, List.set_cons_zero, List.set_cons_succ])
   clear hHeld
   go_wp2
   go_roundg (n - (kk + 1))
   case measure => omega
   case rel => exact ⟨kk + 1, by omega, by omega, by go_num, BW⟩
  ·have hltz : ¬ (kk : Int) < (n : Int) := by omega
   go_wp2
   go_ret
   exact ⟨rfl, BW.out⟩
end Go.Proofs.YtopibkoklagceaaGreat

/- Contract of Copy, the document's. -/
namespace Go.Proofs.YtopibkoklagceaaGreat
open Go Go.RowKit

theorem PBuf.made0 (w : World) (B : Nat) (hB : B ≤ w.heap.size) : PBuf B (w.alloc (.cells #[] 69)) (.slice (some ⟨w.heap.size, 0, none⟩) 0 0) [] := World.ownsRow_made w #[] 0 hB (by unfold maxLen; omega) (by simp)
end Go.Proofs.YtopibkoklagceaaGreat

/- The document's numbers: rows of ints, and what is read. -/
namespace Go.Proofs.YtopibkoklagceaaGreat
open Go Go.RowKit

/-- So many numbers from the front. -/
def rdN : Nat → List Nat → Option (List Nat × List Nat)
 | 0, b => some ([], b)
 | n + 1, b => (rdU b).bind fun q => (rdN n q.2).map fun r => (q.1 :: r.1, r.2)
def pairs : List Nat → Ps
 | a :: b :: r => ((a : Int), (b : Int)) :: pairs r
 | _ => []
/-- What is read so far, and what then. -/
def NAcc (n : Nat) (c : List Nat) (k : Nat) (xs : List Nat) (d : List Nat) : Prop := xs.length = k ∧ rdN n c = (rdN (n - k) d).map fun q => (xs ++ q.1, q.2)
theorem NAcc.start (n : Nat) (c : List Nat) : NAcc n c 0 [] c := ⟨rfl, by simp⟩
/-- Ints in a row of their own. -/
def IBuf (B : Nat) (w : World) (v : Value) (xs : List Nat) : Prop := w.ownsRow B 3 1 v xs.length (xs.map fun n : Nat => i64 n)
theorem IBuf.nil (B : Nat) (w : World) : IBuf B w (.slice none 0 0) [] := World.ownsRow_nil w B 3 1
theorem IBuf.keep {B : Nat} {w w' : World} {v : Value} {xs : List Nat} (h : IBuf B w v xs) (hk : ∀ b, v.ownBlock = some b → w'.heap[b]? = w.heap[b]?) : IBuf B w' v xs := ownsRow_keep h hk
theorem IBuf.below {B : Nat} {w w' : World} {v : Value} {xs : List Nat} (h : IBuf B w v xs) (hb : Below w.heap.size w w') : IBuf B w' v xs := h.keep fun b e => hb.block b (own_ge h b e).2
end Go.Proofs.YtopibkoklagceaaGreat

/- The document's ReadUint, and where the rest lies. -/
namespace Go.Proofs.YtopibkoklagceaaGreat
open Go Go.RowKit

/-- Bytes in the block that p leads to. -/
def SLn (p : Option Addr) (w : World) (v : Value) (r : List Nat) : Prop := SL w v r ∧ ∀ a n c, v = .slice (some a) n c → ∃ a', p = some a' ∧ a.block = a'.block
theorem SLn.below {p : Option Addr} {w w' : World} {v : Value} {r : List Nat} (h : SLn p w v r) (hb : Below w.heap.size w w') : SLn p w' v r := ⟨h.1.below hb, h.2⟩
/- behind rReadUint_near -/
end Go.Proofs.YtopibkoklagceaaGreat

/- The document's numbers. -/
namespace Go.Proofs.YtopibkoklagceaaGreat
open Go Go.RowKit

theorem SLn.far {po : Option Addr} {w w' : World} {v : Value} {d : List Nat} {S : Nat → Prop} {B : Nat} (h : SLn po w v d) (hP : d ≠ [] → ∀ a, po = some a → a.block < B) (ho : Only S w w') (hS : ∀ i, S i → B ≤ i) : SLn po w' v d := by
 obtain ⟨⟨p, c, rfl, hb, hc⟩, hn⟩ := h
 refine ⟨⟨p, c, rfl, hb.onlyAt ho (fun hne a ha e => ?_), hc⟩, hn⟩
 obtain ⟨a', h1, h2⟩ := hn a _ _ (by rw [ha])
 have := hP hne a' h1
 have := hS _ e
 omega
end Go.Proofs.YtopibkoklagceaaGreat

/- Contract of the document's Bytes. -/
namespace Go.Proofs.YtopibkoklagceaaGreat
open Go Go.RowKit

/-- A record's box, and bytes of one's own made behind it. -/
structure BS (w : World) (g : Nat) (r : Rv) (L : List Nat) (v : Value) (W : World) : Prop where
 ok : r.ok
 hg : w.heap.size ≤ g
 box : RBox W g r
 buf : Buf (g + 1) W v L
 below : Below w.heap.size w W
section
variable {w W W1 : World} {g : Nat} {r : Rv} {L x : List Nat} {v v2 : Value}
theorem BS.on (h : BS w g r L v W) (hb : Below W.heap.size W W1) : BS w g r L v W1 := ⟨h.ok, h.hg, h.box.below h.ok hb, h.buf.below hb, below_on h.below hb⟩
theorem BS.app (h : BS w g r L v W) (po : Option Addr) (c : Nat) (hx : BL W po x) (hc : po = none → c = 0) (hn : L.length + x.length ≤ 2000000) :
  ∃ v3 W3, (Builtin.append_ #[22, 22] 22 #[v, .slice po x.length c]).run Tryz.prog W = .ok v3 W3 ∧ BS w g r (L ++ x) v3 W3 := by
 have hlt := h.box.at_.lt
 obtain ⟨v3, W3, hr, hB, hG⟩ := h.buf.app po c x hx hc hn (by omega)
 refine ⟨v3, W3, hr, h.ok, h.hg, RBox.mk' h.ok (h.box.at_.keep (hG.block g hlt fun e => ?_)), hB, below_grown h.below hG (Nat.le_refl _) fun b hb => ?_⟩
 ·have := (own_ge h.buf g e.symm).1; omega
 ·have := (own_ge h.buf b hb).1; have := h.hg; omega
theorem BS.sum (h : BS w g r L v W) (hn : L.length ≤ 1000000) :
  ∃ v3 W3, (Builtin.append_ #[22, 22] 22 #[v, .slice (some ⟨g, 8, none⟩) 32 32]).run Tryz.prog W = .ok v3 W3 ∧ BS w g r (L ++ r.sum) v3 W3 := by
 have := h.app (x := r.sum) (some ⟨g, 8, none⟩) 32 (Or.inr ⟨g, 8, rfl, fun i hi => h.box.cs i _ (sumC_get hi)⟩) (by simp) (by rw [h.ok.sl]; omega)
 rw [h.ok.sl] at this
 exact this
end
end Go.Proofs.YtopibkoklagceaaGreat

/- The document's data: what is read, step by step; bytes beside a record's block. -/
namespace Go.Proofs.YtopibkoklagceaaGreat
open Go Go.RowKit

section
variable {po : Option Addr} {w w' : World} {v : Value} {d : List Nat} (h : SLn po w v d) (hl : d.length ≤ 100000) (h8 : ∀ x ∈ d, x < 256)
include h
include hl h8
end
/-- A record's block; of what was there nothing else has turned. -/
structure DB (w0 : World) (g : Nat) (r : Rv) (w : World) : Prop where
 ok : r.ok
 rb : RBox w g r
 only : Only (fun b => b = g) w0 w
section
variable {w0 w w' : World} {g : Nat} {r r' : Rv} (h : DB w0 g r w)
include h
theorem DB.below (hb : Below w.heap.size w w') : DB w0 g r w' := ⟨h.ok, h.rb.below h.ok hb, h.only.trans (Only.of_below hb)⟩
theorem DB.turn (hr : RBox w' g r') (hk : r'.ok) (ho : Only (fun b => b = g) w w') : DB w0 g r' w' := ⟨hk, hr, h.only.trans ho⟩
/-- copy(r.Sum[:], b[:32]) -/
theorem DB.copy {po : Option Addr} {x : List Nat} (hb : BL w po x) (hx : x.length = 32) (h8 : ∀ z ∈ x, z < 256) (c : Nat) (ty : TypeId) :
  (Builtin.copy_ #[22, 22] ty #[.slice (some ⟨g, 8, none⟩) 32 32, .slice po 32 c]).run Tryz.prog w = .ok (goInt 32) (w.setCells g 8 (x.map u8)) ∧ DB w0 g { r with sum := x } (w.setCells g 8 (x.map u8)) := by
 refine ⟨?_, h.turn (h.rb.setSum h.ok x hx h8) ⟨hx, h8, h.ok.i, h.ok.e, h.ok.d, h.ok.u⟩ (only_setCells _ _ _ _ rfl)⟩
 rcases hb with rfl | ⟨b, o, rfl, hb⟩
 ·simp at hx
 have := run_copy_cells (P := Tryz.prog) w 22 22 ty 5 g 8 32 32 ⟨b, o, none⟩ 32 c (x.map u8) Tryz.underlying22 (by kernel_rfl) (by simp [hx])
  (fun j v hj => by
   have hjn : j < x.length := by
    rcases Nat.lt_or_ge j x.length with q | q
    ·exact q
    ·rw [List.getElem?_eq_none (by simpa using q)] at hj; cases hj
   rw [add_none, hb j hjn]
   simp [hjn] at hj
   rw [← hj]; simp [List.getD, hjn])
  (fun j hj => by
   have hj' : j < 32 := by simpa [hx] using hj
   rw [h.rb.cs j _ (sumC_get (by rw [h.ok.sl]; exact hj'))]; rfl)
  (fun j _ => h.rb.free _)
  (fun v hv => by obtain ⟨i, _, rfl⟩ := List.mem_map.1 hv; rfl)
 simp only [List.length_map, hx] at this
 exact this
end
end Go.Proofs.YtopibkoklagceaaGreat

/- Contracts of the document's parts, Check and Same. (Written by tools/gen_Vu.py.) -/
namespace Go.Proofs.YtopibkoklagceaaGreat
open Go Go.RowKit

set_option maxRecDepth 100000 in
set_option maxHeartbeats 1000000 in
theorem rParts_any (v : Value) (ps : Ps) (size : Int) (w : World) (hv : PL w v ps) : Calls Tryz.prog 89 #[v, i64 size] w fun e w' => e = .returned (.bool (okParts ps size)) ∧ w' = w := by
 have HV := hid hv
 obtain ⟨po, c, rfl, hc, hl, _⟩ := hv
 by_cases hbig : 32 < ps.length
 ·have hbig' : 32 < (ps.length : Int) := by omega
  have e : Hid (okParts ps size = false) := by unfold okParts Hid; simp; omega
  go_enter Tryz.func89, Tryz.ntmps89
  go_wp2
  go_ret
  exact ⟨by rw [e.out]; rfl, rfl⟩
 have hsm : ¬ 32 < (ps.length : Int) := by omega
 have HE : Hid (okParts ps size = (okPs 0 ps && (ps.isEmpty || decide (sumPs ps = size)))) := hid (by unfold okParts; rw [decide_eq_true (show ps.length ≤ 32 by omega), Bool.true_and])
 go_enter Tryz.func89, Tryz.ntmps89
 go_wp2
 go_loopw [5, 6, 7] (fun sv lv iv wr => ∃ (k : Nat) (last sum : Int), k ≤ ps.length ∧ sv = i64 sum ∧ lv = i64 last ∧ iv = i64 k ∧ 0 ≤ last ∧ last ≤ 10000 ∧ 0 ≤ sum ∧ sum ≤ 65536 * k ∧ okPs 0 ps = okPs last (ps.drop k) ∧ sumPs ps = sum + sumPs (ps.drop k) ∧ w = wr) (fun _ _ iv _ => (ps.length - intOf iv).toNat)
 case atStart => exact ⟨0, 0, 0, by omega, rfl, rfl, rfl, by omega, by omega, by omega, by omega, rfl, by simp, rfl⟩
 case round =>
  clear hsm
  obtain ⟨k, last, sum, hk, rfl, rfl, rfl, hl0, hl1, hs0, hs1, hR, hS, hw⟩ := hrel
  subst hw
  by_cases hlt : k < ps.length
  ·have hlt' : (k : Int) < (ps.length : Int) := by omega
   rw [drop_consP hlt] at hR hS
   rw [okPs] at hR
   have hS2 : sumPs (ps.getD k (0, 0) :: ps.drop (k + 1)) = (ps.getD k (0, 0)).2 + sumPs (ps.drop (k + 1)) := by simp [sumPs]
   rw [hS2] at hS
   obtain ⟨b, o, hpo, x1, x2⟩ := HV.out.at hlt
   subst hpo
   have HR := hid hR
   have HS := hid hS
   clear hR hS hS2
   generalize hX1 : (ps.getD k (0, 0)).1 = X1 at *
   generalize hX2 : (ps.getD k (0, 0)).2 = X2 at *
   clear hX1 hX2
   have hbad : okPs 0 ps = false → okParts ps size = false := fun h => by rw [HE.out, h]; rfl
   have HBAD := hid hbad
   clear hbad
   by_cases i1 : X1 ≤ last
   ·have e : Hid (okParts ps size = false) := HBAD.out (by rw [HR.out, decide_eq_false (by omega)]; rfl)
    go_wp2
    go_ret
    exact ⟨by rw [e.out]; rfl, by trivial⟩
   by_cases i2 : 10000 < X1
   ·have e : Hid (okParts ps size = false) := HBAD.out (by rw [HR.out, decide_eq_false (p := X1 ≤ 10000) (by omega)]; simp)
    go_wp2
    go_ret
    exact ⟨by rw [e.out]; rfl, by trivial⟩
   cases i3 : inR X2 0 65536
   ·have e : Hid (okParts ps size = false) := HBAD.out (by rw [HR.out, i3]; simp)
    go_wp2_with (go_at_call 84; refine (from_any _ _ _ _).mono ?_; rintro e w' ⟨rfl, hw'⟩; rw [i3]; have hw2 := hw'.symm; subst hw2)
    go_ret
    exact ⟨by rw [e.out]; rfl, by trivial⟩
   ·have hr2 := inR_iff.1 i3
    have hr3 := hr2.1
    have hr4 := hr2.2
    clear hr2
    have HN : Hid (okPs 0 ps = okPs X1 (ps.drop (k + 1))) := by
     unfold Hid
     rw [HR.out, decide_eq_true (p := last < X1) (by omega), decide_eq_true (p := X1 ≤ 10000) (by omega), i3]; rfl
    go_wp2_with (go_at_call 84; refine (from_any _ _ _ _).mono ?_; rintro e w' ⟨rfl, hw'⟩; rw [i3]; have hw2 := hw'.symm; subst hw2)
    exact ⟨⟨k + 1, X1, sum + X2, by omega, rfl, rfl, by simp, by omega, by omega, by omega, by omega, HN.out, by have := HS.out; omega, by trivial⟩, by simp [intOf]; omega⟩
  ·have hlt' : ¬ (k : Int) < (ps.length : Int) := by omega
   rw [List.drop_eq_nil_of_le (by omega)] at hR hS
   have hR' : okPs 0 ps = true := hR
   have hS' : sumPs ps = sum := by rw [hS]; simp [sumPs]
   have HR : Hid (okParts ps size = (ps.isEmpty || decide (sum = size))) := by unfold Hid; rw [HE.out, hR', hS']; rfl
   clear hR hS hR' hS' HE
   by_cases h0 : ps = []
   ·subst h0
    go_wp2
    go_ret
    exact ⟨by rw [HR.out]; rfl, by trivial⟩
   ·have hz : ((ps.length : Int) == 0) = false := by have := List.length_pos_iff.2 h0; simp; omega
    have hie : ps.isEmpty = false := by cases ps <;> simp_all
    rw [hie] at HR
    by_cases he : sum = size
    ·have he' : (sum == size) = true := by simpa using he
     go_wp2
     go_ret
     exact ⟨by rw [HR.out, decide_eq_true he]; rfl, by trivial⟩
    ·have he' : (sum == size) = false := by simpa using he
     go_wp2
     go_ret
     exact ⟨by rw [HR.out, decide_eq_false he]; rfl, by trivial⟩
theorem rIDb {s : ByteArray} {b : Bool} (h : okId (lst s) = b) (w : World) (hs : s.size ≤ 1000000) : Calls Tryz.prog 87 #[.string s] w fun e w' => e = .returned (.bool b) ∧ w' = w := by rw [← h]; exact rID_any s w hs
theorem zeroD_len : zeroD.length = 32 := by simp [zeroD]
theorem built_zero : Tryz.prog.built 37 [] = some (sumC zeroD) := by kernel_rfl
set_option maxRecDepth 100000 in
theorem neqSum {x y : List Nat} (hx : x.length = 32) (hy : y.length = 32) (w : World) : (binOp .neq 37 (.agg (sumC x)) (.agg (sumC y))).run Tryz.prog w = .ok (.bool (!decide (x = y))) w := by
 rw [run_neq_struct, eqSum_in hx hy 9999 (fun a b w => by
  have := run_equalIn_int (P := Tryz.prog) w 9998 5 .u8 .u8 (a : Int) (b : Int) Tryz.underlying5
  unfold u8
  rw [this]
  congr 1
  rw [Bool.eq_iff_iff]; simp; omega) w]
 rfl
end Go.Proofs.YtopibkoklagceaaGreat

/- The document's Check, some cases. (Written by tools/gen_Vu.py.) -/
namespace Go.Proofs.YtopibkoklagceaaGreat
open Go Go.RowKit

set_option maxRecDepth 100000 in
set_option maxHeartbeats 1000000 in
theorem rcheck_0 (r : Rv) (hr : r.ok) (ps : Ps) (w : World) (hp : PL w r.pv ps) (h0 : okId (lst r.id) = false) : Calls Tryz.prog 60 #[.agg r.cs] w fun e w' => e = .returned (i64 2) ∧ Below w.heap.size w w' := by
 have HR := hid hr
 have HP := hid hp
 have H0 := hid h0
 clear hr hp h0
 go_enter Tryz.func60, Tryz.ntmps60
 go_wp2_with (first
  | ((with_reducible refine wpList_boxR rfl _ rfl r.cs ?_ ?_); exact rfl; intro w1 g1 hc1 hb1 hg1; have HA := hid (RBox.mk' HR.out hc1); have HB := hid hb1; have HP1 := hid (HP.out.below hb1); have c0 := HA.out.c0; have c1 := HA.out.c1; have c2 := HA.out.c2; clear hc1 hb1)
  | (go_at_call 87; refine (rID_any _ _ (by have := HR.out.i; omega)).mono ?_; rintro e w' ⟨rfl, hw'⟩; rw [H0.out]; have hw2 := hw'.symm; subst hw2))
 go_ret
 exact ⟨rfl, HB.out⟩
set_option maxRecDepth 100000 in
set_option maxHeartbeats 1000000 in
theorem rcheck_1 (r : Rv) (hr : r.ok) (ps : Ps) (w : World) (hp : PL w r.pv ps) (h0 : okId (lst r.id) = true) (h1 : inR r.time 0 1048576 = false) : Calls Tryz.prog 60 #[.agg r.cs] w fun e w' => e = .returned (i64 2) ∧ Below w.heap.size w w' := by
 have HR := hid hr
 have HP := hid hp
 have H0 := hid h0
 have H1 := hid h1
 clear hr hp h0 h1
 go_enter Tryz.func60, Tryz.ntmps60
 go_wp2_with (first
  | ((with_reducible refine wpList_boxR rfl _ rfl r.cs ?_ ?_); exact rfl; intro w1 g1 hc1 hb1 hg1; have HA := hid (RBox.mk' HR.out hc1); have HB := hid hb1; have HP1 := hid (HP.out.below hb1); have c0 := HA.out.c0; have c1 := HA.out.c1; have c2 := HA.out.c2; clear hc1 hb1)
  | (go_at_call 87; refine (rID_any _ _ (by have := HR.out.i; omega)).mono ?_; rintro e w' ⟨rfl, hw'⟩; rw [H0.out]; have hw2 := hw'.symm; subst hw2)
  | (go_at_call 84; refine (from_any _ _ _ _).mono ?_; rintro e w' ⟨rfl, hw'⟩; (first | rw [H1.out]); have hw2 := hw'.symm; subst hw2))
 go_ret
 exact ⟨rfl, HB.out⟩
set_option maxRecDepth 100000 in
set_option maxHeartbeats 1000000 in
theorem rcheck_m0 (r : Rv) (hr : r.ok) (ps : Ps) (w : World) (hp : PL w r.pv ps) (h0 : okId (lst r.id) = true) (h1 : inR r.time 0 1048576 = true) (hm : r.mark = true) (m0 : (r.size == 0) = false) : Calls Tryz.prog 60 #[.agg r.cs] w fun e w' => e = .returned (i64 2) ∧ Below w.heap.size w w' := by
 have HR := hid hr
 have HP := hid hp
 have z0 : ¬ r.size = 0 := by simpa using m0
 clear m0
 have H0 := hid h0
 have H1 := hid h1
 clear hr hp h0 h1
 go_enter Tryz.func60, Tryz.ntmps60
 go_wp2_with (first
  | ((with_reducible refine wpList_boxR rfl _ rfl r.cs ?_ ?_); exact rfl; intro w1 g1 hc1 hb1 hg1; have HA := hid (RBox.mk' HR.out hc1); have HB := hid hb1; have HP1 := hid (HP.out.below hb1); have c0 := HA.out.c0; have c1 := HA.out.c1; have c2 := HA.out.c2; have c3 := HA.out.c3; have c4 := HA.out.c4; have c5 := HA.out.c5; have c6 := HA.out.c6; have c7 := HA.out.c7; have c40 := HA.out.c40; have c41 := HA.out.c41; rw [hm] at c2; clear hc1 hb1)
  | (go_at_call 87; refine (rID_any _ _ (by have := HR.out.i; omega)).mono ?_; rintro e w' ⟨rfl, hw'⟩; rw [H0.out]; have hw2 := hw'.symm; subst hw2)
  | (go_at_call 84; refine (from_any _ _ _ _).mono ?_; rintro e w' ⟨rfl, hw'⟩; (first | rw [H1.out]); have hw2 := hw'.symm; subst hw2))
 go_ret
 exact ⟨rfl, HB.out⟩
set_option maxRecDepth 100000 in
set_option maxHeartbeats 1000000 in
theorem rcheck_m1 (r : Rv) (hr : r.ok) (ps : Ps) (w : World) (hp : PL w r.pv ps) (h0 : okId (lst r.id) = true) (h1 : inR r.time 0 1048576 = true) (hm : r.mark = true) (m0 : (r.size == 0) = true) (m1 : (r.etag.toList.isEmpty) = false) : Calls Tryz.prog 60 #[.agg r.cs] w fun e w' => e = .returned (i64 2) ∧ Below w.heap.size w w' := by
 have HR := hid hr
 have HP := hid hp
 have z0 : r.size = 0 := by simpa using m0
 clear m0
 have H0 := hid h0
 have H1 := hid h1
 clear hr hp h0 h1
 go_enter Tryz.func60, Tryz.ntmps60
 go_wp2_with (first
  | ((with_reducible refine wpList_boxR rfl _ rfl r.cs ?_ ?_); exact rfl; intro w1 g1 hc1 hb1 hg1; have HA := hid (RBox.mk' HR.out hc1); have HB := hid hb1; have HP1 := hid (HP.out.below hb1); have c0 := HA.out.c0; have c1 := HA.out.c1; have c2 := HA.out.c2; have c3 := HA.out.c3; have c4 := HA.out.c4; have c5 := HA.out.c5; have c6 := HA.out.c6; have c7 := HA.out.c7; have c40 := HA.out.c40; have c41 := HA.out.c41; rw [hm] at c2; clear hc1 hb1)
  | (go_at_call 87; refine (rID_any _ _ (by have := HR.out.i; omega)).mono ?_; rintro e w' ⟨rfl, hw'⟩; rw [H0.out]; have hw2 := hw'.symm; subst hw2)
  | (go_at_call 84; refine (from_any _ _ _ _).mono ?_; rintro e w' ⟨rfl, hw'⟩; (first | rw [H1.out]); have hw2 := hw'.symm; subst hw2))
 go_ret
 exact ⟨rfl, HB.out⟩
set_option maxRecDepth 100000 in
set_option maxHeartbeats 1000000 in
theorem rcheck_m2 (r : Rv) (hr : r.ok) (ps : Ps) (w : World) (hp : PL w r.pv ps) (h0 : okId (lst r.id) = true) (h1 : inR r.time 0 1048576 = true) (hm : r.mark = true) (m0 : (r.size == 0) = true) (m1 : (r.etag.toList.isEmpty) = true) (m2 : (r.k == 0) = false) : Calls Tryz.prog 60 #[.agg r.cs] w fun e w' => e = .returned (i64 2) ∧ Below w.heap.size w w' := by
 have HR := hid hr
 have HP := hid hp
 have z0 : r.size = 0 := by simpa using m0
 clear m0
 have z2 : ¬ r.k = 0 := by simpa using m2
 clear m2
 have H0 := hid h0
 have H1 := hid h1
 clear hr hp h0 h1
 go_enter Tryz.func60, Tryz.ntmps60
 go_wp2_with (first
  | ((with_reducible refine wpList_boxR rfl _ rfl r.cs ?_ ?_); exact rfl; intro w1 g1 hc1 hb1 hg1; have HA := hid (RBox.mk' HR.out hc1); have HB := hid hb1; have HP1 := hid (HP.out.below hb1); have c0 := HA.out.c0; have c1 := HA.out.c1; have c2 := HA.out.c2; have c3 := HA.out.c3; have c4 := HA.out.c4; have c5 := HA.out.c5; have c6 := HA.out.c6; have c7 := HA.out.c7; have c40 := HA.out.c40; have c41 := HA.out.c41; rw [hm] at c2; clear hc1 hb1)
  | (go_at_call 87; refine (rID_any _ _ (by have := HR.out.i; omega)).mono ?_; rintro e w' ⟨rfl, hw'⟩; rw [H0.out]; have hw2 := hw'.symm; subst hw2)
  | (go_at_call 84; refine (from_any _ _ _ _).mono ?_; rintro e w' ⟨rfl, hw'⟩; (first | rw [H1.out]); have hw2 := hw'.symm; subst hw2))
 go_ret
 exact ⟨rfl, HB.out⟩
set_option maxRecDepth 100000 in
set_option maxHeartbeats 1000000 in
theorem rcheck_m3 (r : Rv) (hr : r.ok) (ps : Ps) (w : World) (hp : PL w r.pv ps) (h0 : okId (lst r.id) = true) (h1 : inR r.time 0 1048576 = true) (hm : r.mark = true) (m0 : (r.size == 0) = true) (m1 : (r.etag.toList.isEmpty) = true) (m2 : (r.k == 0) = true) (m3 : (r.m == 0) = false) : Calls Tryz.prog 60 #[.agg r.cs] w fun e w' => e = .returned (i64 2) ∧ Below w.heap.size w w' := by
 have HR := hid hr
 have HP := hid hp
 have z0 : r.size = 0 := by simpa using m0
 clear m0
 have z2 : r.k = 0 := by simpa using m2
 clear m2
 have z3 : ¬ r.m = 0 := by simpa using m3
 clear m3
 have H0 := hid h0
 have H1 := hid h1
 clear hr hp h0 h1
 go_enter Tryz.func60, Tryz.ntmps60
 go_wp2_with (first
  | ((with_reducible refine wpList_boxR rfl _ rfl r.cs ?_ ?_); exact rfl; intro w1 g1 hc1 hb1 hg1; have HA := hid (RBox.mk' HR.out hc1); have HB := hid hb1; have HP1 := hid (HP.out.below hb1); have c0 := HA.out.c0; have c1 := HA.out.c1; have c2 := HA.out.c2; have c3 := HA.out.c3; have c4 := HA.out.c4; have c5 := HA.out.c5; have c6 := HA.out.c6; have c7 := HA.out.c7; have c40 := HA.out.c40; have c41 := HA.out.c41; rw [hm] at c2; clear hc1 hb1)
  | (go_at_call 87; refine (rID_any _ _ (by have := HR.out.i; omega)).mono ?_; rintro e w' ⟨rfl, hw'⟩; rw [H0.out]; have hw2 := hw'.symm; subst hw2)
  | (go_at_call 84; refine (from_any _ _ _ _).mono ?_; rintro e w' ⟨rfl, hw'⟩; (first | rw [H1.out]); have hw2 := hw'.symm; subst hw2))
 go_ret
 exact ⟨rfl, HB.out⟩
set_option maxRecDepth 100000 in
set_option maxHeartbeats 1000000 in
theorem rcheck_m4 (r : Rv) (hr : r.ok) (ps : Ps) (w : World) (hp : PL w r.pv ps) (h0 : okId (lst r.id) = true) (h1 : inR r.time 0 1048576 = true) (hm : r.mark = true) (m0 : (r.size == 0) = true) (m1 : (r.etag.toList.isEmpty) = true) (m2 : (r.k == 0) = true) (m3 : (r.m == 0) = true) (m4 : (r.data.toList.isEmpty) = false) : Calls Tryz.prog 60 #[.agg r.cs] w fun e w' => e = .returned (i64 2) ∧ Below w.heap.size w w' := by
 have HR := hid hr
 have HP := hid hp
 have z0 : r.size = 0 := by simpa using m0
 clear m0
 have z2 : r.k = 0 := by simpa using m2
 clear m2
 have z3 : r.m = 0 := by simpa using m3
 clear m3
 have H0 := hid h0
 have H1 := hid h1
 clear hr hp h0 h1
 go_enter Tryz.func60, Tryz.ntmps60
 go_wp2_with (first
  | ((with_reducible refine wpList_boxR rfl _ rfl r.cs ?_ ?_); exact rfl; intro w1 g1 hc1 hb1 hg1; have HA := hid (RBox.mk' HR.out hc1); have HB := hid hb1; have HP1 := hid (HP.out.below hb1); have c0 := HA.out.c0; have c1 := HA.out.c1; have c2 := HA.out.c2; have c3 := HA.out.c3; have c4 := HA.out.c4; have c5 := HA.out.c5; have c6 := HA.out.c6; have c7 := HA.out.c7; have c40 := HA.out.c40; have c41 := HA.out.c41; rw [hm] at c2; clear hc1 hb1)
  | (go_at_call 87; refine (rID_any _ _ (by have := HR.out.i; omega)).mono ?_; rintro e w' ⟨rfl, hw'⟩; rw [H0.out]; have hw2 := hw'.symm; subst hw2)
  | (go_at_call 84; refine (from_any _ _ _ _).mono ?_; rintro e w' ⟨rfl, hw'⟩; (first | rw [H1.out]); have hw2 := hw'.symm; subst hw2))
 go_ret
 exact ⟨rfl, HB.out⟩
set_option maxRecDepth 100000 in
set_option maxHeartbeats 1000000 in
theorem rcheck_m5 (r : Rv) (hr : r.ok) (ps : Ps) (w : World) (hp : PL w r.pv ps) (h0 : okId (lst r.id) = true) (h1 : inR r.time 0 1048576 = true) (hm : r.mark = true) (m0 : (r.size == 0) = true) (m1 : (r.etag.toList.isEmpty) = true) (m2 : (r.k == 0) = true) (m3 : (r.m == 0) = true) (m4 : (r.data.toList.isEmpty) = true) (m5 : decide (r.sum = zeroD) = false) : Calls Tryz.prog 60 #[.agg r.cs] w fun e w' => e = .returned (i64 2) ∧ Below w.heap.size w w' := by
 have HR := hid hr
 have HP := hid hp
 have z0 : r.size = 0 := by simpa using m0
 clear m0
 have z2 : r.k = 0 := by simpa using m2
 clear m2
 have z3 : r.m = 0 := by simpa using m3
 clear m3
 have hsum := neqSum hr.sl zeroD_len
 rw [m5] at hsum
 clear m5
 have H0 := hid h0
 have H1 := hid h1
 clear hr hp h0 h1
 go_enter Tryz.func60, Tryz.ntmps60
 go_wp2_with (first
  | ((with_reducible refine wpList_boxR rfl _ rfl r.cs ?_ ?_); exact rfl; intro w1 g1 hc1 hb1 hg1; have HA := hid (RBox.mk' HR.out hc1); have HB := hid hb1; have HP1 := hid (HP.out.below hb1); have c0 := HA.out.c0; have c1 := HA.out.c1; have c2 := HA.out.c2; have c3 := HA.out.c3; have c4 := HA.out.c4; have c5 := HA.out.c5; have c6 := HA.out.c6; have c7 := HA.out.c7; have c40 := HA.out.c40; have c41 := HA.out.c41; rw [hm] at c2; clear hc1 hb1)
  | (go_at_call 87; refine (rID_any _ _ (by have := HR.out.i; omega)).mono ?_; rintro e w' ⟨rfl, hw'⟩; rw [H0.out]; have hw2 := hw'.symm; subst hw2)
  | (go_at_call 84; refine (from_any _ _ _ _).mono ?_; rintro e w' ⟨rfl, hw'⟩; (first | rw [H1.out]); have hw2 := hw'.symm; subst hw2)
  | ((with_reducible refine wpList_load_at 37 _ rfl ?_ g1 8 ?_ (sumC r.sum) (.array 32 5) ?_ underD rfl ?_ ?_); exact rfl; exact rfl; exact HA.out.cs; (rw [sumC_size, HR.out.sl]; exact sizeD))
  | ((with_reducible refine wpList_build_want 37 _ rfl ?_ (sumC zeroD) ?_ ?_); exact rfl; exact built_zero))
 go_ret
 exact ⟨rfl, HB.out⟩
set_option maxRecDepth 100000 in
set_option maxHeartbeats 1000000 in
theorem rcheck_m6 (r : Rv) (hr : r.ok) (ps : Ps) (w : World) (hp : PL w r.pv ps) (h0 : okId (lst r.id) = true) (h1 : inR r.time 0 1048576 = true) (hm : r.mark = true) (m0 : (r.size == 0) = true) (m1 : (r.etag.toList.isEmpty) = true) (m2 : (r.k == 0) = true) (m3 : (r.m == 0) = true) (m4 : (r.data.toList.isEmpty) = true) (m5 : decide (r.sum = zeroD) = true) (m6 : ps.isEmpty = false) : Calls Tryz.prog 60 #[.agg r.cs] w fun e w' => e = .returned (i64 2) ∧ Below w.heap.size w w' := by
 have HR := hid hr
 have HP := hid hp
 have z0 : r.size = 0 := by simpa using m0
 clear m0
 have z2 : r.k = 0 := by simpa using m2
 clear m2
 have z3 : r.m = 0 := by simpa using m3
 clear m3
 have hsum := neqSum hr.sl zeroD_len
 rw [m5] at hsum
 clear m5
 obtain ⟨pp, pc, hpv, hp1, hp2, hp3⟩ := hp
 have hp : PL w r.pv ps := ⟨pp, pc, hpv, hp1, hp2, hp3⟩
 have hlen : ¬ ps = [] := by cases ps <;> simp_all; try omega
 clear m6 hp1 hp2 hp3
 have H0 := hid h0
 have H1 := hid h1
 clear hr hp h0 h1
 go_enter Tryz.func60, Tryz.ntmps60
 go_wp2_with (first
  | ((with_reducible refine wpList_boxR rfl _ rfl r.cs ?_ ?_); exact rfl; intro w1 g1 hc1 hb1 hg1; have HA := hid (RBox.mk' HR.out hc1); have HB := hid hb1; have HP1 := hid (HP.out.below hb1); have c0 := HA.out.c0; have c1 := HA.out.c1; have c2 := HA.out.c2; have c3 := HA.out.c3; have c4 := HA.out.c4; have c5 := HA.out.c5; have c6 := HA.out.c6; have c7 := HA.out.c7; have c40 := HA.out.c40; have c41 := HA.out.c41; rw [hm] at c2; rw [hpv] at c40; clear hc1 hb1)
  | (go_at_call 87; refine (rID_any _ _ (by have := HR.out.i; omega)).mono ?_; rintro e w' ⟨rfl, hw'⟩; rw [H0.out]; have hw2 := hw'.symm; subst hw2)
  | (go_at_call 84; refine (from_any _ _ _ _).mono ?_; rintro e w' ⟨rfl, hw'⟩; (first | rw [H1.out]); have hw2 := hw'.symm; subst hw2)
  | ((with_reducible refine wpList_load_at 37 _ rfl ?_ g1 8 ?_ (sumC r.sum) (.array 32 5) ?_ underD rfl ?_ ?_); exact rfl; exact rfl; exact HA.out.cs; (rw [sumC_size, HR.out.sl]; exact sizeD))
  | ((with_reducible refine wpList_build_want 37 _ rfl ?_ (sumC zeroD) ?_ ?_); exact rfl; exact built_zero))
 go_ret
 exact ⟨rfl, HB.out⟩
set_option maxRecDepth 100000 in
set_option maxHeartbeats 1000000 in
theorem rcheck_m7 (r : Rv) (hr : r.ok) (ps : Ps) (w : World) (hp : PL w r.pv ps) (h0 : okId (lst r.id) = true) (h1 : inR r.time 0 1048576 = true) (hm : r.mark = true) (m0 : (r.size == 0) = true) (m1 : (r.etag.toList.isEmpty) = true) (m2 : (r.k == 0) = true) (m3 : (r.m == 0) = true) (m4 : (r.data.toList.isEmpty) = true) (m5 : decide (r.sum = zeroD) = true) (m6 : ps.isEmpty = true) (m7 : (r.up.toList.isEmpty) = false) : Calls Tryz.prog 60 #[.agg r.cs] w fun e w' => e = .returned (i64 2) ∧ Below w.heap.size w w' := by
 have HR := hid hr
 have HP := hid hp
 have z0 : r.size = 0 := by simpa using m0
 clear m0
 have z2 : r.k = 0 := by simpa using m2
 clear m2
 have z3 : r.m = 0 := by simpa using m3
 clear m3
 have hsum := neqSum hr.sl zeroD_len
 rw [m5] at hsum
 clear m5
 obtain ⟨pp, pc, hpv, hp1, hp2, hp3⟩ := hp
 have hp : PL w r.pv ps := ⟨pp, pc, hpv, hp1, hp2, hp3⟩
 have hlen : (ps.length : Int) = 0 := by cases ps <;> simp_all; try omega
 clear m6 hp1 hp2 hp3
 have H0 := hid h0
 have H1 := hid h1
 clear hr hp h0 h1
 go_enter Tryz.func60, Tryz.ntmps60
 go_wp2_with (first
  | ((with_reducible refine wpList_boxR rfl _ rfl r.cs ?_ ?_); exact rfl; intro w1 g1 hc1 hb1 hg1; have HA := hid (RBox.mk' HR.out hc1); have HB := hid hb1; have HP1 := hid (HP.out.below hb1); have c0 := HA.out.c0; have c1 := HA.out.c1; have c2 := HA.out.c2; have c3 := HA.out.c3; have c4 := HA.out.c4; have c5 := HA.out.c5; have c6 := HA.out.c6; have c7 := HA.out.c7; have c40 := HA.out.c40; have c41 := HA.out.c41; rw [hm] at c2; rw [hpv] at c40; clear hc1 hb1)
  | (go_at_call 87; refine (rID_any _ _ (by have := HR.out.i; omega)).mono ?_; rintro e w' ⟨rfl, hw'⟩; rw [H0.out]; have hw2 := hw'.symm; subst hw2)
  | (go_at_call 84; refine (from_any _ _ _ _).mono ?_; rintro e w' ⟨rfl, hw'⟩; (first | rw [H1.out]); have hw2 := hw'.symm; subst hw2)
  | ((with_reducible refine wpList_load_at 37 _ rfl ?_ g1 8 ?_ (sumC r.sum) (.array 32 5) ?_ underD rfl ?_ ?_); exact rfl; exact rfl; exact HA.out.cs; (rw [sumC_size, HR.out.sl]; exact sizeD))
  | ((with_reducible refine wpList_build_want 37 _ rfl ?_ (sumC zeroD) ?_ ?_); exact rfl; exact built_zero))
 go_ret
 exact ⟨rfl, HB.out⟩
set_option maxRecDepth 100000 in
set_option maxHeartbeats 1000000 in
theorem rcheck_m8 (r : Rv) (hr : r.ok) (ps : Ps) (w : World) (hp : PL w r.pv ps) (h0 : okId (lst r.id) = true) (h1 : inR r.time 0 1048576 = true) (hm : r.mark = true) (m0 : (r.size == 0) = true) (m1 : (r.etag.toList.isEmpty) = true) (m2 : (r.k == 0) = true) (m3 : (r.m == 0) = true) (m4 : (r.data.toList.isEmpty) = true) (m5 : decide (r.sum = zeroD) = true) (m6 : ps.isEmpty = true) (m7 : (r.up.toList.isEmpty) = true) : Calls Tryz.prog 60 #[.agg r.cs] w fun e w' => e = .returned (i64 0) ∧ Below w.heap.size w w' := by
 have HR := hid hr
 have HP := hid hp
 have z0 : r.size = 0 := by simpa using m0
 clear m0
 have z2 : r.k = 0 := by simpa using m2
 clear m2
 have z3 : r.m = 0 := by simpa using m3
 clear m3
 have hsum := neqSum hr.sl zeroD_len
 rw [m5] at hsum
 clear m5
 obtain ⟨pp, pc, hpv, hp1, hp2, hp3⟩ := hp
 have hp : PL w r.pv ps := ⟨pp, pc, hpv, hp1, hp2, hp3⟩
 have hlen : (ps.length : Int) = 0 := by cases ps <;> simp_all; try omega
 clear m6 hp1 hp2 hp3
 have H0 := hid h0
 have H1 := hid h1
 clear hr hp h0 h1
 go_enter Tryz.func60, Tryz.ntmps60
 go_wp2_with (first
  | ((with_reducible refine wpList_boxR rfl _ rfl r.cs ?_ ?_); exact rfl; intro w1 g1 hc1 hb1 hg1; have HA := hid (RBox.mk' HR.out hc1); have HB := hid hb1; have HP1 := hid (HP.out.below hb1); have c0 := HA.out.c0; have c1 := HA.out.c1; have c2 := HA.out.c2; have c3 := HA.out.c3; have c4 := HA.out.c4; have c5 := HA.out.c5; have c6 := HA.out.c6; have c7 := HA.out.c7; have c40 := HA.out.c40; have c41 := HA.out.c41; rw [hm] at c2; rw [hpv] at c40; clear hc1 hb1)
  | (go_at_call 87; refine (rID_any _ _ (by have := HR.out.i; omega)).mono ?_; rintro e w' ⟨rfl, hw'⟩; rw [H0.out]; have hw2 := hw'.symm; subst hw2)
  | (go_at_call 84; refine (from_any _ _ _ _).mono ?_; rintro e w' ⟨rfl, hw'⟩; (first | rw [H1.out]); have hw2 := hw'.symm; subst hw2)
  | ((with_reducible refine wpList_load_at 37 _ rfl ?_ g1 8 ?_ (sumC r.sum) (.array 32 5) ?_ underD rfl ?_ ?_); exact rfl; exact rfl; exact HA.out.cs; (rw [sumC_size, HR.out.sl]; exact sizeD))
  | ((with_reducible refine wpList_build_want 37 _ rfl ?_ (sumC zeroD) ?_ ?_); exact rfl; exact built_zero))
 go_ret
 exact ⟨rfl, HB.out⟩
end Go.Proofs.YtopibkoklagceaaGreat
