/- Texts laid into one, cut to what is needed: the remark ahead of each part says what is proved there. -/
import Derived.Test.YtdohmokhfajjpaaGreatDoorPay
import Derived.Test.YtdohmokhfajjpaaGreatDoorPao
import Derived.Test.YtdohmokhfajjpaaGreatDoorPba
import Derived.Test.YtdohmokhfajjpaaGreatDoorPaq
import Derived.Test.YtdohmokhfajjpaaGreatDoorPau
import Derived.Test.YtdohmokhfajjpaaGreatDoorPav
import Derived.Deep.MidRow
/- journal.Bytes: the walks. -/
namespace Go.Proofs.YtdohmokhfajjpaaGreatDoor
open Go Go.RowKit

theorem Buf.form3 {B : Nat} {w : World} {v : Value} {L : List Nat} (h : Buf B w v L) : ∃ po n cc, v = .slice po n cc := by obtain ⟨p, c, e⟩ := h.form; exact ⟨p, _, c, e⟩
/-- Behind what was made so far. -/
structure B2 (w : World) (g1 : Nat) (s : Int) (v : Value) (W : World) : Prop where
 below : Below w.heap.size w W
 cj : CAt W g1 (jC s v) 70
theorem B2.on {w W W' : World} {g1 : Nat} {s : Int} {v : Value} (h : B2 w g1 s v W) (hb : Below W.heap.size W W') : B2 w g1 s v W' := ⟨below_on h.below hb, h.cj.below hb⟩
/-- The loop: so many records have been written behind the head. -/
structure BI (w1 : World) (s : Int) (n : Nat) (rs : List Rc) (k : Nat) (v : Value) (W : World) : Prop where
 below : Below w1.heap.size w1 W
 buf : Buf w1.heap.size W v (hdJ s n ++ rsB (rs.take k))
theorem BI.app {w1 W W1 : World} {s : Int} {n : Nat} {rs : List Rc} {k : Nat} {v : Value} (h : BI w1 s n rs k v W) (hb : Below W.heap.size W W1) {x : Rc} (hx : rs[k]? = some x) {po : Option Addr} (hbl : BL W1 po (rcB x)) (hz : po = none → (rcB x).length = 0) (hn : (hdJ s n ++ rsB (rs.take k)).length + (rcB x).length ≤ 2000000) :
  ∃ v' W2, (Builtin.append_ #[22, 22] 22 #[v, .slice po (rcB x).length (rcB x).length]).run Tryz.prog W1 = .ok v' W2 ∧ BI w1 s n rs (k + 1) v' W2 := by
 obtain ⟨v', W2, hr, hb2, hg⟩ := (h.buf.below hb).app po (rcB x).length (rcB x) hbl hz hn (Nat.le_trans h.below.size hb.size)
 refine ⟨v', W2, hr, below_grown (below_on h.below hb) hg (Nat.le_refl _) (fun b e => (own_ge h.buf b e).1), ?_⟩
 rw [rsB_take hx, ← List.append_assoc]; exact hb2

end Go.Proofs.YtdohmokhfajjpaaGreatDoor

/- Copies (what drives answer) and lists of them in memory; bools in memory. -/
namespace Go.Proofs.YtdohmokhfajjpaaGreatDoor
open Go Go.RowKit

/-- A copy as a value, and its bytes. -/
structure Cv where
 err : Int
 v : Value
 bs : List Nat
def Cv.cp (x : Cv) : Cp := ⟨x.err, x.bs⟩
def cps (l : List Cv) : List Cp := l.map Cv.cp
theorem cps_len (l : List Cv) : (cps l).length = l.length := by simp [cps]
theorem cps_get (l : List Cv) (i : Nat) : (cps l)[i]? = l[i]?.map Cv.cp := by simp [cps]
/-- Bytes of a copy: where they lie. -/
structure CvOk (w : World) (x : Cv) : Prop where
 sl : ∃ po c, x.v = .slice po x.bs.length c ∧ BL w po x.bs ∧ x.bs.length ≤ c ∧ (po = none → c = 0)
 small : x.bs.length ≤ 100000
 byte : ∀ z ∈ x.bs, z < 256
theorem CvOk.keep {w w' : World} {x : Cv} (h : CvOk w x) (hk : ∀ a, w.cell? a ≠ none → w'.cell? a = w.cell? a) : CvOk w' x := by
 obtain ⟨⟨po, c, h1, h2, h3, h4⟩, h5, h6⟩ := h
 exact ⟨⟨po, c, h1, h2.keep hk, h3, h4⟩, h5, h6⟩
theorem CvOk.below {w w' : World} {x : Cv} (h : CvOk w x) (hb : Below w.heap.size w w') : CvOk w' x := h.keep fun a ha => World.cell?_of_block (hb.block a.block (cell_lt' ha))
theorem CvOk.slv {w : World} {x : Cv} (h : CvOk w x) : SL w x.v x.bs := by
 obtain ⟨⟨po, c, h1, h2, h3, _⟩, _, _⟩ := h
 exact ⟨po, c, h1, h2, h3⟩
/-- The copies lie there, one behind the other. -/
def CCells (w : World) (b o : Nat) (l : List Cv) : Prop := ∀ i x, l[i]? = some x → w.cell? ⟨b, o + i * 2, none⟩ = some (i64 x.err) ∧ w.cell? ⟨b, o + i * 2 + 1, none⟩ = some x.v
theorem CCells.keep {w w' : World} {b o : Nat} {l : List Cv} (h : CCells w b o l) (hk : ∀ a, w.cell? a ≠ none → w'.cell? a = w.cell? a) : CCells w' b o l := fun i x e => by
 have := h i x e
 exact ⟨(hk _ (by rw [this.1]; simp)).trans this.1, (hk _ (by rw [this.2]; simp)).trans this.2⟩
/-- The slice v leads to the copies l. -/
def CL (w : World) (v : Value) (l : List Cv) : Prop := ∃ po c, v = .slice po l.length c ∧ l.length ≤ c ∧ l.length ≤ 1000 ∧ (po = none → c = 0) ∧ (l = [] ∨ ∃ b o, po = some ⟨b, o, none⟩ ∧ CCells w b o l) ∧ ∀ x ∈ l, CvOk w x
theorem CL.each {w : World} {v : Value} {l : List Cv} (h : CL w v l) : ∀ x ∈ l, CvOk w x := by obtain ⟨_, _, _, _, _, _, _, h⟩ := h; exact h
theorem CL.keep {w w' : World} {v : Value} {l : List Cv} (h : CL w v l) (hk : ∀ a, w.cell? a ≠ none → w'.cell? a = w.cell? a) : CL w' v l := by
 obtain ⟨po, c, h1, h2, h3, h4, h5, h6⟩ := h
 refine ⟨po, c, h1, h2, h3, h4, ?_, fun x hx => (h6 x hx).keep hk⟩
 rcases h5 with h5 | ⟨b, o, e, h5⟩
 ·exact Or.inl h5
 ·exact Or.inr ⟨b, o, e, h5.keep hk⟩
theorem CL.below {w w' : World} {v : Value} {l : List Cv} (h : CL w v l) (hb : Below w.heap.size w w') : CL w' v l := h.keep fun a ha => World.cell?_of_block (hb.block a.block (cell_lt' ha))
theorem CL.nil (w : World) : CL w (.slice none 0 0) [] := ⟨none, 0, rfl, Nat.le_refl _, by simp, fun _ => rfl, Or.inl rfl, fun x hx => by cases hx⟩
/-- One of them, by its place. -/
theorem CL.where {w : World} {v : Value} {l : List Cv} (h : CL w v l) {i : Nat} {x : Cv} (hx : l[i]? = some x) : ∃ b o c, v = .slice (some ⟨b, o, none⟩) l.length c ∧ l.length ≤ c ∧ CCells w b o l ∧ CvOk w x := by
 obtain ⟨po, c, h1, h2, h3, h4, h5, h6⟩ := h
 rcases h5 with rfl | ⟨b, o, rfl, h5⟩
 ·simp at hx
 ·exact ⟨b, o, c, h1, h2, h5, h6 x (List.mem_of_getElem? hx)⟩
/-- A copy's two cells, in the world at hand, and its bytes. -/
theorem CL.at {w w' : World} {b o n c : Nat} {l : List Cv} (h : CL w (.slice (some ⟨b, o, none⟩) n c) l) (hb : Below w.heap.size w w') {i : Nat} {x : Cv} (hx : l[i]? = some x) : w'.cell? ⟨b, o + i * 2, none⟩ = some (i64 x.err) ∧ w'.cell? ⟨b, o + i * 2 + 1, none⟩ = some x.v ∧ CvOk w' x := by
 obtain ⟨b', o', c', e, _, h1, h2⟩ := (h.below hb).where hx
 cases e
 exact ⟨(h1 i x hx).1, (h1 i x hx).2, h2⟩
/-- A slice of bools. -/
def BoL (w : World) (v : Value) (hs : List Bool) : Prop := ∃ po c, v = .slice po hs.length c ∧ hs.length ≤ c ∧ (hs = [] ∨ ∃ b o, po = some ⟨b, o, none⟩ ∧ ∀ i x, hs[i]? = some x → w.cell? ⟨b, o + i, none⟩ = some (.bool x))
theorem BoL.keep {w w' : World} {v : Value} {hs : List Bool} (h : BoL w v hs) (hk : ∀ a, w.cell? a ≠ none → w'.cell? a = w.cell? a) : BoL w' v hs := by
 obtain ⟨po, c, h1, h2, h3⟩ := h
 refine ⟨po, c, h1, h2, ?_⟩
 rcases h3 with h3 | ⟨b, o, e, h3⟩
 ·exact Or.inl h3
 ·exact Or.inr ⟨b, o, e, fun i x hx => by have := h3 i x hx; exact (hk _ (by rw [this]; simp)).trans this⟩
theorem BoL.below {w w' : World} {v : Value} {hs : List Bool} (h : BoL w v hs) (hb : Below w.heap.size w w') : BoL w' v hs := h.keep fun a ha => World.cell?_of_block (hb.block a.block (cell_lt' ha))
theorem BoL.nil (w : World) : BoL w (.slice none 0 0) [] := ⟨none, 0, rfl, Nat.le_refl _, Or.inl rfl⟩
theorem BoL.form {w : World} {v : Value} {hs : List Bool} (h : BoL w v hs) : ∃ po n c, v = .slice po n c ∧ n = hs.length := by obtain ⟨po, c, h1, _⟩ := h; exact ⟨po, _, c, h1, rfl⟩
theorem BoL.at {w w' : World} {b o n c : Nat} {hs : List Bool} (h : BoL w (.slice (some ⟨b, o, none⟩) n c) hs) (hb : Below w.heap.size w w') {i : Nat} {x : Bool} (hx : hs[i]? = some x) : w'.cell? ⟨b, o + i, none⟩ = some (.bool x) := by
 obtain ⟨po, c', h1, _, h3⟩ := h.below hb
 rcases h3 with rfl | ⟨b', o', e, h3⟩
 ·simp at hx
 ·cases h1; cases e; exact h3 i x hx
theorem BoL.some {w : World} {v : Value} {hs : List Bool} (h : BoL w v hs) (hne : 0 < hs.length) : ∃ b o c, v = .slice (some ⟨b, o, none⟩) hs.length c := by
 obtain ⟨po, c, h1, _, h3⟩ := h
 rcases h3 with rfl | ⟨b, o, rfl, h3⟩
 ·simp at hne
 ·exact ⟨b, o, c, h1⟩
end Go.Proofs.YtdohmokhfajjpaaGreatDoor

/- Contracts of block.Read over lists of bytes and of sound of package shard: it yields what the files that are sound are read as, by their places. -/
namespace Go.Proofs.YtdohmokhfajjpaaGreatDoor
open Go Go.RowKit

theorem bread_any (po : Option Addr) (c : Nat) (bs : List Nat) (n : Nat) (w : World) (hb : BL w po bs) (h8 : ∀ z ∈ bs, z < 256) (hc : bs.length ≤ c) (hp : po = none → c = 0) :
  Calls Tryz.prog 78 #[.slice po bs.length c, .int .i64 (n : Int)] w (H.PartU w (rdB bs n) (rdE bs n)) :=
 H.read_any po bs.length c (fun j => bs.getD j 0) n w hc (fun e => ⟨by have := hp e; omega, hp e⟩) hb.str (fun i hi => get256 h8 i hi)
/-- A cell stays where books alone are turned. -/
theorem Rg.Tn.cell {B : Nat} {A C : World} (h : Rg.Tn B A C) {a : Addr} (ha : A.cell? a ≠ none) : C.cell? a = A.cell? a := by
 refine World.cell?_of_block ?_
 obtain ⟨o, ho, hb⟩ : ∃ o, A.heap[a.block]? = some o ∧ Rg.bkO o = false := by
  unfold World.cell? at ha
  cases hq : A.heap[a.block]? with
  | none => simp [hq] at ha
  | some o =>
   refine ⟨o, rfl, ?_⟩
   cases o <;> first | rfl | (simp [hq] at ha)
 exact h.other ho hb
theorem CAt.tn {B : Nat} {W W' : World} {b : Nat} {cs : Array Value} {t : TypeId} (h : CAt W b cs t) (ht : Rg.Tn B W W') : CAt W' b cs t := h.keep (ht.other h rfl)
/-- What is yielded. -/
def ShR (W : World) (n : Nat) (po : Option Addr) (L : List Nat) : Prop := (po = none ∧ n = 0) ∨ ∃ g, po = some ⟨g, 0, none⟩ ∧ H.RowL W g L
def En2 (n : Nat) (l : List Cv) (i : Nat) (u v : Value) (W : World) : Prop := ∃ x po, l[i]? = some x ∧ sdB n x.cp = true ∧ u = .int .i64 (i : Int) ∧ v = .slice po n n ∧ ShR W n po (rdB x.bs n)
def EnS (n : Nat) (l : List Cv) (i : Nat) (vs : Array Value) (W : World) : Prop := ∃ u v, vs = #[u, v] ∧ En2 n l i u v W
theorem sd_parts {n : Nat} {x : Cv} : sdB n x.cp = (decide (x.err = 0) && decide (rdE x.bs n = 0)) := rfl

set_option maxHeartbeats 1000000 in
theorem sound_it (B Bl Bn n : Nat) (v : Value) (l : List Cv) (I : Nat → World → Prop) (hm : ∀ i W, I i W → CAt W Bl #[v] 29 ∧ CAt W Bn #[.int .i64 (n : Int)] 3 ∧ CL W v l)
  (hskip : ∀ i x W, l[i]? = some x → sdB n x.cp = false → I i W → I (i + 1) W) : Rg.ItC Tryz.prog 77 #[ptr Bl, ptr Bn] l.length 2 (EnS n l) I B := by
 intro l2 W1 J Jx _ hJ hJx hJI hJJ hY h0
 obtain ⟨m1, m2, m3⟩ := hm 0 W1 (hJI 0 W1 h0)
 obtain ⟨po, c, rfl, _, hl1, _⟩ := m3
 obtain ⟨k, hk⟩ : ∃ k, l.length = k := ⟨_, rfl⟩
 have HK := hid hk
 rw [hk] at hm m1 hl1 hY ⊢
 have HL1 := hid hl1
 have c0 : W1.cell? ⟨Bl, 0, none⟩ = some (.slice po k c) := m1.cell 0
 refine (callsIn_wide (n := 1)).1 ?_
 refine callsIn_of_wp Tryz.func77 rfl trivial ?_ rfl
 simp only [Tryz.ntmps77, List.size_toArray, List.length_cons, List.length_nil, Nat.reduceAdd, Nat.reduceSub, Array.replicate_succ, Array.replicate_zero, List.push_toArray, List.append_toArray, List.nil_append, List.cons_append]
 clear m1 m2 hk hl1
 gi_wp2
 clear c0
 gi_loopw [10] (fun q wr => ∃ i : Nat, i ≤ k ∧ q = .int .i64 (i : Int) ∧ J i wr) (fun q _ => (1000000 - intOf q).toNat)
 case atStart => exact ⟨0, Nat.zero_le _, rfl, h0⟩
 case round =>
  obtain ⟨i, hi, rfl, hj⟩ := hrel
  have hk1 := HL1.out
  by_cases hlt : i < k
  ·obtain ⟨m1, m2, m3⟩ := hm i wr (hJI i wr hj)
   obtain ⟨⟨er, xv, bs⟩, hx⟩ : ∃ x, l[i]? = some x := ⟨_, List.getElem?_eq_getElem (by rw [HK.out]; exact hlt)⟩
   obtain ⟨b, o, c', e1, _, hcc, hok⟩ := m3.where hx
   rw [HK.out] at e1
   cases e1
   obtain ⟨⟨px, cx, hxv, hbl, hlc, hnc⟩, hxs, hx8⟩ := hok
   obtain ⟨q1, q2⟩ := hcc i _ hx
   simp only at hxv hbl hlc hxs hx8 q1 q2
   subst hxv
   have cn : wr.cell? ⟨Bn, 0, none⟩ = some (.int .i64 (n : Int)) := m2.cell 0
   have HX := hid hx
   have hi' : (i : Int) < (k : Int) := by omega
   have hw : IntKind.i64.wrap ((i : Int) + 1) = (i : Int) + 1 := IntWalk.i64_in _ ⟨by omega, by omega⟩
   have hj2 := hJ i _ _ hj (Rg.Tn.alloc W1.heap.size wr (.cells #[.int .i64 er, .slice px bs.length cx] 33))
   have HJ2 := hid hj2
   have HBL := hid (hbl.below (below_al wr (.cells #[.int .i64 er, .slice px bs.length cx] 33)))
   have HCN : (wr.alloc (.cells #[.int .i64 er, .slice px bs.length cx] 33)).cell? ⟨Bn, 0, none⟩ = some (.int .i64 (n : Int)) := (m2.below (below_al _ _)).cell 0
   have HE := hid (sd_parts (n := n) (x := ⟨er, .slice px bs.length cx, bs⟩))
   have HM := hid hm
   have HSK := hid hskip
   have HY := hid hY
   have HJJ := hid hJJ
   have HJI := hid hJI
   have HJ := hid hJ
   clear m1 m2 m3 hcc hj hj2 hm hskip hY hJJ hJI hJ hJx hbl hx
   by_cases he : er = 0
   ·subst he
    have hsk := HSK.out i _ (wr.alloc (.cells #[.int .i64 0, .slice px bs.length cx] 33)) HX.out
    by_cases hr : rdE bs n = 0
    ·have hR0 := callsIn_wide (n := 0) |>.2 (bread_any px cx bs n (wr.alloc (.cells #[.int .i64 0, .slice px bs.length cx] 33)) HBL.out hx8 hlc hnc)
     unfold H.PartU at hR0
     rw [rdB_len hr, hr] at hR0
     have HR := hid hR0
     have HSD : Hid (sdB n (Cv.cp ⟨0, .slice px bs.length cx, bs⟩) = true) := by rw [HE.out, hr]; rfl
     have HRL := hid (rdB_len hr)
     have HEN : Hid (∀ (pr : Option Addr) (w5 : World), ((pr = none ∧ rdB bs n = []) ∨ ∃ g, pr = some ⟨g, 0, none⟩ ∧ (wr.alloc (.cells #[.int .i64 0, .slice px bs.length cx] 33)).heap.size ≤ g ∧ H.RowL w5 g (rdB bs n)) → EnS n l i #[.int .i64 (i : Int), .slice pr n n] w5) := fun pr w5 hr5 => ⟨_, _, rfl, _, pr, HX.out, HSD.out, rfl, rfl, by
      rcases hr5 with ⟨h1, h2⟩ | ⟨g, h1, _, h2⟩
      ·exact .inl ⟨h1, by have h3 := HRL.out; rw [h2] at h3; exact h3.symm⟩
      ·exact .inr ⟨g, h1, h2⟩⟩
     clear hR0 hr hsk
     gi_wp2_with (refine ⟨trivial, ?_⟩; gi_at_call 78; refine CallsIn.mono HR.out ?_; rintro e w5 ⟨pr, rfl, hb5, hr5⟩; have HJ5 := hid (HJ.out i _ _ HJ2.out (Rg.Tn.below hb5)); obtain ⟨fn, tmps, assign, body, hy, hR⟩ := HY.out i _ w5 hlt rfl HJ5.out (HEN.out pr w5 hr5); clear hr5 hb5)
     refine hR.mono ?_
     rintro e W3 ⟨_, (⟨rfl, hJ3⟩ | ⟨rfl, hJx3⟩)⟩
     ·gi_wp2
      go_roundw
      case rel => exact ⟨i + 1, hlt, by congr 1, hJ3⟩
      case measure => simp [intOf]; omega
     ·gi_wp2
      refine bodyPost_ret (results_none rfl _ _ _) rfl ?_
      exact ⟨⟨_, rfl⟩, .inr hJx3⟩
    ·have HSD := hid (show sdB n (Cv.cp ⟨0, .slice px bs.length cx, bs⟩) = false from by rw [HE.out]; simp [hr])
     have hR0 := callsIn_wide (n := 0) |>.2 (bread_any px cx bs n (wr.alloc (.cells #[.int .i64 0, .slice px bs.length cx] 33)) HBL.out hx8 hlc hnc)
     generalize rdE bs n = E at hr hR0
     have HR := hid hR0
     have hE : (E == 0) = false := by simp [hr]
     have HF := hid (HJJ.out i (i + 1) _ HJ2.out (hsk HSD.out (HJI.out i _ HJ2.out)))
     clear hR0 hsk
     gi_wp2_with (refine ⟨trivial, ?_⟩; gi_at_call 78; refine CallsIn.mono HR.out ?_; rintro e w5 ⟨pr, rfl, hb5, hr5⟩; have HF5 := hid (HJ.out (i + 1) _ _ HF.out (Rg.Tn.below hb5)); clear hb5 hr5)
     refine ⟨fun _ h => (nomatch h), ?_⟩
     go_at_K
     gi_wp2
     go_roundw
     case rel => exact ⟨i + 1, hlt, by congr 1, HF5.out⟩
     case measure => simp [intOf]; omega
   ·have HSD := hid (show sdB n (Cv.cp ⟨er, .slice px bs.length cx, bs⟩) = false from by rw [HE.out]; simp [he])
    have HF := hid (HJJ.out i (i + 1) _ HJ2.out (HSK.out i _ _ HX.out HSD.out (HJI.out i _ HJ2.out)))
    gi_wp2
    go_roundw
    case rel => exact ⟨i + 1, hlt, by congr 1, HF.out⟩
    case measure => simp [intOf]; omega
  ·have hq : ¬ (i : Int) < (k : Int) := by omega
   have hk' : i = k := by omega
   gi_wp2
   go_end0
   exact ⟨⟨_, rfl⟩, .inl (hk' ▸ hj)⟩
theorem sound_any (v : Value) (n : Int) (w : World) (po : Option Addr) (m c : Nat) (hv : v = .slice po m c) : Calls Tryz.prog 53 #[v, .int .i64 n] w fun e w' => e = .returned (.func (.func 77) #[] #[ptr w.heap.size, ptr (w.heap.size + 1)]) ∧ w' = (w.alloc (.cells #[v] 29)).alloc (.cells #[.int .i64 n] 3) := by
 subst hv
 go_enter Tryz.func53, Tryz.ntmps53
 have hmf : ∀ (fn : Fn) (first cap : Array Value) (w : World), (Instr.makeFunc fn first cap).run Tryz.prog w = .ok (.func fn first cap) w := fun _ _ _ _ => rfl
 go_wp2
 go_ret
 exact ⟨by simp, rfl⟩
end Go.Proofs.YtdohmokhfajjpaaGreatDoor

/- What the loop of join of package shard carries from round to round. -/
namespace Go.Proofs.YtdohmokhfajjpaaGreatDoor
open Go Go.RowKit

theorem info_bool : (Tryz.prog.info? 4).map (fun i => (i.zero, i.size, i.bytes)) = some (some (.bool false), 1, 1) := by kernel_rfl
theorem run_makeB (n : Nat) (hn : n ≤ 1000) (w : World) : (Instr.makeSlice 25 (.int .i64 (n : Int)) (.int .i64 (n : Int))).run Tryz.prog w = .ok (.slice (some ⟨w.heap.size, 0, none⟩) n n) (w.alloc (.cells (madeCells #[.slice none 0 0] n) 22)) := by
 obtain ⟨i0, hi, hz0, hz1, hz2⟩ := info_parts U.Tryz.info22
 have h := run_make (P := Tryz.prog) w 25 22 i0 (.slice none 0 0) Tryz.underlying25 hi hz0 .i64 .i64 n n (by omega) (Int.le_refl _) (by rw [hz2]; omega) (by omega)
 rw [hz1] at h
 simpa [Value.cells] using h
theorem run_makeH (n : Nat) (hn : n ≤ 1000) (w : World) : (Instr.makeSlice 112 (.int .i64 (n : Int)) (.int .i64 (n : Int))).run Tryz.prog w = .ok (.slice (some ⟨w.heap.size, 0, none⟩) n n) (w.alloc (.cells (madeCells #[.bool false] n) 4)) := by
 obtain ⟨i0, hi, hz0, hz1, hz2⟩ := info_parts info_bool
 have h := run_make (P := Tryz.prog) w 112 4 i0 (.bool false) Tryz.underlying112 hi hz0 .i64 .i64 n n (by omega) (Int.le_refl _) (by rw [hz2]; omega) (by omega)
 rw [hz1] at h
 simpa [Value.cells] using h
theorem run_storeV (w : World) (b o : Nat) (ty : TypeId) (v : Value) (cs : Array Value) (hv : v.cells = cs) (ht : w.there b o cs.size) (hi : (Tryz.prog.info? ty).map (·.size) = some cs.size) (h1 : cs.all (·.oneCell') = true) :
  (Instr.storeAt ty (.pointer (some ⟨b, o, none⟩)) v).run Tryz.prog w = .ok () (w.setCells b o cs.toList) := by
 have := run_storeCells_cells (P := Tryz.prog) b o cs.toList 0 w (fun j hj => by simpa using (ht j (by simpa using hj)).1) (fun j hj => by simpa using (ht j (by simpa using hj)).2)
  (fun v hv => (Array.all_eq_true_iff_forall_mem.1 h1) v (by simpa using hv))
 cases hq : Tryz.prog.info? ty with
 | none => simp [hq] at hi
 | some i =>
  have hs : cs.size = i.size := by simp [hq] at hi; omega
  simp only [Nat.add_zero] at this
  simp [Instr.storeAt, Instr.sureAddr, storeVar, sizeOf, typeInfo, hq, hv, hs, this]
/-- One cell is stored in a region that draws. -/
theorem step_store1 (ty : TypeId) {t : TypeId} {w : World} {ops : Array Oper} {o : Oper} {a : Act} {K : Act → World → Prop} {Q : Exit → Act → World → Prop} {E : Prop} (hgd : o.guard = none) (hdst : o.dst = none) (x y : Operand) (ho : o.op = .store ty x y) (g off : Nat) (hx : a.eval x = .pointer (some ⟨g, off, none⟩)) (v : Value) (hy : a.eval y = v) (hv : v.cells = #[v])
  (hi : (Tryz.prog.info? ty).map (·.size) = some 1) (h1 : v.oneCell' = true) {cs : Array Value} (hb : CAt w g cs t) (hs : off < cs.size) (h : K a (w.setCell ⟨g, off, none⟩ v)) : if Region.wanted o (yielded ops a.tmps) = true then Oper.wp Tryz.prog o a w K Q else E := by
 have e1 := run_storeV w g off ty v #[v] hv (fun j hj => ⟨by rw [hb.cell, Array.getElem?_eq_getElem (by simp at hj; omega)]; rfl, hb.free _⟩) (by simpa using hi) (by simpa using h1)
 rw [if_pos (by simp [Region.wanted, hgd])]
 unfold Oper.wp execOp
 simp only [ho, hx, hy, Sem.run_bind, e1, Result.andThen_ok, Sem.run_pure]
 show K (a.put o.dst undef) _
 rw [hdst]
 exact h
/-- Rows by their places. -/
def rowF (N : Nat) (f : Nat → Value) : Array Value := ((List.range N).map f).toArray
theorem rowF_size (N : Nat) (f : Nat → Value) : (rowF N f).size = N := by simp [rowF]
theorem rowF_get {N : Nat} {f : Nat → Value} {j : Nat} (h : j < N) : (rowF N f)[j]? = some (f j) := by simp [rowF, h]
theorem rowF_set (N i : Nat) (f : Nat → Value) (v : Value) : (rowF N f).setIfInBounds i v = rowF N (fun j => if j = i then v else f j) := by
 apply Array.ext_getElem?
 intro j
 rw [Array.getElem?_setIfInBounds]
 rcases Nat.lt_or_ge j N with h | h
 ·by_cases e : i = j
  ·subst e; simp [rowF, h]
  ·rw [if_neg e, rowF_get h, rowF_get h, if_neg (fun q => e q.symm)]
 ·have h1 : (rowF N f)[j]? = none := by simp [rowF, h]
  have h2 : (rowF N (fun j => if j = i then v else f j))[j]? = none := by simp [rowF, h]
  rw [h1, h2]
  split
  ·rw [if_neg (by rw [rowF_size]; omega)]
  ·rfl
theorem rowF_congr {N : Nat} {f g : Nat → Value} (h : ∀ j, j < N → f j = g j) : rowF N f = rowF N g := by
 unfold rowF; congr 1; apply List.map_congr_left; intro j hj; exact h j (List.mem_range.1 hj)
theorem rowF_made (N : Nat) (v : Value) : madeCells #[v] N = rowF N (fun _ => v) := by
 apply Array.ext_getElem?
 intro j
 rcases Nat.lt_or_ge j N with h | h
 ·simp [rowF, madeCells, h, Nat.mod_one]
 ·simp [rowF, madeCells, h]
theorem four_at (w : World) (o0 o1 o2 o3 : Obj) : ∀ W, W = ((((w.alloc o0).alloc o1).alloc o2).alloc o3).drew → W.heap[w.heap.size]? = some o0 ∧ W.heap[w.heap.size + 1]? = some o1 ∧ W.heap[w.heap.size + 1 + 1]? = some o2 ∧ W.heap[w.heap.size + 1 + 1 + 1]? = some o3 ∧ Below w.heap.size w W := by
 rintro W rfl
 refine ⟨?_, ?_, ?_, ?_, (below_on (below_on (below_on (below_on (below_al w o0) (below_al _ o1)) (below_al _ o2)) (below_al _ o3)) (below_drew _))⟩
 ·exact (heap_alloc_old _ _ (by simp only [size_al]; omega)).trans ((heap_alloc_old _ _ (by simp only [size_al]; omega)).trans ((heap_alloc_old _ _ (by simp only [size_al]; omega)).trans (at_new w o0)))
 ·have := at_new (w.alloc o0) o1; rw [size_al] at this
  exact (heap_alloc_old _ _ (by simp only [size_al]; omega)).trans ((heap_alloc_old _ _ (by simp only [size_al]; omega)).trans this)
 ·have := at_new ((w.alloc o0).alloc o1) o2; rw [size_al, size_al] at this
  exact (heap_alloc_old _ _ (by simp only [size_al]; omega)).trans this
 ·have := at_new (((w.alloc o0).alloc o1).alloc o2) o3; rw [size_al, size_al, size_al] at this
  exact this
/-- The four new things of join. -/
structure M4 (w W : World) (b8 b9 gs gh N : Nat) : Prop where
 c8 : CAt W b8 #[.slice (some ⟨gs, 0, none⟩) N N] 25
 c9 : CAt W b9 #[.slice (some ⟨gh, 0, none⟩) N N] 112
 cs : CAt W gs (madeCells #[.slice none 0 0] N) 22
 ch : CAt W gh (madeCells #[.bool false] N) 4
 be : Below w.heap.size w W
 l8 : w.heap.size ≤ b8
 l9 : w.heap.size ≤ b9
 ls : w.heap.size ≤ gs
 lh : w.heap.size ≤ gh
def rowS (N i n k : Nat) (l : List Cp) (A : Nat → Option Addr) : Array Value := rowF N fun j => if j < i ∧ hvB n k l j = true then .slice (A j) n n else .slice none 0 0
def rowH (N i n k : Nat) (l : List Cp) : Array Value := rowF N fun j => .bool (decide (j < i) && hvB n k l j)
theorem ShR.keep {W W' : World} {n : Nat} {po : Option Addr} {L : List Nat} (h : ShR W n po L) (hk : ∀ g cs, CAt W g cs 5 → W'.heap[g]? = W.heap[g]?) : ShR W' n po L := by
 rcases h with h | ⟨g, h1, h2⟩
 ·exact .inl h
 ·exact .inr ⟨g, h1, (hk g _ h2).trans h2⟩
theorem ShR.bl {W : World} {n : Nat} {po : Option Addr} {L : List Nat} (h : ShR W n po L) (hL : L.length = n) : BL W po L := by
 rcases h with ⟨_, h⟩ | ⟨g, h1, h2⟩
 ·left; exact List.length_eq_zero_iff.1 (by omega)
 ·right
  refine ⟨g, 0, h1, fun i hi => ?_⟩
  have h3 : CAt W g (L.map H.u8).toArray 5 := h2
  rw [h3.cell]
  simp [hi, H.u8, u8]
theorem Rg.Tn.os {B : Nat} {A C : World} (h : Rg.Tn B A C) : C.os = A.os := by obtain ⟨_, hg, _⟩ := h; exact hg.os
theorem Rg.Tn.tape {B : Nat} {A C : World} (h : Rg.Tn B A C) : C.tape = A.tape := by obtain ⟨_, hg, _⟩ := h; exact hg.tape
theorem Rg.Tn.output {B : Nat} {A C : World} (h : Rg.Tn B A C) : C.output = A.output := by obtain ⟨_, hg, _⟩ := h; exact hg.output
/-- What the loop of join carries. -/
structure JI (W0 : World) (gs gh bl N n k : Nat) (l : List Cp) (i : Nat) (W : World) : Prop where
 on : Only (fun b => b = gs ∨ b = gh ∨ b = bl) W0 W
 ex : ∃ A : Nat → Option Addr, CAt W gs (rowS N i n k l A) 22 ∧ ∀ j, j < i → hvB n k l j = true → ShR W n (A j) (rdS n l j)
 hv : CAt W gh (rowH N i n k l) 4
 le : CAt W bl #[.int .i64 ((k - csN n l i : Nat) : Int)] 3
theorem cat_ne {W : World} {a b : Nat} {cs ds : Array Value} {s t : TypeId} (h : CAt W a cs s) (k : CAt W b ds t) (hst : s ≠ t) : a ≠ b := by
 rintro rfl
 unfold CAt at h k
 rw [h] at k
 cases k
 exact hst rfl
theorem JI.tn {W0 : World} {gs gh bl N n k i : Nat} {l : List Cp} {W W' : World} (h : JI W0 gs gh bl N n k l i W) (ht : Rg.Tn W0.heap.size W W') : JI W0 gs gh bl N n k l i W' where
 on := ⟨ht.os.trans h.on.os, ht.tape.trans h.on.tape, ht.output.trans h.on.output, Nat.le_trans h.on.size ht.size, fun b hb hs => (ht.low hb (Nat.lt_of_lt_of_le hb h.on.size)).trans (h.on.block b hb hs)⟩
 ex := by
  obtain ⟨A, h1, h2⟩ := h.ex
  exact ⟨A, h1.tn ht, fun j hj hv => (h2 j hj hv).keep fun g cs hc => ht.other hc rfl⟩
 hv := h.hv.tn ht
 le := h.le.tn ht
theorem JI.start {W0 : World} {gs gh bl N n k : Nat} {l : List Cp} (hs : CAt W0 gs (madeCells #[.slice none 0 0] N) 22) (hh : CAt W0 gh (madeCells #[.bool false] N) 4) (hl : CAt W0 bl #[.int .i64 (k : Int)] 3) : JI W0 gs gh bl N n k l 0 W0 where
 on := Only.refl _ _
 ex := ⟨fun _ => none, by
  rw [rowF_made] at hs
  have e : rowS N 0 n k l (fun _ => none) = rowF N (fun _ => .slice none 0 0) := by unfold rowS; apply rowF_congr; intro j _; simp
  rw [e]; exact hs, fun j hj => absurd hj (by omega)⟩
 hv := by
  rw [rowF_made] at hh
  have e : rowH N 0 n k l = rowF N (fun _ => .bool false) := by unfold rowH; apply rowF_congr; intro j _; simp
  rw [e]; exact hh
 le := hl
theorem cs_step {n : Nat} {l : List Cp} {i : Nat} {c : Cp} (h : l[i]? = some c) : csN n l (i + 1) = csN n l i + (if sdB n c = true then 1 else 0) := by
 show csN n l i + (match l[i]? with | some c => if sdB n c = true then 1 else 0 | none => 0) = _
 rw [h]
theorem JI.skip {W0 : World} {gs gh bl N n k i : Nat} {l : List Cp} {W : World} (h : JI W0 gs gh bl N n k l i W) {c : Cp} (hc : l[i]? = some c) (hs : sdB n c = false) : JI W0 gs gh bl N n k l (i + 1) W := by
 have hv : hvB n k l i = false := by unfold hvB; rw [hc]; simp [hs]
 refine ⟨h.on, ?_, ?_, ?_⟩
 ·obtain ⟨A, h1, h2⟩ := h.ex
  refine ⟨A, ?_, fun j hj hj2 => h2 j ?_ hj2⟩
  ·have e : rowS N (i + 1) n k l A = rowS N i n k l A := by
     unfold rowS
     apply rowF_congr
     intro j _
     by_cases q : j = i
     ·subst q; simp [hv]
     ·have : (j < i + 1) = (j < i) := propext ⟨fun _ => by omega, fun _ => by omega⟩
      simp only [this]
   rw [e]; exact h1
  ·rcases Nat.lt_or_ge j i with q | q
   ·exact q
   ·have : j = i := by omega
    subst this; rw [hv] at hj2; cases hj2
 ·have e : rowH N (i + 1) n k l = rowH N i n k l := by
    unfold rowH
    apply rowF_congr
    intro j _
    by_cases q : j = i
    ·subst q; simp [hv]
    ·have : (decide (j < i + 1)) = (decide (j < i)) := by simp; omega
     rw [this]
  rw [e]; exact h.hv
 ·rw [cs_step hc, hs]; exact h.le
/-- What a round leaves. -/
theorem JI.put {W0 : World} {gs gh bl N n k i : Nat} {l : List Cp} {W W3 : World} (h : JI W0 gs gh bl N n k l i W) {c : Cp} (hc : l[i]? = some c) (hs : sdB n c = true) (hlt : csN n l i < k) {po : Option Addr} (hp : ShR W n po (rdB c.b n))
  (e3 : W3 = ((W.drew.setCell ⟨gs, i, none⟩ (.slice po n n)).setCell ⟨gh, i, none⟩ (.bool true)).setCell ⟨bl, 0, none⟩ (.int .i64 ((k - csN n l (i + 1) : Nat) : Int))) : JI W0 gs gh bl N n k l (i + 1) W3 := by
 have hv : hvB n k l i = true := by unfold hvB; rw [hc]; simp [hs, hlt]
 obtain ⟨A, h1, h2⟩ := h.ex
 have n1 : gs ≠ gh := cat_ne h1 h.hv (by decide)
 have n2 : gs ≠ bl := cat_ne h1 h.le (by decide)
 have n3 : gh ≠ bl := cat_ne h.hv h.le (by decide)
 have far : ∀ g, g ≠ gs → g ≠ gh → g ≠ bl → W3.heap[g]? = W.heap[g]? := fun g q1 q2 q3 => by
  rw [e3, heap_setCell_ne _ _ _ _ q3, heap_setCell_ne _ _ _ _ q2, heap_setCell_ne _ _ _ _ q1]; rfl
 have f5 : ∀ g cs, CAt W g cs 5 → W3.heap[g]? = W.heap[g]? := fun g cs q => far g (cat_ne q h1 (by decide)) (cat_ne q h.hv (by decide)) (cat_ne q h.le (by decide))
 have d1 : CAt W.drew gs (rowS N i n k l A) 22 := h1
 have d2 : CAt W.drew gh (rowH N i n k l) 4 := h.hv
 have d3 : CAt W.drew bl #[.int .i64 ((k - csN n l i : Nat) : Int)] 3 := h.le
 have hsz : W3.heap.size = W.heap.size := by rw [e3, setCell_size, setCell_size, setCell_size]; rfl
 refine ⟨?_, ?_, ?_, ?_⟩
 ·have o1 : Only (fun b => b = gs ∨ b = gh ∨ b = bl) W W3 := by
    rw [e3]
    exact ((Only.of_below (below_drew W)).trans (Only.set _ _ _ (Or.inl rfl))).trans ((Only.set _ _ _ (Or.inr (Or.inl rfl))).trans (Only.set _ _ _ (Or.inr (Or.inr rfl))))
  exact h.on.trans o1
 ·refine ⟨fun j => if j = i then po else A j, ?_, fun j hj hj2 => ?_⟩
  ·have e : rowS N (i + 1) n k l (fun j => if j = i then po else A j) = (rowS N i n k l A).setIfInBounds i (.slice po n n) := by
     unfold rowS
     rw [rowF_set]
     apply rowF_congr
     intro j _
     by_cases q : j = i
     ·subst q; simp [hv]
     ·have : (j < i + 1) = (j < i) := propext ⟨fun _ => by omega, fun _ => by omega⟩
      simp only [this, if_neg q]
   rw [e]
   have := d1.set i (.slice po n n)
   rw [e3]
   exact (this.keep (heap_setCell_ne _ _ _ _ n1)).keep (heap_setCell_ne _ _ _ _ n2)
  ·show ShR W3 n (if j = i then po else A j) _
   by_cases q : j = i
   ·subst q
    rw [if_pos rfl]
    have : rdS n l j = rdB c.b n := by unfold rdS; rw [hc]
    rw [this]
    exact hp.keep f5
   ·rw [if_neg q]
    exact (h2 j (by omega) hj2).keep f5
 ·have e : rowH N (i + 1) n k l = (rowH N i n k l).setIfInBounds i (.bool true) := by
    unfold rowH
    rw [rowF_set]
    apply rowF_congr
    intro j _
    by_cases q : j = i
    ·subst q; simp [hv]
    ·have : (decide (j < i + 1)) = (decide (j < i)) := by simp; omega
     rw [this, if_neg q]
  rw [e, e3]
  exact (CAt.set (d2.keep (heap_setCell_ne _ _ _ _ n1.symm)) i (.bool true)).keep (heap_setCell_ne _ _ _ _ n3)
 ·rw [e3]
  have := CAt.set ((d3.keep (heap_setCell_ne _ _ _ _ n2.symm)).keep (heap_setCell_ne (W.drew.setCell ⟨gs, i, none⟩ (.slice po n n)) ⟨gh, i, none⟩ (.bool true) bl n3.symm)) 0 (.int .i64 ((k - csN n l (i + 1) : Nat) : Int))
  simpa using this
/-- What is left behind it. -/
structure JF (W0 : World) (gs gh bl N n k : Nat) (l : List Cp) (W : World) : Prop where
 on : Only (fun b => b = gs ∨ b = gh ∨ b = bl) W0 W
 ex : ∃ A : Nat → Option Addr, CAt W gs (rowS N N n k l A) 22 ∧ ∀ j, j < N → hvB n k l j = true → ShR W n (A j) (rdS n l j)
 hv : CAt W gh (rowH N N n k l) 4
theorem JI.fin {W0 : World} {gs gh bl N n k i : Nat} {l : List Cp} {W : World} (h : JI W0 gs gh bl N n k l i W) (hi : i ≤ N) (hq : i = N ∨ k ≤ csN n l i) : JF W0 gs gh bl N n k l W := by
 have hp : ∀ j, j < N → hvB n k l j = true → j < i := fun j hj hv => by
  rcases hq with rfl | hq
  ·exact hj
  ·rcases Nat.lt_or_ge j i with q | q
   ·exact q
   ·rw [hv_past hq q] at hv; cases hv
 obtain ⟨A, h1, h2⟩ := h.ex
 refine ⟨h.on, ⟨A, ?_, fun j hj hv => h2 j (hp j hj hv) hv⟩, ?_⟩
 ·have e : rowS N N n k l A = rowS N i n k l A := by
    unfold rowS
    apply rowF_congr
    intro j hj
    have : (j < N ∧ hvB n k l j = true) = (j < i ∧ hvB n k l j = true) := propext ⟨fun q => ⟨hp j hj q.2, q.2⟩, fun q => ⟨hj, q.2⟩⟩
    simp only [this]
  rw [e]; exact h1
 ·have e : rowH N N n k l = rowH N i n k l := by
    unfold rowH
    apply rowF_congr
    intro j hj
    cases hv : hvB n k l j
    ·simp
    ·simp [hj, hp j hj hv]
  rw [e]; exact h.hv
theorem JF.tn {W0 : World} {gs gh bl N n k : Nat} {l : List Cp} {W W' : World} (h : JF W0 gs gh bl N n k l W) (ht : Rg.Tn W0.heap.size W W') : JF W0 gs gh bl N n k l W' where
 on := ⟨ht.os.trans h.on.os, ht.tape.trans h.on.tape, ht.output.trans h.on.output, Nat.le_trans h.on.size ht.size, fun b hb hs => (ht.low hb (Nat.lt_of_lt_of_le hb h.on.size)).trans (h.on.block b hb hs)⟩
 ex := by
  obtain ⟨A, h1, h2⟩ := h.ex
  exact ⟨A, h1.tn ht, fun j hj hv => (h2 j hj hv).keep fun g cs hc => ht.other hc rfl⟩
 hv := h.hv.tn ht
/-- As stripe's contracts ask for it. -/
theorem JF.mat {W0 : World} {gs gh bl N n k : Nat} {l : List Cp} {W : World} (h : JF W0 gs gh bl N n k l W) (h8 : ∀ c ∈ l, ∀ z ∈ c.b, z < 256) : ∃ A, U.MatAt W (some ⟨gs, 0, none⟩) N A (fun j => if hvB n k l j = true then n else 0) (fun j => if hvB n k l j = true then n else 0) (fun i => kx (rdS n l i)) := by
 obtain ⟨A, h1, h2⟩ := h.ex
 refine ⟨fun j => if hvB n k l j = true then A j else none, ?_, fun j hj => ?_, fun j _ => Nat.le_refl _⟩
 ·right
  refine ⟨gs, 0, rfl, fun j hj => ?_⟩
  rw [Nat.zero_add, h1.cell, rowS, rowF_get hj]
  cases hv : hvB n k l j <;> simp [hj, hv]
 ·cases hv : hvB n k l j
  ·left; simp
  ·simp only [if_true]
   obtain ⟨c, hc, hs⟩ : ∃ c, l[j]? = some c ∧ sdB n c = true := by
    unfold hvB at hv
    cases hq : l[j]? with
    | none => rw [hq] at hv; simp at hv
    | some c => rw [hq] at hv; simp at hv; exact ⟨c, rfl, hv.1⟩
   have hr : rdE c.b n = 0 := by unfold sdB at hs; simp at hs; exact hs.2
   have e : rdS n l j = rdB c.b n := by unfold rdS; rw [hc]
   have hbl := (h2 j hj hv).bl (by rw [e]; exact rdB_len hr)
   have hb8 : ∀ z ∈ rdS n l j, z < 256 := by rw [e]; exact rdB_lt (h8 c (List.mem_of_getElem? hc)) hr
   rcases hbl with q | ⟨b, o, q1, q2⟩
   ·left; rw [e] at q; have := rdB_len hr; rw [q] at this; exact this.symm
   ·right
    refine ⟨b, o, q1, fun t ht => ?_⟩
    have := q2 t (by rw [e, rdB_len hr]; exact ht)
    rw [this]
    simp only [kx_val hb8]
    rfl
theorem JF.bools {W0 : World} {gs gh bl N n k : Nat} {l : List Cp} {W : World} (h : JF W0 gs gh bl N n k l W) : U.BoolsAt W (some ⟨gh, 0, none⟩) N (hvB n k l) := by
 right
 refine ⟨gh, 0, rfl, fun j hj => ?_⟩
 rw [Nat.zero_add, h.hv.cell, rowH, rowF_get hj]
 simp [hj]
end Go.Proofs.YtdohmokhfajjpaaGreatDoor
