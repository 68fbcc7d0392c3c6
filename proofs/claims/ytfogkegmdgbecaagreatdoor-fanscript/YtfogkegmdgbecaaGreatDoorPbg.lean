/- Texts laid into one, cut to what is needed: the remark ahead of each part says what is proved there. -/
import Derived.Test.YtfogkegmdgbecaaGreatDoorPbf
import Derived.Test.YtfogkegmdgbecaaGreatDoorPay
import Derived.Test.YtfogkegmdgbecaaGreatDoorPai
/- What was lent, behind a call that turns none of it. -/
namespace Go.Proofs.YtfogkegmdgbecaaGreatDoor
open Go Go.RowKit Go.Shelf
section
variable {W W1 W3 : World} {fv f1 : FsV}
theorem LoI.flE (h : LoI W W1 fv.l fv.l.length f1.v f1.l) : f1.l.map RowV.fl = fv.l.map RowV.fl := by
 have := h.fl
 rwa [List.take_of_length_le (Nat.le_refl _)] at this
theorem LoI.at1 (h : LoI W W1 fv.l fv.l.length f1.v f1.l) : f1.l = [] ∨ ∃ b, f1.po = some ⟨b, 0, none⟩ ∧ W.heap.size ≤ b ∧ b < W1.heap.size ∧ ∀ i, i < f1.l.length → W1.cell? ⟨b, i, none⟩ = some (f1.l.getD i default).v := by
 rcases Nat.eq_zero_or_pos f1.l.length with e0 | e0
 ·exact .inl (List.length_eq_zero_iff.1 e0)
 ·right
  obtain ⟨g, c, e, _, _, hc⟩ := own_get h.ow e0
  have ep : f1.po = some ⟨g, 0, none⟩ := (Value.slice.inj e).1
  have hg := own_ge h.ow g (by rw [e]; rfl)
  refine ⟨g, ep, hg.1, hg.2, fun i hi => ?_⟩
  rw [hc i hi, List.getElem?_map, List.getElem?_eq_getElem hi, getD_in _ _ _ hi]; rfl
theorem LoI.kpf (h : LoI W W1 fv.l fv.l.length f1.v f1.l) (hk : ∀ b, W.heap.size ≤ b → b < W1.heap.size → W3.heap[b]? = W1.heap[b]?) (hs : W1.heap.size ≤ W3.heap.size) : KpF W.heap.size W3 fv f1 := by
 refine ⟨?_, fun r hr => ?_, h.dj, h.flE⟩
 ·rcases h.at1 with e | ⟨b, e, h1, h2, h3⟩
  ·exact .inl e
  ·exact .inr ⟨b, e, fun i hi => (World.cell?_of_block (a := ⟨b, i, none⟩) (hk b h1 h2)).trans (h3 i hi)⟩
 ·have h1 := h.rl r hr
  refine ⟨?_, h1.cp, fun x hx => ?_⟩
  ·rcases h1.at_ with a1 | ⟨b, a1, a2, a3, ⟨cur, a4⟩, a5⟩
   ·exact .inl a1
   ·have e := hk b a2 a3
    exact .inr ⟨b, a1, a2, by omega, ⟨cur, e.trans a4⟩, fun j hj => ⟨(World.cell?_of_block (a := ⟨b, j * 2, none⟩) e).trans (a5 j hj).1, (World.cell?_of_block (a := ⟨b, j * 2 + 1, none⟩) e).trans (a5 j hj).2⟩⟩
  ·have h2 := h1.ln x hx
   exact h2.keep (hk _ h2.lt.1 h2.lt.2) hs
/-- What was lent may be handed to drives that were there ahead of it. -/
theorem LoI.fsok (h : LoI W W1 fv.l fv.l.length f1.v f1.l) {T T0 : Nat → Prop} (hf : fv.ok W T0) (hT : ∀ b, T b → b < W.heap.size) : f1.ok W1 T := by
 have hfl : ∀ r ∈ f1.l, ∀ x ∈ r.l, ∃ y : FlV, y.fl = x.fl ∧ y.ok W T0 := fun r hr x hx => by
  have hm : r.fl ∈ fv.l.map RowV.fl := by rw [← h.flE]; exact List.mem_map_of_mem hr
  obtain ⟨r2, hr2, e⟩ := List.mem_map.1 hm
  have hx2 : x.fl ∈ r2.fl := by rw [e]; exact List.mem_map_of_mem hx
  obtain ⟨y, hy, e2⟩ := List.mem_map.1 hx2
  exact ⟨y, e2, (hf.el r2 hr2).el y hy⟩
 refine ⟨?_, fun r hr => ⟨?_, fun x hx => ?_, (h.rl r hr).cp⟩⟩
 ·rcases h.at1 with e | ⟨b, e, h1, h2, h3⟩
  ·exact .inl e
  ·exact .inr ⟨b, 0, e, fun ht => by have := hT b ht; omega, fun j hj => by rw [Nat.zero_add]; exact h3 j hj⟩
 ·rcases (h.rl r hr).at_ with a1 | ⟨b, a1, a2, a3, _, a5⟩
  ·exact .inl a1
  ·exact .inr ⟨b, 0, a1, fun ht => by have := hT b ht; omega, fun j hj => by rw [Nat.zero_add]; exact a5 j hj⟩
 ·obtain ⟨y, e, hy⟩ := hfl r hr x hx
  have e1 : y.nm = x.nm := congrArg Prod.fst e
  have e2 : y.bs = x.bs := congrArg Prod.snd e
  obtain ⟨g, h1, h2, h3, h4⟩ := (h.rl r hr).ln x hx
  refine ⟨e1 ▸ hy.nl, e2 ▸ hy.b8, e2 ▸ hy.bl, by rw [h1]; exact h3.bat, fun a ha _ ht => ?_⟩
  rw [h1] at ha
  cases ha
  have := hT g ht
  omega
end
end Go.Proofs.YtfogkegmdgbecaaGreatDoor

/- CopyTexts, CopyBytes: texts and bytes of their own. -/
namespace Go.Proofs.YtfogkegmdgbecaaGreatDoor
open Go Go.RowKit Go.Shelf
set_option maxHeartbeats 4000000 in
theorem copyT_any {w : World} {po : Option Addr} {c : Nat} {ns : List Nm} (hx : TxO w po ns) (hn : ns.length ≤ 1000000) (hnil : po = none → ns = [] ∧ c = 0) :
  Calls Tryz.prog 20 #[.slice po ns.length c] w fun e w' => ∃ po' c', e = .returned (.slice po' ns.length c') ∧ TxtL w.heap.size w' (.slice po' ns.length c') ns ∧ Below w.heap.size w w' := by
 have b0 : Below w.heap.size w (w.alloc (.cells #[] 9)) := (Below.refl _ _).alloc (Nat.le_refl _) _
 obtain ⟨v1, w1, r1, t1, g1⟩ : ∃ v' w', (Builtin.append_ #[32, 32] 32 #[.slice (some ⟨w.heap.size, 0, none⟩) 0 0, .slice po ns.length c]).run Tryz.prog (w.alloc (.cells #[] 9)) = .ok v' w' ∧ TxtL w.heap.size w' v' ns ∧ (w.alloc (.cells #[] 9)).grownBy w' (Value.slice (some ⟨w.heap.size, 0, none⟩) 0 0).ownBlock := by
  by_cases e : ns = []
  ·subst e
   rcases hp : po with _ | a
   ·obtain ⟨_, e2⟩ := hnil hp
    subst e2
    obtain ⟨v', w', r, t, g, _⟩ := (tx_new0 w).app none 0 0 [] rfl (.inl ⟨rfl, rfl, rfl⟩) (by simp) (by simp)
    exact ⟨v', w', r, by simpa using t, g⟩
   ·obtain ⟨i0, hi0, hz0, hz1, hz2⟩ := info_parts Tryz.info9
    obtain ⟨v', w', hr, h3, h4, _, h5⟩ := run_append_own_at (P := Tryz.prog) (w.alloc (.cells #[] 9)) w.heap.size 32 32 9 i0 (.string ⟨#[]⟩) 1 16 Tryz.underlying32 hi0 hz0 hz1 hz2 rfl (by decide) _ 0 [] (tx_new0 w) a 0 c [] rfl (fun j u hj => by simp at hj) (fun u hu => by cases hu) (by unfold maxLen; omega) (by omega) (by simp)
    exact ⟨v', w', hr, h3, h4⟩
  ·obtain ⟨b, o, hp, h⟩ := (hx.below b0).resolve_left e
   obtain ⟨v', w', r, t, g, _⟩ := (tx_new0 w).app po ns.length c ns rfl (.inr ⟨b, o, hp, h⟩) (by simp; omega) (by simp)
   exact ⟨v', w', r, by simpa using t, g⟩
 have b1 : Below w.heap.size w w1 := below_on_grown b0 g1 (fun b hb => by cases hb; exact Nat.le_refl _)
 obtain ⟨po', c', rfl⟩ := own_form t1
 have HRUN := hid r1
 have HE := hid (And.intro t1 b1)
 clear r1 t1 g1 b1 b0 hx hnil
 go_enter Tryz.func20, Tryz.ntmps20
 go_wp2_with (first
  | (at_builtin; refine wpList_append_run _ _ 32 rfl rfl _ _ (.slice po' ns.length c') rfl rfl HRUN.out ?_; clear HRUN))
 go_ret
 exact ⟨po', c', rfl, HE.out⟩
set_option maxHeartbeats 4000000 in
theorem copyB10_any {w : World} {po : Option Addr} {c : Nat} {bs : List Nat} (hx : BAt w po bs) (hn : bs.length ≤ 1000000) :
  Calls Tryz.prog 39 #[.slice po bs.length c] w fun e w' => ∃ po' c', e = .returned (.slice po' bs.length c') ∧ w'.ownsRow w.heap.size 5 1 (.slice po' bs.length c') bs.length (bs.map Go.Proofs.YtfogkegmdgbecaaGreatDoor.u8) ∧ Below w.heap.size w w' := by
 obtain ⟨po', c', w1, r1, h1⟩ := copyB hx c (by omega)
 have HRUN := hid r1
 have HE := hid h1
 clear r1 h1 hx
 go_enter Tryz.func39, Tryz.ntmps39
 go_wp2_with (first
  | (at_builtin; refine wpList_append_run _ _ 30 rfl rfl _ _ (.slice po' bs.length c') rfl rfl HRUN.out ?_; clear HRUN))
 go_ret
 exact ⟨po', c', rfl, HE.out⟩
end Go.Proofs.YtfogkegmdgbecaaGreatDoor

/- An act; large: what it lets through. -/
namespace Go.Proofs.YtfogkegmdgbecaaGreatDoor
open Go Go.RowKit Go.Shelf

/-- An act as a value. -/
structure AcV where
 kd : Int
 wh : Int
 nn : Int
 at_ : Int
 a : Nm
 bp : Option Addr
 bc : Nat
 b : List Nat
 f : FsV
 np : Option Addr
 nc : Nat
 ns : List Nm
 is : Bool
 m : Nat
 kp : Option Addr
 kc : Nat
 ks : List Bool
abbrev AcV.cs (x : AcV) : Array Value := #[.int .i64 x.kd, .int .i64 x.wh, .int .i64 x.nn, .int .i64 x.at_, sv x.a, .slice x.bp x.b.length x.bc, x.f.v, .slice x.np x.ns.length x.nc, .bool x.is, .int .u8 (x.m : Int), .slice x.kp x.ks.length x.kc]
abbrev AcV.v (x : AcV) : Value := .agg x.cs
/-- What large lets through. -/
structure AcS (x : AcV) : Prop where
 fl : x.f.l.length ≤ 20
 nl : x.ns.length ≤ 140
 al : x.a.length ≤ 600
 bl : x.b.length ≤ 600
 kl : x.ks.length ≤ 100
 rl : ∀ i, i < x.f.l.length → (x.f.l.getD i default).l.length ≤ 10 ∧ ∀ j, j < (x.f.l.getD i default).l.length → ((x.f.l.getD i default).l.getD j default).bs.length ≤ 600 ∧ ((x.f.l.getD i default).l.getD j default).nm.length ≤ 600
/-- Files that came in, whatever their size. -/
structure FlA (w : World) (x : FlV) : Prop where
 nl : x.nm.length ≤ maxLen
 bl : x.bs.length ≤ maxLen
 b8 : ∀ y ∈ x.bs, y < 256
 bt : BAt w x.pb x.bs
structure RwA (w : World) (r : RowV) : Prop where
 at_ : r.l = [] ∨ ∃ b o, r.po = some ⟨b, o, none⟩ ∧ True ∧ ∀ j, j < r.l.length → w.cell? ⟨b, o + j * 2, none⟩ = some (sv (r.l.getD j default).nm) ∧ w.cell? ⟨b, o + j * 2 + 1, none⟩ = some (r.l.getD j default).bv
 el : ∀ x ∈ r.l, FlA w x
 cp : r.l.length ≤ r.c
 ln : r.l.length ≤ maxLen
structure FsA (w : World) (r : FsV) : Prop where
 at_ : r.l = [] ∨ ∃ b o, r.po = some ⟨b, o, none⟩ ∧ ∀ j, j < r.l.length → w.cell? ⟨b, o + j, none⟩ = some (r.l.getD j default).v
 el : ∀ x ∈ r.l, RwA w x
 ln : r.l.length ≤ maxLen
theorem FlA.below {w w' : World} {x : FlV} (h : FlA w x) (hb : Below w.heap.size w w') : FlA w' x := ⟨h.nl, h.bl, h.b8, h.bt.keepB hb⟩
theorem RwA.below {w w' : World} {r : RowV} (h : RwA w r) (hb : Below w.heap.size w w') : RwA w' r := by
 refine ⟨?_, fun x hx => (h.el x hx).below hb, h.cp, h.ln⟩
 rcases h.at_ with h1 | ⟨b, o, h1, h2, h3⟩
 ·exact .inl h1
 ·exact .inr ⟨b, o, h1, h2, fun j hj => ⟨(World.cell?_of_block (a := ⟨b, o + j * 2, none⟩) (hb.block b (cell_lt2 (h3 j hj).1))).trans (h3 j hj).1, (World.cell?_of_block (a := ⟨b, o + j * 2 + 1, none⟩) (hb.block b (cell_lt2 (h3 j hj).1))).trans (h3 j hj).2⟩⟩
theorem FsA.below {w w' : World} {r : FsV} (h : FsA w r) (hb : Below w.heap.size w w') : FsA w' r := by
 refine ⟨?_, fun x hx => (h.el x hx).below hb, h.ln⟩
 rcases h.at_ with h1 | ⟨b, o, h1, h3⟩
 ·exact .inl h1
 ·exact .inr ⟨b, o, h1, fun j hj => (World.cell?_of_block (a := ⟨b, o + j, none⟩) (hb.block b (cell_lt2 (h3 j hj)))).trans (h3 j hj)⟩
theorem FsA.row {w : World} {r : FsV} (h : FsA w r) {i : Nat} (hi : i < r.l.length) : ∃ b o, r.po = some ⟨b, o, none⟩ ∧ (∀ _ : Nat, w.cell? ⟨b, o + i, none⟩ = some (.slice (r.l.getD i default).po (r.l.getD i default).l.length (r.l.getD i default).c)) ∧ RwA w (r.l.getD i default) := by
 rcases h.at_ with h1 | ⟨b, o, h1, h3⟩
 ·rw [h1] at hi; exact absurd hi (Nat.not_lt_zero _)
 ·exact ⟨b, o, h1, fun _ => h3 i hi, h.el _ (by rw [getD_in _ _ _ hi]; exact List.getElem_mem hi)⟩
/-- Those that are small may be committed. -/
theorem FsA.ok {w : World} {r : FsV} (h : FsA w r) (hs : ∀ x ∈ r.l, ∀ y ∈ x.l, y.bs.length ≤ 1000000) : r.ok w (fun b => w.heap.size ≤ b) := by
 refine ⟨?_, fun x hx => ⟨?_, fun y hy => ?_, (h.el x hx).cp⟩⟩
 ·rcases h.at_ with h1 | ⟨b, o, h1, h3⟩
  ·exact .inl h1
  ·by_cases e : r.l = []
   ·exact .inl e
   ·exact .inr ⟨b, o, h1, fun hle => by have := cell_lt2 (h3 0 (List.length_pos_iff.2 e)); omega, h3⟩
 ·rcases (h.el x hx).at_ with h1 | ⟨b, o, h1, _, h3⟩
  ·exact .inl h1
  ·by_cases e : x.l = []
   ·exact .inl e
   ·exact .inr ⟨b, o, h1, fun hle => by have := cell_lt2 (h3 0 (List.length_pos_iff.2 e)).1; omega, h3⟩
 ·have hy' := (h.el x hx).el y hy
  refine ⟨hy'.nl, hy'.b8, hs x hx y hy, hy'.bt, fun a e hn ht => ?_⟩
  rcases hy'.bt with ⟨_, h2⟩ | ⟨a', h1, h2⟩
  ·exact hn h2
  ·rw [h1] at e; cases e
   have := h2 0 (List.length_pos_iff.2 hn)
   have := cell_lt' (w := w) (a := a.add 0) (by rw [this]; simp)
   rw [add_block] at this
   omega
def LgAt (W : World) (x : AcV) (e : Ending) (w' : World) : Prop := ∃ r : Bool, e = .returned (.bool r) ∧ Below W.heap.size W w' ∧ (r = false → AcS x)
set_option maxHeartbeats 8000000 in
set_option maxRecDepth 100000 in
theorem large10_any {W : World} {x : AcV} (hf : FsA W x.f) (hal : x.a.length ≤ maxLen) (hbl : x.b.length ≤ maxLen) (hnl : x.ns.length ≤ maxLen) (hkl : x.ks.length ≤ maxLen) :
  Calls Tryz.prog 5 #[x.v] W (LgAt W x) := by
 have hfl := hf.ln
 have hrl := fun (r : RowV) (hr : r ∈ x.f.l) => (hf.el r hr).ln
 have HT : Hid (∀ w', Below W.heap.size W w' → LgAt W x (.returned (.bool true)) w') := hid (fun w' hb => ⟨true, rfl, hb, fun e => by cases e⟩)
 have HF : Hid (∀ w', Below W.heap.size W w' → AcS x → LgAt W x (.returned (.bool false)) w') := hid (fun w' hb h => ⟨false, rfl, hb, fun _ => h⟩)
 generalize LgAt W x = PP at *
 obtain ⟨kd, wh, nn, at_, a, bp, bc, b, ⟨fpo, fc, rows⟩, np, nc, ns, is, m, kp, kc, ks⟩ := x
 dsimp only [AcV.v, AcV.cs, FsV.v] at *
 unfold maxLen at *
 have hb0 : Below W.heap.size W (W.alloc (.cells #[.int .i64 kd, .int .i64 wh, .int .i64 nn, .int .i64 at_, sv a, .slice bp b.length bc, .slice fpo rows.length fc, .slice np ns.length nc, .bool is, .int .u8 (m : Int), .slice kp ks.length kc] 35)) := (Below.refl _ _).alloc (Nat.le_refl _) _
 have hbx : CAt (W.alloc (.cells #[.int .i64 kd, .int .i64 wh, .int .i64 nn, .int .i64 at_, sv a, .slice bp b.length bc, .slice fpo rows.length fc, .slice np ns.length nc, .bool is, .int .u8 (m : Int), .slice kp ks.length kc] 35)) W.heap.size #[.int .i64 kd, .int .i64 wh, .int .i64 nn, .int .i64 at_, sv a, .slice bp b.length bc, .slice fpo rows.length fc, .slice np ns.length nc, .bool is, .int .u8 (m : Int), .slice kp ks.length kc] 35 := CAt.made _ _ _
 have c6 : (W.alloc (.cells #[.int .i64 kd, .int .i64 wh, .int .i64 nn, .int .i64 at_, sv a, .slice bp b.length bc, .slice fpo rows.length fc, .slice np ns.length nc, .bool is, .int .u8 (m : Int), .slice kp ks.length kc] 35)).cell? ⟨W.heap.size, 6, none⟩ = some (.slice fpo rows.length fc) := hbx.cell 6
 have HROW := hid (fun i (hi : i < rows.length) => (hf.below (w' := W.alloc (.cells #[.int .i64 kd, .int .i64 wh, .int .i64 nn, .int .i64 at_, sv a, .slice bp b.length bc, .slice fpo rows.length fc, .slice np ns.length nc, .bool is, .int .u8 (m : Int), .slice kp ks.length kc] 35)) hb0).row hi)
 have HB0 := hid hb0
 have HRL := hid (fun i (hi : i < rows.length) => hrl (rows.getD i default) (by rw [getD_in _ _ _ hi]; exact List.getElem_mem hi))
 clear hb0 hbx hf hrl
 by_cases hbig : ((((rows.length : Int) ≤ 20 ∧ (ns.length : Int) ≤ 140) ∧ (a.length : Int) ≤ 600) ∧ (b.length : Int) ≤ 600) ∧ (ks.length : Int) ≤ 100
 ·obtain ⟨⟨⟨⟨q1, q2⟩, q3⟩, q4⟩, q5⟩ := hbig
  go_enter Tryz.func5, Tryz.ntmps5
  go_wp2
  generalize W.alloc (.cells #[.int .i64 kd, .int .i64 wh, .int .i64 nn, .int .i64 at_, sv a, .slice bp b.length bc, .slice fpo rows.length fc, .slice np ns.length nc, .bool is, .int .u8 (m : Int), .slice kp ks.length kc] 35) = B0 at *
  have HF2 : Hid ((∀ i, i < rows.length → (rows.getD i default).l.length ≤ 10 ∧ ∀ j, j < (rows.getD i default).l.length → ((rows.getD i default).l.getD j default).bs.length ≤ 600 ∧ ((rows.getD i default).l.getD j default).nm.length ≤ 600) → PP (.returned (.bool false)) B0) := hid (fun h => HF.out _ HB0.out ⟨by dsimp only; omega, by dsimp only; omega, by dsimp only; omega, by dsimp only; omega, by dsimp only; omega, h⟩)
  have HT2 := hid (HT.out _ HB0.out)
  clear HF HT HB0 hal hbl hnl hkl q2 q3 q4 q5
  go_loopg [3] rows.length (fun gg v wr => ∃ i : Nat, i ≤ rows.length ∧ rows.length - i ≤ gg ∧ v = .int .i64 (i : Int) ∧ Hid (B0 = wr) ∧ Hid (∀ i', i' < i → (rows.getD i' default).l.length ≤ 10 ∧ ∀ j, j < (rows.getD i' default).l.length → ((rows.getD i' default).l.getD j default).bs.length ≤ 600 ∧ ((rows.getD i' default).l.getD j default).nm.length ≤ 600))
  case atStart => exact ⟨0, Nat.zero_le _, by omega, rfl, hid rfl, hid (fun i' hi' => absurd hi' (Nat.not_lt_zero _))⟩
  case round =>
   obtain ⟨i, hi, hgg, rfl, BW, HA⟩ := hrel
   have hwr := BW.out
   subst hwr
   clear BW
   by_cases hlt : i < rows.length
   ·have hlt' : (i : Int) < (rows.length : Int) := by omega
    have hi2 : (i : Int) < 1000 := by omega
    obtain ⟨bf, fo, hp, hcl, hrow⟩ := HROW.out i hlt
    subst hp
    have y0 : B0.cell? ⟨bf, fo + i, none⟩ = some (.slice (rows.getD i default).po (rows.getD i default).l.length (rows.getD i default).c) := hcl 0
    have HRO := hid hrow
    have hrli := HRL.out i hlt
    have HNX : Hid (((rows.getD i default).l.length ≤ 10 ∧ ∀ j, j < (rows.getD i default).l.length → ((rows.getD i default).l.getD j default).bs.length ≤ 600 ∧ ((rows.getD i default).l.getD j default).nm.length ≤ 600) → ∀ i', i' < i + 1 → (rows.getD i' default).l.length ≤ 10 ∧ ∀ j, j < (rows.getD i' default).l.length → ((rows.getD i' default).l.getD j default).bs.length ≤ 600 ∧ ((rows.getD i' default).l.getD j default).nm.length ≤ 600) := hid (fun h i' hi' => by
     rcases Nat.lt_or_ge i' i with q | q
     ·exact HA.out i' q
     ·have : i' = i := by omega
      subst this; exact h)
    clear hcl hrow HROW HRL HF2
    generalize rows.getD i default = row at y0 HRO hrli HNX
    obtain ⟨rpo, rc, l⟩ := row
    dsimp only at y0 HRO hrli HNX
    by_cases h10 : (l.length : Int) ≤ 10
    ·go_wp2
     go_loopg [4] l.length (fun gg v wq => ∃ j : Nat, j ≤ l.length ∧ l.length - j ≤ gg ∧ v = .int .i64 (j : Int) ∧ Hid (B0 = wq) ∧ Hid (∀ j', j' < j → (l.getD j' default).bs.length ≤ 600 ∧ (l.getD j' default).nm.length ≤ 600))
     case atStart => exact ⟨0, Nat.zero_le _, by omega, rfl, hid rfl, hid (fun j' hj' => absurd hj' (Nat.not_lt_zero _))⟩
     case round =>
      obtain ⟨j, hj, hgj, rfl, BW, HJ⟩ := hrel
      have hwr := BW.out
      subst hwr
      clear BW
      by_cases hjl : j < l.length
      ·have hjl' : (j : Int) < (l.length : Int) := by omega
       have hj2 : (j : Int) < 1000 := by omega
       obtain ⟨br, or_, hp, z1, z2⟩ : ∃ b o, rpo = some ⟨b, o, none⟩ ∧ B0.cell? ⟨b, o + j * 2, none⟩ = some (sv (l.getD j default).nm) ∧ B0.cell? ⟨b, o + j * 2 + 1, none⟩ = some (l.getD j default).bv := by
        rcases HRO.out.at_ with h | ⟨b, o, h1, _, h3⟩
        ·rw [show l = [] from h] at hjl; exact absurd hjl (Nat.not_lt_zero _)
        ·exact ⟨b, o, h1, h3 j hjl⟩
       subst hp
       have hok := HRO.out.el (l.getD j default) (by rw [getD_in _ _ _ hjl]; exact List.getElem_mem hjl)
       have hzn := hok.nl
       have hzb := hok.bl
       have HJX : Hid (((l.getD j default).bs.length ≤ 600 ∧ (l.getD j default).nm.length ≤ 600) → ∀ j', j' < j + 1 → (l.getD j' default).bs.length ≤ 600 ∧ (l.getD j' default).nm.length ≤ 600) := hid (fun h j' hj' => by
        rcases Nat.lt_or_ge j' j with q | q
        ·exact HJ.out j' q
        ·have : j' = j := by omega
         subst this; exact h)
       clear hok HNX
       generalize l.getD j default = z at z1 z2 hzn hzb HJX
       obtain ⟨znm, zpb, zcb, zbs⟩ := z
       dsimp only [FlV.bv] at z1 z2 hzn hzb HJX
       unfold maxLen at hzn
       by_cases h6 : (zbs.length : Int) ≤ 600 ∧ (znm.length : Int) ≤ 600
       ·obtain ⟨h61, h62⟩ := h6
        go_wp2
        go_roundg (l.length - (j + 1))
        case measure => omega
        case rel => exact ⟨j + 1, by omega, by omega, by go_num, hid rfl, hid (HJX.out ⟨by omega, by omega⟩)⟩
       ·go_wp2
        all_goals first | exact HT2.out | (exfalso; omega)
      ·have hjl' : ¬ (j : Int) < (l.length : Int) := by omega
       have hje : j = l.length := by omega
       have HE := hid (HNX.out ⟨by omega, fun j' hj' => HJ.out j' (by omega)⟩)
       clear HNX
       go_wp2
       go_roundg (rows.length - (i + 1))
       case measure => omega
       case rel => exact ⟨i + 1, by omega, by omega, by go_num, hid rfl, HE⟩
    ·go_wp2
     all_goals first | exact HT2.out | (exfalso; omega)
   ·have hlt' : ¬ (i : Int) < (rows.length : Int) := by omega
    have HE := hid (HF2.out (fun i' hi' => HA.out i' (by omega)))
    go_wp2
    first | exact HE.out | trivial
 ·go_enter Tryz.func5, Tryz.ntmps5
  go_wp2
  all_goals first | exact HT.out _ HB0.out | (exfalso; omega)
end Go.Proofs.YtfogkegmdgbecaaGreatDoor

/- call of FanScript: acts that are no call. -/
namespace Go.Proofs.YtfogkegmdgbecaaGreatDoor
open Go Go.RowKit Go.Shelf
set_option maxHeartbeats 8000000 in
set_option maxRecDepth 100000 in
theorem call_none (W : World) (dv wv : Value) (x : AcV) (h0 : x.kd ≠ 0) (h1 : x.kd ≠ 1) (h2 : x.kd ≠ 2) (h3 : x.kd ≠ 3) (h5 : x.kd ≠ 5) :
  Calls Tryz.prog 6 #[.agg #[dv, wv], x.v] W fun e w' => e = .returned (.bool true) ∧ Below W.heap.size W w' := by
 obtain ⟨kd, wh, nn, at_, a, bp, bc, b, ⟨fpo, fc, rows⟩, np, nc, ns, is, m, kp, kc, ks⟩ := x
 dsimp only [AcV.v, AcV.cs, FsV.v] at *
 have HB : Hid (∀ o1 o2, Below W.heap.size W ((W.alloc o1).alloc o2)) := hid (fun o1 o2 => ((Below.refl W.heap.size W).alloc (Nat.le_refl _) _).alloc (by simp only [size_al]; omega) _)
 go_enter Tryz.func6, Tryz.ntmps6
 go_wp2
 go_ret
 exact ⟨by first | rfl | trivial, HB.out _ _⟩
end Go.Proofs.YtfogkegmdgbecaaGreatDoor

/- call of FanScript: Names. -/
namespace Go.Proofs.YtfogkegmdgbecaaGreatDoor
open Go Go.RowKit Go.Shelf
set_option maxHeartbeats 8000000 in
set_option maxRecDepth 100000 in
theorem call_names {w W : World} {k : Nat} {p q : Nat → Nat} {X : FS} {dv wv : Value} {Z : Nat → Prop} (h : FY w k p q X X dv wv Z W) (hk : k ≤ 18) (hE : Erh w) (hB : ∀ i, i < k → (X.d i).F.length ≤ 50000) (x : AcV) (h5 : x.kd = 5) (hN : (nmR k X x.a).length ≤ 1000000) :
  Calls Tryz.prog 6 #[.agg #[dv, wv], x.v] W fun e w' => e = .returned (.bool true) ∧ Below W.heap.size W w' := by
 obtain ⟨kd, wh, nn, at_, a, bp, bc, b, ⟨fpo, fc, rows⟩, np, nc, ns, is, m, kp, kc, ks⟩ := x
 dsimp only [AcV.v, AcV.cs, FsV.v] at *
 subst h5
 have HP : Hid (∀ W', Below W.heap.size W W' → Calls Tryz.prog 24 #[dv, sv a] W' (ListAt W' (nmE k X) (nmR k X a))) := hid (fun W' hb => by
  obtain ⟨T, U, h1, h2, h3, h4, h5, h6⟩ := (h.below hb).ex
  exact fnames_any h1 (h4.keep (fun _ _ _ => rfl) (fun _ _ h => .inl h)) (by omega) hE hB a)
 have HR : Hid (∀ W', Below W.heap.size W W' → Calls Tryz.prog 25 #[wv, sv a] W' (ListAt W' (nmE k X) (nmR k X a))) := hid (fun W' hb => by
  obtain ⟨T, U, h1, h2, h3, h4, h5, h6⟩ := (h.below hb).ex
  exact rfnames_any h2 (h5.keep (fun _ _ _ => rfl) (fun _ _ h => .inr h)) (by omega) hB a)
 have HB : Hid (∀ o1 o2, Below W.heap.size W ((W.alloc o1).alloc o2)) := hid (fun o1 o2 => ((Below.refl W.heap.size W).alloc (Nat.le_refl _) _).alloc (by simp only [size_al]; omega) _)
 have HL := hid hN
 obtain ⟨dp, dc, hdv⟩ := h.dls.form
 obtain ⟨wp, wc, hwv⟩ := h.wls.form
 clear h hN hB hE
 generalize nmR k X a = L at *
 generalize nmE k X = E at *
 subst hdv
 subst hwv
 have e1 : (W.alloc (.cells #[.slice dp k dc, .slice wp k wc] 26)).heap.size = W.heap.size + 1 := by simp
 have hb2 : Below (W.heap.size + 1) (W.alloc (.cells #[.slice dp k dc, .slice wp k wc] 26)) ((W.alloc (.cells #[.slice dp k dc, .slice wp k wc] 26)).alloc (.cells #[.int .i64 5, .int .i64 wh, .int .i64 nn, .int .i64 at_, sv a, .slice bp b.length bc, .slice fpo rows.length fc, .slice np ns.length nc, .bool is, .int .u8 (m : Int), .slice kp ks.length kc] 35)) := e1 ▸ (Below.refl _ _).alloc (Nat.le_refl _) _
 have c1 : ((W.alloc (.cells #[.slice dp k dc, .slice wp k wc] 26)).alloc (.cells #[.int .i64 5, .int .i64 wh, .int .i64 nn, .int .i64 at_, sv a, .slice bp b.length bc, .slice fpo rows.length fc, .slice np ns.length nc, .bool is, .int .u8 (m : Int), .slice kp ks.length kc] 35)).cell? ⟨W.heap.size, 1, none⟩ = some (.slice wp k wc) := (World.cell?_of_block (a := ⟨W.heap.size, 1, none⟩) (hb2.block W.heap.size (by omega))).trans ((CAt.made W _ _).cell 1)
 have c2 : ((W.alloc (.cells #[.slice dp k dc, .slice wp k wc] 26)).alloc (.cells #[.int .i64 5, .int .i64 wh, .int .i64 nn, .int .i64 at_, sv a, .slice bp b.length bc, .slice fpo rows.length fc, .slice np ns.length nc, .bool is, .int .u8 (m : Int), .slice kp ks.length kc] 35)).cell? ⟨W.heap.size + 1, 4, none⟩ = some (sv a) := e1 ▸ (CAt.made (W.alloc (.cells #[.slice dp k dc, .slice wp k wc] 26)) #[.int .i64 5, .int .i64 wh, .int .i64 nn, .int .i64 at_, sv a, .slice bp b.length bc, .slice fpo rows.length fc, .slice np ns.length nc, .bool is, .int .u8 (m : Int), .slice kp ks.length kc] 35).cell 4
 have HC : Hid (∀ w', Below ((W.alloc (.cells #[.slice dp k dc, .slice wp k wc] 26)).alloc (.cells #[.int .i64 5, .int .i64 wh, .int .i64 nn, .int .i64 at_, sv a, .slice bp b.length bc, .slice fpo rows.length fc, .slice np ns.length nc, .bool is, .int .u8 (m : Int), .slice kp ks.length kc] 35)).heap.size ((W.alloc (.cells #[.slice dp k dc, .slice wp k wc] 26)).alloc (.cells #[.int .i64 5, .int .i64 wh, .int .i64 nn, .int .i64 at_, sv a, .slice bp b.length bc, .slice fpo rows.length fc, .slice np ns.length nc, .bool is, .int .u8 (m : Int), .slice kp ks.length kc] 35)) w' → w'.cell? ⟨W.heap.size, 1, none⟩ = some (.slice wp k wc) ∧ w'.cell? ⟨W.heap.size + 1, 4, none⟩ = some (sv a)) := hid (fun w' hb => ⟨(World.cell?_of_block (a := ⟨W.heap.size, 1, none⟩) (hb.block _ (cell_lt2 c1))).trans c1, (World.cell?_of_block (a := ⟨W.heap.size + 1, 4, none⟩) (hb.block _ (cell_lt2 c2))).trans c2⟩)
 clear c1 c2 hb2 e1
 go_enter Tryz.func6, Tryz.ntmps6
 go_wp2_with fail
 refine (HP.out _ (HB.out _ _)).mono ?_
 rintro e w1 ⟨po1, pc1, rfl, ht1, hb1⟩
 have hc1 := HC.out w1 hb1
 obtain ⟨hc2, hc3⟩ := hc1
 have HB1 := hid (below_on _ _ (HB.out _ _) hb1)
 have HT1 := hid ht1
 clear ht1 hb1 HC HP HB
 go_wp2_with fail
 refine (HR.out _ HB1.out).mono ?_
 rintro e w2 ⟨po2, pc2, rfl, ht2, hb2⟩
 have HB2 := hid (below_on _ _ HB1.out hb2)
 have HT2 := hid ht2
 have HT3 := hid (ownsRow_keep HT1.out fun b hb' => hb2.block b (own_ge HT1.out b hb').2)
 clear ht2 hb2 HR HT1
 go_wp2_with fail
 refine (sameTexts_true _ _ L _ (Nat.le_trans HL.out (by omega)) (TxtL.at HT3.out) (TxtL.at HT2.out)).mono ?_
 rintro e w3 ⟨rfl, kk, rfl⟩
 have HB3 := hid (below_on _ _ HB2.out (below_drewN w2 kk))
 clear HT3 HT2 HB2
 go_wp2
 go_ret
 exact ⟨by first | rfl | trivial, HB3.out⟩
end Go.Proofs.YtfogkegmdgbecaaGreatDoor
