/- Texts laid into one, cut to what is needed: the remark ahead of each part says what is proved there. -/
import Derived.Test.YtopibkoklagceaaGreatQau
import Derived.Test.YtopibkoklagceaaGreatQar
import Derived.Deep.RegionWith
/- Texts laid into one: the remark ahead of each part says what is proved there. -/
/- Contracts of scale and take of the document's own answer: a row is multiplied; a multiple of another row is added to it; no other block is touched. -/
namespace Go.Proofs.YtopibkoklagceaaGreat.U
open Go.RowKit

theorem rmul_k (a b : K) (w : World) : Calls Tryz.prog 79 #[.int .u8 ((a.val : Nat) : Int), .int .u8 ((b.val : Nat) : Int)] w fun e w' => e = .returned (.int .u8 (((a * b).val : Nat) : Int)) ∧ w' = w :=
 rmul_any _ _ w (by omega) (by have := a.lt; omega) (by omega) (by have := b.lt; omega)
theorem rinv_k (a : K) (w : World) : Calls Tryz.prog 78 #[.int .u8 ((a.val : Nat) : Int)] w fun e w' => e = .returned (.tuple #[.int .u8 (((K.iv a).val : Nat) : Int), .int .i64 (invE a.val)]) ∧ w' = w := by
 rw [← invV_k]
 exact rinv_any _ w (by omega) (by have := a.lt; omega)
theorem xor_k (a b : K) : bits BinOp.xor IntKind.u8 ((a.val : Nat) : Int) ((b.val : Nat) : Int) = (((a + b).val : Nat) : Int) := u8_xor_nat _ _ a.lt b.lt

theorem OnlyIn.drew {S : Nat → Prop} {w w' : World} (h : OnlyIn S w w') : OnlyIn S w w'.drew := ⟨h.os, h.tape, h.output, h.size, h.block⟩
/-- Row r multiplied as far as k. -/
def scTo (T : Nat → Nat → K) (r k : Nat) (b : K) : Nat → Nat → K := fun i c => if i = r ∧ c < k then T r c * b else T i c
theorem scTo_at (T : Nat → Nat → K) (r k : Nat) (b : K) : scTo T r k b r k = T r k := by unfold scTo; rw [if_neg (by omega)]
theorem scTo_step (T : Nat → Nat → K) (r k : Nat) (b : K) (i c : Nat) : up2 (scTo T r k b) r k (scTo T r k b r k * b) i c = scTo T r (k + 1) b i c := by
 rw [scTo_at]; unfold up2 scTo
 by_cases e : i = r ∧ c = k
 ·obtain ⟨rfl, rfl⟩ := e; simp
 ·rw [if_neg e]
  by_cases q : i = r ∧ c < k
  ·rw [if_pos q, if_pos (by omega)]
  ·rw [if_neg q, if_neg (by omega)]

set_option maxRecDepth 100000 in
set_option maxHeartbeats 1000000 in
theorem scale_any (B g c n m r : Nat) (G Q : Nat → Nat) (T : Nat → Nat → K) (b : K) (w : World) (h : OwnMat B w g c n m G Q T) (hr : r < n) (hm : m ≤ 32) :
  Calls Tryz.prog 126 #[.slice (some ⟨G r, 0, none⟩) m (Q r), .int .u8 ((b.val : Nat) : Int)] w fun e w' => e = .returned (.tuple #[]) ∧ OwnMat B w' g c n m G Q (scR T r b) ∧ OnlyIn (fun k => k = G r) w w' := by
 have HM := hid h
 clear h
 go_enter Tryz.func126, Tryz.ntmps126
 go_wp2
 go_loopw [4] (fun x wr => ∃ k : Nat, k ≤ m ∧ x = .int .i64 k ∧ OwnMat B wr g c n m G Q (scTo T r k b) ∧ OnlyIn (fun k => k = G r) w wr) (fun x _ => (m - intOf x).toNat)
 case atStart => exact ⟨0, by omega, rfl, HM.out.congr (fun i _ j _ => by unfold scTo; rw [if_neg (by omega)]), OnlyIn.refl _ _⟩
 case round =>
  clear HM
  obtain ⟨k, hk, rfl, hm1, ho⟩ := hrel
  by_cases hlt : k < m
  ·have c1 := hm1.cell r k hr hlt
   have c2 := hm1.free r k hr
   have HM := hid ((hm1.set r k (scTo T r k b r k * b) hr).congr (fun i _ c _ => scTo_step T r k b i c))
   have HO := hid (ho.setCell (G r) k rfl (.int .u8 (((scTo T r k b r k * b).val : Nat) : Int)))
   clear hm1 ho
   go_wp2_with (go_at_call 79; refine (rmul_k _ _ _).mono ?_; rintro e w' ⟨rfl, rfl⟩)
   go_roundw
   case rel => exact ⟨k + 1, by omega, by go_num, HM.out, HO.out⟩
   case measure => simp [intOf]; omega
  ·have HM := hid (hm1.congr (Y := scR T r b) (fun i hi j hj => by
     unfold scTo scR
     by_cases e : i = r
     ·rw [if_pos ⟨e, by omega⟩, if_pos e]
     ·rw [if_neg (fun q => e q.1), if_neg e]))
   have HO := hid ho
   clear hm1 ho
   go_wp2
   go_end0
   exact ⟨rfl, HM.out, HO.out⟩

/-- A multiple of row r added to row i, as far as k. -/
def tkTo (T : Nat → Nat → K) (i r k : Nat) (b : K) : Nat → Nat → K := fun a c => if a = i ∧ c < k then T i c + T r c * b else T a c
def tkR (T : Nat → Nat → K) (i r : Nat) (b : K) : Nat → Nat → K := fun a c => if a = i then T i c + T r c * b else T a c
theorem tkTo_step (T : Nat → Nat → K) (i r k : Nat) (b : K) (h : i ≠ r) (a c : Nat) : up2 (tkTo T i r k b) i k (tkTo T i r k b i k + tkTo T i r k b r k * b) a c = tkTo T i r (k + 1) b a c := by
 have e1 : tkTo T i r k b i k = T i k := by unfold tkTo; rw [if_neg (by omega)]
 have e2 : tkTo T i r k b r k = T r k := by unfold tkTo; rw [if_neg (by omega)]
 rw [e1, e2]
 unfold up2 tkTo
 by_cases e : a = i ∧ c = k
 ·obtain ⟨rfl, rfl⟩ := e; simp
 ·rw [if_neg e]
  by_cases q : a = i ∧ c < k
  ·rw [if_pos q, if_pos (by omega)]
  ·rw [if_neg q, if_neg (by omega)]

set_option maxRecDepth 100000 in
set_option maxHeartbeats 4000000 in
theorem take_any (B g c n m i r : Nat) (G Q : Nat → Nat) (T : Nat → Nat → K) (b : K) (w : World) (h : OwnMat B w g c n m G Q T) (hi : i < n) (hr : r < n) (hne : i ≠ r) (hm : m ≤ 32) :
  Calls Tryz.prog 127 #[.slice (some ⟨G i, 0, none⟩) m (Q i), .slice (some ⟨G r, 0, none⟩) m (Q r), .int .u8 ((b.val : Nat) : Int)] w fun e w' => e = .returned (.tuple #[]) ∧ OwnMat B w' g c n m G Q (tkR T i r b) ∧ OnlyIn (fun k => k = G i) w w' := by
 have HM := hid h
 clear h
 go_enter Tryz.func127, Tryz.ntmps127
 go_wp2
 go_loopw [6] (fun x wr => ∃ k : Nat, k ≤ m ∧ x = .int .i64 k ∧ OwnMat B wr g c n m G Q (tkTo T i r k b) ∧ OnlyIn (fun k => k = G i) w wr) (fun x _ => (m - intOf x).toNat)
 case atStart => exact ⟨0, by omega, rfl, HM.out.congr (fun i _ j _ => by unfold tkTo; rw [if_neg (by omega)]), OnlyIn.refl _ _⟩
 case round =>
  clear HM
  obtain ⟨k, hk, rfl, hm1, ho⟩ := hrel
  by_cases hlt : k < m
  ·have c1 := hm1.cell i k hi hlt
   have c2 := hm1.free i k hi
   have c3 := hm1.cell r k hr hlt
   have hx := xor_k (tkTo T i r k b i k) (tkTo T i r k b r k * b)
   have HM := hid ((hm1.set i k (tkTo T i r k b i k + tkTo T i r k b r k * b) hi).congr (fun a _ c _ => tkTo_step T i r k b hne a c))
   have HO := hid (ho.setCell (G i) k rfl (.int .u8 (((tkTo T i r k b i k + tkTo T i r k b r k * b).val : Nat) : Int)))
   have hlt' : (k : Int) < (m : Int) := by omega
   have hk0 : (0 : Int) ≤ (k : Int) := by omega
   clear hm1 ho
   go_wp2_with fail
   go_region_with ((go_at_call 79; refine (rmul_k _ _ _).mono ?_; rintro e w' ⟨rfl, rfl⟩))
   all_goals (go_wp2; go_roundw; (case rel => exact ⟨k + 1, by omega, by go_num, HM.out.drew, HO.out.drew⟩); (case measure => simp [intOf]; omega))
  ·have HM := hid (hm1.congr (Y := tkR T i r b) (fun a ha j hj => by
     unfold tkTo tkR
     by_cases e : a = i
     ·rw [if_pos ⟨e, by omega⟩, if_pos e]
     ·rw [if_neg (fun q => e q.1), if_neg e]))
   have HO := hid ho
   clear hm1 ho
   go_wp2
   go_end0
   exact ⟨rfl, HM.out, HO.out⟩
end Go.Proofs.YtopibkoklagceaaGreat.U

/- Rows that are appended one by one to a list that was nil; contracts of one, copied and Check of the document's own answer: as the program's; what was there is as it was. -/
namespace Go.Proofs.YtopibkoklagceaaGreat.U
open Go.RowKit

/-- n rows that the call has made: row i's value has length M i and capacity C i; of its block N i numbers are known. -/
structure OwnV (B : Nat) (w : World) (v : Value) (n : Nat) (G M C N Q : Nat → Nat) (Y : Nat → Nat → K) : Prop where
 top : w.ownsRow B 22 1 v n (vals n fun i => .slice (some ⟨G i, 0, none⟩) (M i) (C i))
 row : ∀ i, i < n → w.ownsRow B 5 1 (.slice (some ⟨G i, 0, none⟩) (N i) (Q i)) (N i) (vals (N i) fun j => kv (Y i j))
 inj : ∀ i j, i < n → j < n → G i = G j → i = j
theorem OwnV.start (B : Nat) (w : World) (G M C N Q : Nat → Nat) (Y : Nat → Nat → K) : OwnV B w (.slice none 0 0) 0 G M C N Q Y :=
 ⟨World.ownsRow_nil _ _ _ _, fun i hi => absurd hi (by omega), fun i j hi => absurd hi (by omega)⟩
theorem OwnV.push {B : Nat} {w w1 w4 : World} {v v' : Value} {n : Nat} {G M C N Q : Nat → Nat} {Y : Nat → Nat → K} {o : Obj} (h : OwnV B w v n G M C N Q Y) (hb : Below w.heap.size w w1) (g1 c1 q1 : Nat) (hg1 : w.heap.size ≤ g1)
  (hr : w1.ownsRow B 5 1 (.slice (some ⟨g1, 0, none⟩) (N n) q1) (N n) (vals (N n) fun j => kv (Y n j))) (hgrow : (w1.alloc o).grownBy w4 v.ownBlock) (hown : w4.ownsRow B 22 1 v' (n + 1) (vals n (fun i => .slice (some ⟨G i, 0, none⟩) (M i) (C i)) ++ [.slice (some ⟨g1, 0, none⟩) (M n) c1])) :
  OwnV B w4 v' (n + 1) (upd G n g1) M (upd C n c1) N (upd Q n q1) Y where
 top := by
  have e : vals n (fun i => .slice (some ⟨G i, 0, none⟩) (M i) (C i)) ++ [.slice (some ⟨g1, 0, none⟩) (M n) c1] = vals (n + 1) fun i => .slice (some ⟨upd G n g1 i, 0, none⟩) (M i) (upd C n c1 i) := by
   rw [vals_succ]
   congr 1
   ·refine vals_congr (fun i hi => ?_)
    unfold upd; rw [if_neg (by omega), if_neg (by omega)]
   ·unfold upd; rw [if_pos rfl, if_pos rfl]
  rw [e] at hown; exact hown
 row := fun i hi => by
  have htop : w1.ownsRow B 22 1 v n (vals n fun i => .slice (some ⟨G i, 0, none⟩) (M i) (C i)) := own_keepV h.top (fun b q => hb.block b (h.top.lt b q).2)
  have hk : ∀ b cr mr ys, w1.ownsRow B 5 1 (.slice (some ⟨b, 0, none⟩) mr cr) mr ys → w4.ownsRow B 5 1 (.slice (some ⟨b, 0, none⟩) mr cr) mr ys := fun b cr mr ys hh => by
   have h2 := hh.alloc o
   exact own_keep h2 (hgrow.block b (own_ge h2).2 (fun q => own_ne hh htop (by decide) rfl q.symm))
  by_cases e : i = n
  ·subst e
   simp only [upd, if_true]
   exact hk _ _ _ _ hr
  ·simp only [upd, if_neg e]
   exact hk _ _ _ _ (own_keep (h.row i (by omega)) (hb.block _ (own_ge (h.row i (by omega))).2))
 inj := fun i j hi hj q => by
  have hlt : ∀ i, i < n → G i < w.heap.size := fun i hi => (own_ge (h.row i hi)).2
  unfold upd at q
  by_cases e1 : i = n
  ·by_cases e2 : j = n
   ·omega
   ·rw [if_pos e1, if_neg e2] at q; have := hlt j (by omega); omega
  ·by_cases e2 : j = n
   ·rw [if_neg e1, if_pos e2] at q; have := hlt i (by omega); omega
   ·rw [if_neg e1, if_neg e2] at q; exact h.inj i j (by omega) (by omega) q
theorem OwnV.bound {B : Nat} {w w1 w4 : World} {v : Value} {n : Nat} {G M C N Q : Nat → Nat} {Y : Nat → Nat → K} {o : Obj} {w0 : World} (h : OwnV B w v n G M C N Q Y) (hb0 : Below B w0 w1) (hsz : B ≤ w1.heap.size) (hgrow : (w1.alloc o).grownBy w4 v.ownBlock) : Below B w0 w4 :=
 Below.grown (hb0.alloc hsz o) hgrow (by simp; omega) (fun b q => (h.top.lt b q).1)
theorem OwnV.toMat {B : Nat} {w : World} {v : Value} {n m : Nat} {G Q : Nat → Nat} {Y : Nat → Nat → K} (h : OwnV B w v n G (fun _ => m) Q (fun _ => m) Q Y) (hn : 0 < n) : ∃ g c, v = .slice (some ⟨g, 0, none⟩) n c ∧ OwnMat B w g c n m G Q Y := by
 obtain ⟨g, c, rfl, _⟩ := h.top.form hn
 exact ⟨g, c, rfl, h.top, h.row, h.inj⟩
theorem upd_const {α : Type} (a : α) (k : Nat) : upd (fun _ => a) k a = fun _ => a := by funext i; unfold upd; split <;> rfl
theorem OwnV.top_alloc {B : Nat} {w w1 : World} {v : Value} {n : Nat} {G M C N Q : Nat → Nat} {Y : Nat → Nat → K} (h : OwnV B w v n G M C N Q Y) (hb : Below w.heap.size w w1) (o : Obj) :
  (w1.alloc o).ownsRow B 22 1 v n (vals n fun i => .slice (some ⟨G i, 0, none⟩) (M i) (C i)) :=
 (own_keepV h.top (fun b q => hb.block b (h.top.lt b q).2)).alloc o
theorem news_one (w : World) (u : Value) : ∀ q x, [u][q]? = some x → (w.alloc (.cells #[u] 22)).cell? ((⟨w.heap.size, 0, none⟩ : Addr).add q) = some x :=
 World.news_of_block (cs := #[u]) (t := 22) (fr := (0, 0)) (heap_alloc_new _ _)

theorem on_row (w : World) (n i B : Nat) (hn : n ≤ 100) (hB : B ≤ w.heap.size) : (w.alloc (.cells ((madeCells #[.int .u8 0] n).setIfInBounds i (.int .u8 1)) 5)).ownsRow B 5 1 (.slice (some ⟨w.heap.size, 0, none⟩) n n) n (vals n fun j => kv (on i j)) := by
 have h := ((own_made w 5 (.int .u8 0) n B (by omega) hB).stored i (kv 1)).1
 rw [World.setCell_alloc_new, vals_set] at h
 rw [vals_congr (W := fun j => kv (on i j)) (fun j _ => by
  unfold upd on
  by_cases e : j = i
  ·rw [if_pos e, if_pos e.symm]
  ·rw [if_neg e, if_neg (fun q => e q.symm)]; rfl)] at h
 exact h

set_option maxRecDepth 100000 in
set_option maxHeartbeats 1000000 in
theorem rone_any (n : Nat) (w : World) (h0 : 1 ≤ n) (hn : n ≤ 32) :
  Calls Tryz.prog 77 #[.int .i64 n] w fun e w' => ∃ g c G, e = .returned (.slice (some ⟨g, 0, none⟩) n c) ∧ OwnMat w.heap.size w' g c n n G (fun _ => n) on ∧ Below w.heap.size w w' := by
 obtain ⟨i0, hi0, hz0, hz1, hz2⟩ := info_parts Tryz.info22
 go_enter Tryz.func77, Tryz.ntmps77
 go_wp2
 go_loopw [3, 4] (fun v x wr => ∃ i : Nat, ∃ G : Nat → Nat, i ≤ n ∧ x = .int .i64 i ∧ OwnV w.heap.size wr v i G (fun _ => n) (fun _ => n) (fun _ => n) (fun _ => n) on ∧ Below w.heap.size w wr) (fun _ x _ => (n - intOf x).toNat)
 case atStart => exact ⟨0, fun _ => 0, by omega, rfl, OwnV.start _ _ _ _ _ _ _ _, Below.refl _ _⟩
 case round =>
  obtain ⟨i, G, hi, rfl, hv, hb⟩ := hrel
  by_cases hlt : i < n
  ·have hmk := run_make_u8 n (by omega) wr
   have hsz := hb.size
   have c1 : (wr.alloc (.cells (madeCells #[.int .u8 0] n) 5)).cell? ⟨wr.heap.size, i, none⟩ = some (.int .u8 0) := own_cell (V := fun _ => .int .u8 0) (own_made wr 5 (.int .u8 0) n wr.heap.size (by omega) (Nat.le_refl _)) i hlt
   have hb1 : Below wr.heap.size wr (wr.alloc (.cells ((madeCells #[.int .u8 0] n).setIfInBounds i (.int .u8 1)) 5)) := (Below.refl _ _).alloc (Nat.le_refl _) _
   have HT := hid (hv.top_alloc hb1 (.cells #[.slice (some ⟨wr.heap.size, 0, none⟩) n n] 22))
   have HN := hid (news_one (wr.alloc (.cells ((madeCells #[.int .u8 0] n).setIfInBounds i (.int .u8 1)) 5)) (.slice (some ⟨wr.heap.size, 0, none⟩) n n))
   have HR := hid (on_row wr n i w.heap.size (by omega) hsz)
   have HB1 := hid hb1
   have HV := hid hv
   have HB := hid hb
   clear hv hb hb1
   go_wp2_with (at_builtin; refine wpList_append_lies _ rfl _ _ 24 rfl w.heap.size 22 i0 (.slice none 0 0) 1 24 Tryz.underlying24 hi0 hz0 hz1 hz2 rfl (by omega) u3 i _ rfl HT.out ⟨wr.heap.size + 1, 0, none⟩ 1 1 [.slice (some ⟨wr.heap.size, 0, none⟩) n n] rfl rfl (by have := HN.out; simp only [World.size_alloc] at this; exact this) (by intro u hu; simp at hu; subst hu; rfl) (by omega) (by unfold maxLen; omega) (by omega) (by simp; omega) _ rfl ?_; intro gg cap w4 hown4 hgrow hat hlt4)
   have HX := hid (HV.out.push HB1.out wr.heap.size n n (Nat.le_refl _) HR.out hgrow hown4)
   have HBX := hid (HV.out.bound (HB.out.trans (HB1.out.mono hsz)) (by simp; omega) hgrow)
   rw [upd_const] at HX
   clear hown4 hgrow hat hlt4 HT HN HR HB1 HV HB hmk
   go_wp2
   go_roundw
   case rel => exact ⟨i + 1, _, by omega, by go_num, HX.out, HBX.out⟩
   case measure => simp [intOf]; omega
  ·have e : i = n := by omega
   subst e
   obtain ⟨g, c, rfl, hm⟩ := hv.toMat (by omega)
   have HM := hid hm
   have HB := hid hb
   clear hv hb hm
   go_wp2
   go_ret
   exact ⟨g, c, G, rfl, HM.out, HB.out⟩
end Go.Proofs.YtopibkoklagceaaGreat.U

/- Contracts of copied and Check of the document's own answer: as the program's; what was there is as it was. -/
namespace Go.Proofs.YtopibkoklagceaaGreat.U
open Go.RowKit

theorem copied_row {w w1 : World} {m g1 cp1 : Nat} {x : Nat → K} (hown : w1.ownsRow w.heap.size 5 1 (.slice (some ⟨g1, 0, none⟩) (0 + m) cp1) (0 + m) ([] ++ vals m fun j => kv (x j))) (hgrow : (w.alloc (.cells #[] 5)).grownBy w1 (Value.slice (some ⟨w.heap.size, 0, none⟩) 0 0).ownBlock) :
  Hid (w1.ownsRow w.heap.size 5 1 (.slice (some ⟨g1, 0, none⟩) m cp1) m (vals m fun j => kv (x j))) ∧ Hid (Below w.heap.size w w1) ∧ w.heap.size ≤ w1.heap.size := by
 have hb : Below w.heap.size w w1 := Below.grown ((Below.refl _ _).alloc (Nat.le_refl _) _) hgrow (by simp) (fun j hj => by simp [Value.ownBlock] at hj; omega)
 refine ⟨?_, hb, hb.size⟩
 show w1.ownsRow w.heap.size 5 1 (.slice (some ⟨g1, 0, none⟩) m cp1) m (vals m fun j => kv (x j))
 simp only [Nat.zero_add, List.nil_append] at hown; exact hown

set_option maxRecDepth 100000 in
set_option maxHeartbeats 2000000 in
theorem copied_any (p : Option Addr) (n m c : Nat) (A : Nat → Option Addr) (C : Nat → Nat) (X : Nat → Nat → K) (w : World) (h : MatAt w p n A (fun _ => m) C X) (h0 : 1 ≤ n) (hn : n ≤ 32) (h1 : 1 ≤ m) (hm : m ≤ 32) :
  Calls Tryz.prog 116 #[.slice p n c] w fun e w' => ∃ g cp G Q, e = .returned (.slice (some ⟨g, 0, none⟩) n cp) ∧ OwnMat w.heap.size w' g cp n m G Q X ∧ Below w.heap.size w w' := by
 obtain ⟨i0, hi0, hz0, hz1, hz2⟩ := info_parts Tryz.info22
 obtain ⟨j0, hj0, hy0, hy1, hy2⟩ := info_parts Tryz.info5
 obtain ⟨b, o, rfl, bs, os, hc, hr⟩ := h.at (by omega) (by omega)
 have HC := hid hc
 have HR := hid hr
 clear h hc hr
 go_enter Tryz.func116, Tryz.ntmps116
 go_wp2
 go_loopw [3, 4] (fun v x wr => ∃ i : Nat, ∃ G Q : Nat → Nat, i ≤ n ∧ x = .int .i64 i ∧ OwnV w.heap.size wr v i G (fun _ => m) Q (fun _ => m) Q X ∧ Below w.heap.size w wr) (fun _ x _ => (n - intOf x).toNat)
 case atStart => exact ⟨0, fun _ => 0, fun _ => 0, by omega, rfl, OwnV.start _ _ _ _ _ _ _ _, Below.refl _ _⟩
 case round =>
  obtain ⟨i, G, Q, hi, rfl, hv, hb⟩ := hrel
  by_cases hlt : i < n
  ·have hsz := hb.size
   have c1 := Stays.of_below hb _ _ (HC.out i hlt)
   have c2 : ∀ ob, (wr.alloc ob).cell? ⟨b, o + i, none⟩ = some (.slice (some ⟨bs i, os i, none⟩) m (C i)) := fun ob => by rw [World.cell?_alloc_lt _ _ _ (World.block_lt_of_cell? wr _ c1)]; exact c1
   have r1 := (HR.out i hlt).keep (Stays.of_below hb)
   have hbl : bs i < wr.heap.size := World.block_lt_of_cell? wr _ (r1 0 (by omega))
   have HO0 := hid (World.ownsRow_lit (base := wr.heap.size) (e := 5) (size := 1) wr #[] 0 (Nat.le_refl _) (by unfold maxLen; omega) rfl)
   have HP : Hid (∀ j u, (vals m fun j => kv (X i j))[j]? = some u → (wr.alloc (.cells #[] 5)).cell? ((⟨bs i, os i, none⟩ : Addr).add j) = some u) := vals_cells (fun j hj => by
    rw [World.cell?_alloc_lt _ _ _ hbl]; exact r1 j hj)
   have HV := hid hv
   have HB := hid hb
   clear hv hb r1 HC HR
   go_wp2_with (first
    | (at_builtin; refine wpList_append_lies _ rfl (.tmp 12) (.tmp 16) 22 rfl wr.heap.size 5 j0 (.int .u8 0) 1 1 Tryz.underlying22 hj0 hy0 hy1 hy2 rfl (by omega) (.slice (some ⟨wr.heap.size, 0, none⟩) 0 0) 0 [] rfl HO0.out ⟨bs i, os i, none⟩ m (C i) (vals m fun j => kv (X i j)) rfl (by rw [vals_len]; omega) HP.out (by intro u hu; unfold vals at hu; obtain ⟨i, _, rfl⟩ := List.mem_map.1 hu; rfl) (by omega) (by unfold maxLen; omega) (by omega) (by simp) _ rfl ?_; intro g1 cp1 w1 hown1 hgrow1 hat1 hlt1; obtain ⟨HR1, HB1, hsz1⟩ := copied_row hown1 hgrow1; clear hown1 hgrow1 hat1 hlt1; rw [Nat.zero_add])
    | (at_builtin; refine wpList_append_lies _ rfl (.tmp 11) (.tmp 18) 24 rfl w.heap.size 22 i0 (.slice none 0 0) 1 24 Tryz.underlying24 hi0 hz0 hz1 hz2 rfl (by omega) u3 i _ rfl (HV.out.top_alloc HB1.out _) ⟨w1.heap.size, 0, none⟩ 1 1 [.slice (some ⟨g1, 0, none⟩) m cp1] rfl rfl (news_one w1 _) (by intro u hu; simp at hu; subst hu; rfl) (by omega) (by unfold maxLen; omega) (by omega) (by simp; omega) _ rfl ?_; intro gg cap w4 hown4 hgrow hat hlt4))
   have HX := hid (HV.out.push HB1.out g1 cp1 cp1 (own_ge HR1.out).1 (own_base HR1.out hsz) hgrow hown4)
   have HBX := hid (HV.out.bound (HB.out.trans (HB1.out.mono hsz)) (by omega) hgrow)
   clear hown4 hgrow hat hlt4 HR1 HB1 HV HB HO0 HP
   go_wp2
   go_roundw
   case rel => exact ⟨i + 1, _, _, by omega, by go_num, HX.out, HBX.out⟩
   case measure => simp [intOf]; omega
  ·have e : i = n := by omega
   subst e
   obtain ⟨g, c, rfl, hm⟩ := hv.toMat (by omega)
   have HM := hid hm
   have HB := hid hb
   clear hv hb hm HC HR
   go_wp2
   go_ret
   exact ⟨g, c, G, Q, rfl, HM.out, HB.out⟩

set_option maxRecDepth 100000 in
set_option maxHeartbeats 2000000 in
theorem rcheck_any (p : Option Addr) (n c : Nat) (A : Nat → Option Addr) (L C : Nat → Nat) (w : World) (hn : n ≤ 100) (h : TopAt w p n A L C) :
  Calls Tryz.prog 114 #[.slice p n c] w fun e w' => e = .returned (.int .i64 (errC n L)) ∧ ∃ q, w' = w.drewN q := by
 by_cases h1 : 32 < n
 ·have HE : Hid (errC n L = 3) := by unfold errC; simp [h1]; trivial
  go_enter Tryz.func114, Tryz.ntmps114
  go_wp2
  go_ret
  exact ⟨ret_int HE.out.symm, 0, rfl⟩
 ·go_enter Tryz.func114, Tryz.ntmps114
  go_wp2
  go_loop [3] (fun i => ∃ k : Nat, k ≤ n ∧ i = .int .i64 k ∧ ∀ j, j < k → L j ≤ 32) (fun i => (n - intOf i).toNat)
  case atStart => exact ⟨0, by omega, rfl, fun j hj => absurd hj (by omega)⟩
  case round =>
   obtain ⟨k, hk, rfl, hs⟩ := hrel
   by_cases hlt : k < n
   ·obtain ⟨b, o, rfl, hc⟩ := h.pos (by omega)
    have c1 := hc k hlt
    clear h hc
    by_cases hb : 32 < L k
    ·have HE : Hid (errC n L = 3) := by unfold errC; rw [tooLong_true k hlt hb]; simp; trivial
     clear hs
     go_wp2
     go_ret
     exact ⟨ret_int HE.out.symm, 0, rfl⟩
    ·have HS : Hid (∀ j, j < k + 1 → L j ≤ 32) := fun j hj => by
       by_cases e : j = k
       ·subst e; omega
       ·exact hs j (by omega)
     clear hs
     go_wp2
     go_round
     case rel => exact ⟨k + 1, by omega, by go_num, HS.out⟩
     case measure => simp [intOf]; omega
   ·have hnl : (decide (32 < n) || tooLong n L) = false := by
      rw [Bool.or_eq_false_iff]; exact ⟨by simpa using h1, tooLong_false (fun i hi => hs i (by omega))⟩
    have HNL := hid hnl
    clear hs hnl
    by_cases hn0 : n = 0
    ·have HE : Hid (errC n L = 2) := by unfold errC; rw [HNL.out]; simp [hn0]; trivial
     subst hn0
     clear h
     go_wp2
     go_ret
     exact ⟨ret_int HE.out.symm, 0, rfl⟩
    ·obtain ⟨b, o, rfl, hc⟩ := h.pos (by omega)
     have c0 := hc 0 (by omega)
     rw [Nat.add_zero] at c0
     have hnz : ((n : Int) == 0) = false := by simpa using hn0
     by_cases h2 : L 0 = 0
     ·have HE : Hid (errC n L = 2) := by unfold errC; rw [HNL.out]; simp [h2]; trivial
      have h2' : ((((L 0 : Nat) : Int)) == 0) = true := by simpa using h2
      clear h hc h2
      go_wp2
      go_ret
      exact ⟨ret_int HE.out.symm, 0, rfl⟩
     ·have h2' : (((L 0 : Nat) : Int) == 0) = false := by simpa using h2
      have HC := hid hc
      clear h hc
      go_wp2_with fail
      go_loopw [4] (fun i wr => ∃ k q : Nat, k ≤ n ∧ i = .int .i64 k ∧ wr = w.drewN q ∧ ∀ j, j < k → L j = L 0) (fun i _ => (n - intOf i).toNat)
      case atStart => exact ⟨0, 0, by omega, rfl, rfl, fun j hj => absurd hj (by omega)⟩
      case round =>
       obtain ⟨k, q, hk, rfl, hw, hs⟩ := hrel
       have HW := hid hw
       have c0' : wr.cell? ⟨b, o, none⟩ = some (.slice (A 0) (L 0) (C 0)) := by rw [hw]; simpa using c0
       clear c0
       by_cases hlt : k < n
       ·have c1 : wr.cell? ⟨b, o + k, none⟩ = some (.slice (A k) (L k) (C k)) := by rw [hw]; simpa using HC.out k hlt
        have hlt' : (k : Int) < (n : Int) := by omega
        have hpos : (0 : Int) < (n : Int) := by omega
        clear hw
        by_cases e : L k = L 0
        ·have HS : Hid (∀ j, j < k + 1 → L j = L 0) := fun j hj => by
           by_cases q : j = k
           ·rw [q]; exact e
           ·exact hs j (by omega)
         have e' : (((L k : Nat) : Int) != ((L 0 : Nat) : Int)) = false := by rw [e]; simp
         clear hs e HC
         go_wp2_with fail
         go_quiet (fail)
         go_wp2
         go_roundw
         case rel => exact ⟨k + 1, q + nq, by omega, by go_num, by rw [HW.out, World.drewN_drewN], HS.out⟩
         case measure => simp [intOf]; omega
        ·have e' : (((L k : Nat) : Int) != ((L 0 : Nat) : Int)) = true := by simp; omega
         have HE : Hid (errC n L = 2) := by unfold errC; rw [HNL.out, evenL_false k hlt e]; simp; trivial
         clear hs HC e
         go_wp2_with fail
         go_quiet (fail)
         go_wp2
         go_ret
         exact ⟨ret_int HE.out.symm, q + nq, by rw [HW.out, World.drewN_drewN]⟩
       ·have e : evenL n L = true := evenL_true (fun i hi => hs i (by omega))
        have HE : Hid (errC n L = 0) := by unfold errC; rw [HNL.out, e]; simp [hn0, h2]; trivial
        clear hs HC e hw c0'
        go_wp2
        go_ret
        exact ⟨ret_int HE.out.symm, q, HW.out⟩
end Go.Proofs.YtopibkoklagceaaGreat.U

/- Contracts of LentBytes (once more, over whole blocks) and LentLists of the statements' kit: copies in new memory, each with three marked bytes behind it; what was there is as it was. -/
namespace Go.Proofs.YtopibkoklagceaaGreat.U
open Go.RowKit

/-- What a lent row reads as, its spare room with it. -/
def lentK (L : Nat) (x : Nat → K) (j : Nat) : K := if j < L then x j else kb (160 + j % 90)

/-- A row of N numbers in block g, which the call has made. -/
structure Mk (w wr : World) (g N : Nat) (x : Nat → K) : Prop where
 row : wr.ownsRow w.heap.size 5 1 (.slice (some ⟨g, 0, none⟩) N N) N (vals N fun c => kv (x c))
 bel : Below w.heap.size w wr
theorem Mk.congr {w wr : World} {g N : Nat} {x y : Nat → K} (h : Mk w wr g N x) (e : ∀ c, c < N → x c = y c) : Mk w wr g N y :=
 ⟨by have := h.row; rwa [vals_congr (W := fun c => kv (y c)) (fun c hc => by show kv (x c) = kv (y c); rw [e c hc])] at this, h.bel⟩
theorem Mk.set {w wr : World} {g N : Nat} {x : Nat → K} (h : Mk w wr g N x) (k : Nat) (v : K) : Mk w (wr.setCell ⟨g, k, none⟩ (.int .u8 ((v.val : Nat) : Int))) g N (fun c => if c = k then v else x c) := by
 refine ⟨?_, h.bel.setCell (p := ⟨g, k, none⟩) (own_ge h.row).1 _⟩
 have h1 := (h.row.stored k (kv v)).1
 rw [vals_set, vals_congr (W := fun c => kv (if c = k then v else x c)) (fun c _ => by unfold upd; by_cases e : c = k <;> simp [e])] at h1
 exact h1
theorem Mk.made (w : World) (N : Nat) (hN : N ≤ 70003) : Mk w (w.alloc (.cells (madeCells #[.int .u8 0] N) 5)) w.heap.size N (fun _ => 0) :=
 ⟨own_made w 5 (.int .u8 0) N w.heap.size hN (Nat.le_refl _), (Below.refl _ _).alloc (Nat.le_refl _) _⟩
theorem Mk.sets {w : World} {g N : Nat} : ∀ (ks : List K) (o : Nat) (wr : World) (x : Nat → K), Mk w wr g N x → Mk w (wr.setCells g o (ks.map kv)) g N (fun c => if o ≤ c ∧ c < o + ks.length then (ks[c - o]?).getD 0 else x c)
 | [], o, wr, x, h => h.congr (fun c _ => by rw [if_neg (by simp)])
 | k :: ks, o, wr, x, h => by
  have ih := Mk.sets ks (o + 1) _ _ (h.set o k)
  refine Mk.congr (x := _) ih (fun c _ => ?_)
  by_cases e1 : c = o
  ·subst e1
   rw [if_neg (by omega), if_pos rfl, if_pos (by simp)]; simp
  ·by_cases e2 : o + 1 ≤ c ∧ c < o + 1 + ks.length
   ·rw [if_pos e2, if_pos (by simp; omega), show c - o = (c - (o + 1)) + 1 by omega]; rfl
   ·rw [if_neg e2, if_neg e1, if_neg (by simp; omega)]
/-- The first n numbers, as a list. -/
def ksOf (n : Nat) (x : Nat → K) : List K := (List.range n).map x
theorem ksOf_vals (n : Nat) (x : Nat → K) : (ksOf n x).map kv = valN n fun j => (x j).val := by unfold ksOf valN kv; rw [List.map_map]; rfl
theorem ksOf_get (n : Nat) (x : Nat → K) (c : Nat) (h : c < n) : ((ksOf n x)[c]?).getD 0 = x c := by unfold ksOf; simp [h]
theorem Mk.copied {w wr : World} {g N : Nat} {y : Nat → K} (h : Mk w wr g N y) (n : Nat) (x : Nat → K) : Mk w (wr.setCells g 0 (valN n fun j => (x j).val)) g N (fun c => if c < n then x c else y c) := by
 rw [← ksOf_vals]
 refine (Mk.sets (ksOf n x) 0 wr y h).congr (fun c _ => ?_)
 have hl : (ksOf n x).length = n := by simp [ksOf]
 by_cases e : c < n
 ·rw [if_pos (by omega), if_pos e, Nat.sub_zero, ksOf_get n x c e]
 ·rw [if_neg (by omega), if_neg e]

end Go.Proofs.YtopibkoklagceaaGreat.U

/- Contracts of CopyBytes, OverBytes and ApartBytes of the statements' kit, over lists each of which lies in a block of its own: the last returns true, and touches no block that was there but those. -/
namespace Go.Proofs.YtopibkoklagceaaGreat.U
open Go.RowKit

theorem size41 (w : World) : (sizeOf (Tryz.prog.elem 22)).run Tryz.prog w = .ok 1 w := by
 obtain ⟨i0, hi0, hz0, hz1, hz2⟩ := info_parts Tryz.info5
 rw [show Tryz.prog.elem 22 = 5 by kernel_rfl]
 simp [sizeOf, typeInfo, hi0, hz1]
theorem under41 : Tryz.prog.underlying 22 = some (.slice (Tryz.prog.elem 22)) := by kernel_rfl
/-- From w to w' nothing that was there has turned but what the blocks of S hold. -/
structure SpareIn (S : Nat → Prop) (w w' : World) : Prop where
 os : w'.os = w.os
 tape : w'.tape = w.tape
 output : w'.output = w.output
 size : w.heap.size ≤ w'.heap.size
 block : ∀ b, b < w.heap.size → ¬ S b → w'.heap[b]? = w.heap[b]?
theorem SpareIn.refl (S : Nat → Prop) (w : World) : SpareIn S w w := ⟨rfl, rfl, rfl, Nat.le_refl _, fun _ _ _ => rfl⟩
theorem SpareIn.only {S : Nat → Prop} {g : Nat} {w w1 w2 : World} (h : SpareIn S w w1) (h2 : OnlyIn (fun b => b = g) w1 w2) (hg : S g) : SpareIn S w w2 :=
 ⟨h2.os.trans h.os, h2.tape.trans h.tape, h2.output.trans h.output, by rw [h2.size]; exact h.size, fun b hb hs => (h2.block b (fun e => hs (by rw [e]; exact hg))).trans (h.block b hb hs)⟩
theorem SpareIn.below {S : Nat → Prop} {B : Nat} {w0 w w' : World} (h : SpareIn S w w') (hb : Below B w0 w) (hB : B ≤ w.heap.size) (hS : ∀ b, S b → B ≤ b) : Below B w0 w' :=
 ⟨h.os.trans hb.os, h.tape.trans hb.tape, h.output.trans hb.output, Nat.le_trans hb.size h.size, fun b hlt => (h.block b (by omega) (fun q => by have := hS b q; omega)).trans (hb.block b hlt)⟩

theorem OwnV.stay {B : Nat} {w w' : World} {v : Value} {n : Nat} {G M C N Q : Nat → Nat} {X : Nat → Nat → K} (h : OwnV B w v n G M C N Q X) (hb : Below w.heap.size w w') : OwnV B w' v n G M C N Q X where
 top := own_keepV h.top (fun b q => hb.block b (h.top.lt b q).2)
 row := fun i hi => own_keep (h.row i hi) (hb.block _ (own_ge (h.row i hi)).2)
 inj := h.inj
end Go.Proofs.YtopibkoklagceaaGreat.U

/- Contracts of Length and part of package stripe: how long shards are, or the error's number; the bytes laid into shards in new memory, with noughts behind them; what was there is as it was. -/
namespace Go.Proofs.YtopibkoklagceaaGreat.U
open Go.RowKit

theorem lgt_div (s k : Nat) (_h : 1 ≤ k) : Int.tdiv ((s : Int) + (k : Int) - 1) (k : Int) = ((lgt s k : Nat) : Int) := by
 unfold lgt
 rw [show (s : Int) + (k : Int) - 1 = ((s + k - 1 : Nat) : Int) by omega]
 exact Int.ofNat_tdiv _ _ |>.symm
theorem lgt_le (s k : Nat) (h1 : s ≤ 65536) (h2 : 1 ≤ k) : lgt s k ≤ 65536 := by
 unfold lgt
 have : (s + k - 1) / k < 65537 := by
  rw [Nat.div_lt_iff_lt_mul (by omega)]
  have : 65537 ≤ 65537 * k := Nat.le_mul_of_pos_right _ (by omega)
  have e : 65537 * k = 65536 * k + k := by omega
  have : 65536 ≤ 65536 * k := Nat.le_mul_of_pos_right _ (by omega)
  omega
 omega
set_option maxHeartbeats 400000 in
theorem length_ok (s k : Nat) (w : World) (h1 : s ≤ 65536) (h2 : 1 ≤ k) (h3 : k ≤ 15) :
  Calls Tryz.prog 46 #[.int .i64 s, .int .i64 k] w fun e w' => e = .returned (.tuple #[.int .i64 ((lgt s k : Nat) : Int), .int .i64 0]) ∧ w' = w := by
 have hd := lgt_div s k h2
 have hw : IntKind.i64.wrap ((s : Int) + (k : Int)) = (s : Int) + (k : Int) := by rw [IntKind.wrap_i64]; omega
 have hk : (k : Int) ≠ 0 := by omega
 have hle := lgt_le s k h1 h2
 go_enter Tryz.func46, Tryz.ntmps46
 go_wp2
 go_ret2
 exact ⟨ret_ie (by first | rfl | (unfold wrap64; omega)) rfl, rfl⟩
/-- k shards of that length have room for all bytes. -/
theorem lgt_room (s k : Nat) (h2 : 1 ≤ k) : s ≤ k * lgt s k := by
 unfold lgt
 have := Nat.div_add_mod (s + k - 1) k
 have := Nat.mod_lt (s + k - 1) (show k > 0 by omega)
 omega

/-- A part of a list from l on. -/
theorem run_lo22 (p : Option Addr) (n c l : Nat) (hl : l ≤ n) : ∃ p2 : Option Addr, (∀ w : World, (Instr.slice 22 (.slice p n c) (some (.int .i64 (l : Int))) none none).run Tryz.prog w = .ok (.slice p2 (n - l) (c - l)) w) ∧ (∀ b o, p = some ⟨b, o, none⟩ → l < c → p2 = some ⟨b, o + l, none⟩) := by
 have hr : ∀ w, (Instr.slice 22 (.slice p n c) (some (.int .i64 (l : Int))) none none).run Tryz.prog w = .ok (sliced p l n c 1) w := fun w => by
  rw [run_slice_l (P := Tryz.prog) w 22 p n c under41 .i64 (l : Int) (by omega) (by omega), size41]
  simp [Result.andThen]
 cases p with
 | none => exact ⟨none, fun w => by rw [hr]; simp [sliced], fun b o e => by cases e⟩
 | some a =>
  by_cases e : c = l
  ·exact ⟨some a, fun w => by rw [hr]; simp [sliced, e], fun b o _ q => by omega⟩
  ·refine ⟨some (a.add l), fun w => by rw [hr]; simp [sliced, e], fun b o q _ => ?_⟩
   cases q
   rw [add_plain']
theorem StrAt.drop {w : World} {p p2 : Option Addr} {n c l : Nat} {x : Nat → Nat} (h : StrAt w p n x) (hc : n ≤ c) (hp : ∀ b o, p = some ⟨b, o, none⟩ → l < c → p2 = some ⟨b, o + l, none⟩) : StrAt w p2 (n - l) (fun j => x (l + j)) := by
 by_cases h0 : n - l = 0
 ·exact .inl h0
 ·rcases h with h | ⟨b, o, rfl, hr⟩
  ·omega
  ·exact .inr ⟨b, o + l, hp b o rfl (by omega), fun i hi => by rw [Nat.add_assoc]; exact hr (l + i) (by omega)⟩
theorem StrAt.congr {w : World} {p : Option Addr} {n : Nat} {x y : Nat → Nat} (h : StrAt w p n x) (e : ∀ j, j < n → x j = y j) : StrAt w p n y := by
 rcases h with h | ⟨b, o, rfl, hr⟩
 ·exact .inl h
 ·exact .inr ⟨b, o, rfl, fun i hi => by rw [← e i hi]; exact hr i hi⟩
/-- copy into a list that lies in memory of the call's own. -/
theorem run_copyG (w : World) (b o dl dc : Nat) (p : Option Addr) (n c : Nat) (x : Nat → Nat) (hx : StrAt w p n x) (hc : ∀ j, j < dl → ∃ v, w.cell? ⟨b, o + j, none⟩ = some v) (hf : ∀ j, w.frozen? ⟨b, o + j, none⟩ = false) (ty : TypeId) :
  (Builtin.copy_ #[22, 22] ty #[.slice (some ⟨b, o, none⟩) dl dc, .slice p n c]).run Tryz.prog w = .ok (goInt ((min n dl : Nat) : Int)) (w.setCells b o (valN (min n dl) x)) := by
 by_cases h0 : min n dl = 0
 ·rw [h0]
  exact run_copy_none (P := Tryz.prog) _ 22 22 ty 5 _ _ _ _ _ _ Tryz.underlying22 (by kernel_rfl) h0
 ·rcases hx with h | ⟨b', o', rfl, hr⟩
  ·omega
  ·have := run_copy_cells (P := Tryz.prog) w 22 22 ty 5 b o dl dc ⟨b', o', none⟩ n c (valN (min n dl) x) Tryz.underlying22 (by kernel_rfl) (by rw [valN_len])
     (fun j v hj => by
      have hjn : j < min n dl := by
       rcases Nat.lt_or_ge j (min n dl) with q | q
       ·exact q
       ·rw [List.getElem?_eq_none (by rw [valN_len]; exact q)] at hj; cases hj
      rw [valN_get _ x j hjn] at hj
      cases hj
      rw [add_plain']; exact hr j (by omega))
     (fun j hj => by rw [valN_len] at hj; obtain ⟨v, hv⟩ := hc j (by omega); rw [hv]; rfl)
     (fun j _ => hf j)
     (fun v hv => by unfold valN at hv; obtain ⟨i, _, rfl⟩ := List.mem_map.1 hv; rfl)
   rw [valN_len] at this
   exact this
/-- What a copy leaves of an owned row. -/
theorem own_copied {B g N Q : Nat} : ∀ (ks : List K) (o : Nat) (w : World) (y : Nat → K), w.ownsRow B 5 1 (.slice (some ⟨g, 0, none⟩) N Q) N (vals N fun c => kv (y c)) →
  (w.setCells g o (ks.map kv)).ownsRow B 5 1 (.slice (some ⟨g, 0, none⟩) N Q) N (vals N fun c => kv (if o ≤ c ∧ c < o + ks.length then (ks[c - o]?).getD 0 else y c))
 | [], o, w, y, h => by
  rw [vals_congr (W := fun c => kv (y c)) (fun c _ => by rw [if_neg (by simp)])]; exact h
 | k :: ks, o, w, y, h => by
  have h1 := (h.stored o (kv k)).1
  rw [vals_set, vals_congr (W := fun c => kv (if c = o then k else y c)) (fun c _ => by unfold upd; by_cases e : c = o <;> simp [e])] at h1
  have ih := own_copied ks (o + 1) _ _ h1
  rw [vals_congr (W := fun c => kv (if o ≤ c ∧ c < o + (k :: ks).length then ((k :: ks)[c - o]?).getD 0 else y c)) (fun c _ => by
   congr 1
   by_cases e1 : c = o
   ·subst e1
    rw [if_neg (by omega), if_pos rfl, if_pos (by simp)]; simp
   ·by_cases e2 : o + 1 ≤ c ∧ c < o + 1 + ks.length
    ·rw [if_pos e2, if_pos (by simp; omega), show c - o = (c - (o + 1)) + 1 by omega]; rfl
    ·rw [if_neg e2, if_neg e1, if_neg (by simp; omega)])] at ih
  exact ih
theorem own_laid {B : Nat} {w : World} {g N Q : Nat} {y : Nat → K} (h : w.ownsRow B 5 1 (.slice (some ⟨g, 0, none⟩) N Q) N (vals N fun c => kv (y c))) (o n : Nat) (x : Nat → K) :
  (w.setCells g o (valN n fun j => (x j).val)).ownsRow B 5 1 (.slice (some ⟨g, 0, none⟩) N Q) N (vals N fun c => kv (if o ≤ c ∧ c < o + n then x (c - o) else y c)) := by
 rw [← ksOf_vals]
 have h1 := own_copied (ksOf n x) o w y h
 have hl : (ksOf n x).length = n := by simp [ksOf]
 rw [vals_congr (W := fun c => kv (if o ≤ c ∧ c < o + n then x (c - o) else y c)) (fun c _ => by
  congr 1
  rw [hl]
  by_cases e : o ≤ c ∧ c < o + n
  ·rw [if_pos e, if_pos e, ksOf_get n x (c - o) (by omega)]
  ·rw [if_neg e, if_neg e])] at h1
 exact h1
end Go.Proofs.YtopibkoklagceaaGreat.U

/- Contract of part of package stripe: the bytes are laid into shards in new memory, with noughts behind them; what was there is as it was. -/
namespace Go.Proofs.YtopibkoklagceaaGreat.U
open Go.RowKit

theorem OnlyIn.setCells (g : Nat) : ∀ (vs : List Value) (o : Nat) (w w' : World), OnlyIn (fun b => b = g) w w' → OnlyIn (fun b => b = g) w (w'.setCells g o vs)
 | [], _, _, _, h => h
 | v :: vs, o, w, _, h => OnlyIn.setCells g vs (o + 1) w _ (h.setCell g o rfl v)
theorem Half.congr {B : Nat} {w : World} {g cp n m k : Nat} {G Q : Nat → Nat} {X Y : Nat → Nat → K} {V : Nat → Value} (h : Half B w g cp n m k G Q X V) (e : ∀ i, i < k → ∀ j, j < m → X i j = Y i j) : Half B w g cp n m k G Q Y V where
 top := h.top
 row := fun i hi => by
  have := h.row i hi
  rwa [vals_congr (W := fun j => kv (Y i j)) (fun j hj => by show kv (X i j) = kv (Y i j); rw [e i hi j hj])] at this
 inj := h.inj
/-- One row turned. -/
theorem Half.turn {B : Nat} {w w' : World} {g cp n m k r : Nat} {G Q : Nat → Nat} {X Y : Nat → Nat → K} {V : Nat → Value} (h : Half B w g cp n m k G Q X V) (hr : r < k)
  (hrow : w'.ownsRow B 5 1 (.slice (some ⟨G r, 0, none⟩) m (Q r)) m (vals m fun j => kv (Y r j))) (e : ∀ i, i < k → i ≠ r → ∀ j, j < m → X i j = Y i j) (ho : OnlyIn (fun b => b = G r) w w') : Half B w' g cp n m k G Q Y V where
 top := own_keep h.top (ho.block g (fun q => own_apart h.top (h.row r hr) (by decide) q))
 row := fun i hi => by
  by_cases q : i = r
  ·subst q; exact hrow
  ·have h1 := own_keep (h.row i hi) (ho.block (G i) (fun z => q (h.inj i r hi hr z)))
   rwa [vals_congr (W := fun j => kv (Y i j)) (fun j hj => by show kv (X i j) = kv (Y i j); rw [e i hi q j hj])] at h1
 inj := h.inj
theorem min_sub (n r l : Nat) : n - r * l - min (n - r * l) l = n - (r + 1) * l := by
 rw [Nat.add_mul, Nat.one_mul]; omega
theorem dsh_row (l n r j : Nat) (x : Nat → K) (hj : j < l) : (if 0 ≤ j ∧ j < 0 + min (n - r * l) l then x (r * l + (j - 0)) else 0) = dsh l n x r j := by
 unfold dsh
 by_cases e : r * l + j < n
 ·rw [if_pos (by omega), if_pos e, Nat.sub_zero]
 ·rw [if_neg (by omega), if_neg e]

set_option maxRecDepth 100000 in
set_option maxHeartbeats 4000000 in
theorem part_any (p : Option Addr) (n c k l : Nat) (x : Nat → K) (w : World) (hk : k ≤ 16) (hl : l ≤ 65536) (hn : n ≤ 65536) (hc : n ≤ c) (h : StrAt w p n fun j => (x j).val) :
  Calls Tryz.prog 47 #[.slice p n c, .int .i64 k, .int .i64 l] w fun e w' => ∃ g G, e = .returned (.slice (some ⟨g, 0, none⟩) k k) ∧ OwnMat w.heap.size w' g k k l G (fun _ => l) (dsh l n x) ∧ Below w.heap.size w w' := by
 have hmk := run_make_top k (by omega) w
 have H0 := hid (own_made w 22 (.slice none 0 0) k w.heap.size (by omega) (Nat.le_refl _))
 have HX := hid h
 clear h
 go_enter Tryz.func47, Tryz.ntmps47
 go_wp2
 clear hmk
 go_loopw [0, 14] (fun d i wr => ∃ (r n' c' : Nat) (p' : Option Addr) (G : Nat → Nat), r ≤ k ∧ i = .int .i64 r ∧ d = .slice p' n' c' ∧ n' = n - r * l ∧ n' ≤ c' ∧ StrAt w p' n' (fun j => (x (r * l + j)).val) ∧ Half w.heap.size wr w.heap.size k k l r G (fun _ => l) (dsh l n x) (fun _ => .slice none 0 0) ∧ Below w.heap.size w wr) (fun _ i _ => (k - intOf i).toNat)
 case atStart => exact ⟨0, n, c, p, fun _ => 0, by omega, rfl, rfl, by omega, hc, HX.out.congr (fun j _ => by rw [Nat.zero_mul, Nat.zero_add]), ⟨by simpa using H0.out, fun i hi => absurd hi (by omega), fun i j hi => absurd hi (by omega)⟩, (Below.refl _ _).alloc (Nat.le_refl _) _⟩
 case round =>
  obtain ⟨r, n', c', p', G, hr, rfl, rfl, hn', hc', hs, hh, hb⟩ := hrel
  clear H0 HX
  have hle : n' ≤ 65536 := by omega
  by_cases hlt : r < k
  ·have hmk := run_make_u8 l (by omega) wr
   have hsz : w.heap.size < wr.heap.size := (own_ge hh.top).2
   have c1 : (wr.alloc (.cells (madeCells #[.int .u8 0] l) 5)).cell? ⟨w.heap.size, r, none⟩ = some (.slice none 0 0) := by
    rw [World.cell?_alloc_lt _ _ _ hsz, own_cell hh.top r hlt]; simp
   have c2 : (wr.alloc (.cells (madeCells #[.int .u8 0] l) 5)).frozen? ⟨w.heap.size, r, none⟩ = false := by
    rw [World.frozen?_alloc_old _ _ _ (Nat.ne_of_lt hsz)]; exact hh.top.frozenAt r
   have HP0 := (hh.congr (Y := fun i j => if i < r then dsh l n x i j else 0) (fun i hi j _ => by rw [if_pos hi])).push (w1 := wr.alloc (.cells (madeCells #[.int .u8 0] l) 5)) (fun b hb => Below.heap_alloc _ _ _ hb) wr.heap.size l (Nat.le_refl _) (by
    have h1 := own_made wr 5 (.int .u8 0) l w.heap.size (by omega) (by omega)
    rwa [vals_congr (W := fun j => kv (if r < r then dsh l n x r j else 0)) (fun j _ => by rw [if_neg (by omega)]; rfl)] at h1)
   have HB0 := (hb.alloc (by omega) (.cells (madeCells #[.int .u8 0] l) 5)).setCell (p := ⟨w.heap.size, r, none⟩) (Nat.le_refl _) (rv wr.heap.size l l)
   rw [World.setCell_alloc_past _ _ _ _ hsz] at HP0 HB0
   rw [upd_const] at HP0
   obtain ⟨W1, hW1⟩ : ∃ W1, W1 = (wr.setCell ⟨w.heap.size, r, none⟩ (rv wr.heap.size l l)).alloc (.cells (madeCells #[.int .u8 0] l) 5) := ⟨_, rfl⟩
   rw [← hW1] at HP0 HB0
   have e1 : W1.cell? ⟨w.heap.size, r, none⟩ = some (.slice (some ⟨wr.heap.size, 0, none⟩) l l) := by
    rw [own_cell HP0.top r hlt, if_pos (by omega)]; unfold upd; rw [if_pos rfl]; rfl
   have hrow0 := HP0.row r (by omega)
   have hg : upd G r wr.heap.size r = wr.heap.size := by unfold upd; rw [if_pos rfl]
   rw [hg] at hrow0
   have hcp := fun ty => run_copyG W1 wr.heap.size 0 l l p' n' c' (fun j => (x (r * l + j)).val) (hs.keep (Stays.of_below HB0)) (fun j hj => ⟨_, by rw [Nat.zero_add]; exact own_cell hrow0 j hj⟩) (fun j => by rw [Nat.zero_add]; exact hrow0.frozenAt j) ty
   obtain ⟨W2, hW2⟩ : ∃ W2, W2 = W1.setCells wr.heap.size 0 (valN (min n' l) fun j => (x (r * l + j)).val) := ⟨_, rfl⟩
   have ho : OnlyIn (fun b => b = wr.heap.size) W1 W2 := by rw [hW2]; exact OnlyIn.setCells _ _ _ _ _ (OnlyIn.refl _ _)
   have hrow2 := own_laid hrow0 0 (min n' l) (fun j => x (r * l + j))
   rw [← hW2] at hcp hrow2
   have HH := hid (HP0.turn (w' := W2) (r := r) (Y := dsh l n x) (by omega) (by
    rw [hg]
    rwa [vals_congr (W := fun j => kv (dsh l n x r j)) (fun j hj => by
     have h1 := dsh_row l n r j x hj
     rw [← hn'] at h1
     rw [← h1]
     by_cases e : 0 ≤ j ∧ j < 0 + min n' l
     ·rw [if_pos e, if_pos e]
     ·rw [if_neg e, if_neg e, if_neg (by omega)])] at hrow2) (fun i hi hne j _ => by rw [if_pos (by omega)]) (by rw [hg]; exact ho))
   have HB := hid (ho.below HB0 (fun b hb => by rw [hb]; omega))
   obtain ⟨p2, hsl, hp2⟩ := run_lo22 p' n' c' (min n' l) (by omega)
   have HS := hid (hs.drop hc' hp2)
   have hcp2 : ∀ ty, (Builtin.copy_ #[22, 22] ty #[.slice (some ⟨wr.heap.size, 0, none⟩) l l, .slice p' n' c']).run Tryz.prog ((wr.setCell ⟨w.heap.size, r, none⟩ (.slice (some ⟨wr.heap.size, 0, none⟩) l l)).alloc (.cells (madeCells #[.int .u8 0] l) 5)) = .ok (goInt ((min n' l : Nat) : Int)) W2 := fun ty => by have h1 := hcp ty; rw [hW1] at h1; exact h1
   have e2 : ((wr.setCell ⟨w.heap.size, r, none⟩ (.slice (some ⟨wr.heap.size, 0, none⟩) l l)).alloc (.cells (madeCells #[.int .u8 0] l) 5)).cell? ⟨w.heap.size, r, none⟩ = some (.slice (some ⟨wr.heap.size, 0, none⟩) l l) := by rw [hW1] at e1; exact e1
   have HN := hid hn'
   have hmin : min n' l ≤ 65536 := by omega
   clear hh hb hs HP0 HB0 hrow0 hrow2 ho hcp hW2 hW1 e1 hp2 hn'
   go_wp2
   go_roundw
   case rel => exact ⟨r + 1, n' - min n' l, c' - min n' l, p2, _, by omega, by go_num, rfl, by rw [HN.out]; exact min_sub n r l, by omega, HS.out.congr (fun j hj => by
    rw [Nat.add_mul, Nat.one_mul]
    have : min n' l = l := by omega
    rw [this, Nat.add_assoc]), HH.out, HB.out⟩
   case measure => simp [intOf]; omega
  ·have e : r = k := by omega
   subst e
   have HO := hid hh.done
   have HB := hid hb
   clear hh hb hs hn'
   go_wp2
   go_ret
   exact ⟨_, G, rfl, HO.out, HB.out⟩
end Go.Proofs.YtopibkoklagceaaGreat.U
