/- Texts laid into one: the remark ahead of each part says what is proved there. -/
import Derived.Test.YtapgdenodhcliaaYc
import Derived.Test.YtapgdenodhcliaaLz
import Derived.Deep.RegionWith
/- Contracts of scale and take of the document's own answer: a row is multiplied; a multiple of another row is added to it; no other block is touched. -/
namespace Go.Proofs.Ytapgdenodhcliaa
open Go.RowKit

theorem rmul_k (a b : K) (w : World) : Calls Try.prog 58 #[.int .u8 ((a.val : Nat) : Int), .int .u8 ((b.val : Nat) : Int)] w fun e w' => e = .returned (.int .u8 (((a * b).val : Nat) : Int)) ∧ w' = w :=
  rmul_any _ _ w (by omega) (by have := a.lt; omega) (by omega) (by have := b.lt; omega)
theorem rinv_k (a : K) (w : World) : Calls Try.prog 57 #[.int .u8 ((a.val : Nat) : Int)] w fun e w' => e = .returned (.tuple #[.int .u8 (((K.iv a).val : Nat) : Int), .int .i64 (invE a.val)]) ∧ w' = w := by
  rw [← invV_k]
  exact rinv_any _ w (by omega) (by have := a.lt; omega)
theorem xor_k (a b : K) : bits BinOp.xor IntKind.u8 ((a.val : Nat) : Int) ((b.val : Nat) : Int) = (((a + b).val : Nat) : Int) := u8_xor_nat _ _ a.lt b.lt

theorem OnlyIn.drew {S : Nat → Prop} {w w' : World} (h : OnlyIn S w w') : OnlyIn S w w'.drew := ⟨h.os, h.tape, h.output, h.size, h.block⟩
/-- Row r multiplied as far as k. -/
def scTo (T : Nat → Nat → K) (r k : Nat) (b : K) : Nat → Nat → K := fun i c => if i = r ∧ c < k then T r c * b else T i c
theorem scTo_at (T : Nat → Nat → K) (r k : Nat) (b : K) : scTo T r k b r k = T r k := by unfold scTo; rw [if_neg (by omega)]
theorem scTo_step (T : Nat → Nat → K) (r k : Nat) (b : K) (i c : Nat) : up2 (scTo T r k b) r k (scTo T r k b r k * b) i c = scTo T r (k + 1) b i c := by
  rw [scTo_at]; unfold up2 scTo
  by_cases e : i = r ∧ c = k
  · obtain ⟨rfl, rfl⟩ := e; simp
  · rw [if_neg e]
    by_cases q : i = r ∧ c < k
    · rw [if_pos q, if_pos (by omega)]
    · rw [if_neg q, if_neg (by omega)]

set_option maxRecDepth 100000 in
set_option maxHeartbeats 1000000 in
theorem scale_any (B g c n m r : Nat) (G Q : Nat → Nat) (T : Nat → Nat → K) (b : K) (w : World) (h : OwnMat B w g c n m G Q T) (hr : r < n) (hm : m ≤ 32) :
    Calls Try.prog 85 #[.slice (some ⟨G r, 0, none⟩) m (Q r), .int .u8 ((b.val : Nat) : Int)] w fun e w' => e = .returned (.tuple #[]) ∧ OwnMat B w' g c n m G Q (scR T r b) ∧ OnlyIn (fun k => k = G r) w w' := by
  have HM := hid h
  clear h
  go_enter Try.func85, Try.ntmps85
  go_wp2
  go_loopw [4] (fun x wr => ∃ k : Nat, k ≤ m ∧ x = .int .i64 k ∧ OwnMat B wr g c n m G Q (scTo T r k b) ∧ OnlyIn (fun k => k = G r) w wr) (fun x _ => (m - intOf x).toNat)
  case atStart => exact ⟨0, by omega, rfl, HM.out.congr (fun i _ j _ => by unfold scTo; rw [if_neg (by omega)]), OnlyIn.refl _ _⟩
  case round =>
    clear HM
    obtain ⟨k, hk, rfl, hm1, ho⟩ := hrel
    by_cases hlt : k < m
    · have c1 := hm1.cell r k hr hlt
      have c2 := hm1.free r k hr
      have HM := hid ((hm1.set r k (scTo T r k b r k * b) hr).congr (fun i _ c _ => scTo_step T r k b i c))
      have HO := hid (ho.setCell (G r) k rfl (.int .u8 (((scTo T r k b r k * b).val : Nat) : Int)))
      clear hm1 ho
      go_wp2_with (go_at_call 58; refine (rmul_k _ _ _).mono ?_; rintro e w' ⟨rfl, rfl⟩)
      go_roundw
      case rel => exact ⟨k + 1, by omega, by go_num, HM.out, HO.out⟩
      case measure => simp [intOf]; omega
    · have HM := hid (hm1.congr (Y := scR T r b) (fun i hi j hj => by
        unfold scTo scR
        by_cases e : i = r
        · rw [if_pos ⟨e, by omega⟩, if_pos e]
        · rw [if_neg (fun q => e q.1), if_neg e]))
      have HO := hid ho
      clear hm1 ho
      go_wp2
      go_end0
      exact ⟨rfl, HM.out, HO.out⟩

/-- A multiple of row r added to row i, as far as k. -/
def tkTo (T : Nat → Nat → K) (i r k : Nat) (b : K) : Nat → Nat → K := fun a c => if a = i ∧ c < k then T i c + T r c * b else T a c
def tkR (T : Nat → Nat → K) (i r : Nat) (b : K) : Nat → Nat → K := fun a c => if a = i then T i c + T r c * b else T a c
theorem tkTo_step (T : Nat → Nat → K) (i r k : Nat) (b : K) (h : i ≠ r) (a c : Nat) : up2 (tkTo T i r k b) i k (tkTo T i r k b i k + tkTo T i r k b r k * b) a c = tkTo T i r (k + 1) b a c := by
  have e1 : tkTo T i r k b i k = T i k := by unfold tkTo; rw [if_neg (by omega)]
  have e2 : tkTo T i r k b r k = T r k := by unfold tkTo; rw [if_neg (by omega)]
  rw [e1, e2]
  unfold up2 tkTo
  by_cases e : a = i ∧ c = k
  · obtain ⟨rfl, rfl⟩ := e; simp
  · rw [if_neg e]
    by_cases q : a = i ∧ c < k
    · rw [if_pos q, if_pos (by omega)]
    · rw [if_neg q, if_neg (by omega)]

set_option maxRecDepth 100000 in
set_option maxHeartbeats 4000000 in
theorem take_any (B g c n m i r : Nat) (G Q : Nat → Nat) (T : Nat → Nat → K) (b : K) (w : World) (h : OwnMat B w g c n m G Q T) (hi : i < n) (hr : r < n) (hne : i ≠ r) (hm : m ≤ 32) :
    Calls Try.prog 86 #[.slice (some ⟨G i, 0, none⟩) m (Q i), .slice (some ⟨G r, 0, none⟩) m (Q r), .int .u8 ((b.val : Nat) : Int)] w fun e w' => e = .returned (.tuple #[]) ∧ OwnMat B w' g c n m G Q (tkR T i r b) ∧ OnlyIn (fun k => k = G i) w w' := by
  have HM := hid h
  clear h
  go_enter Try.func86, Try.ntmps86
  go_wp2
  go_loopw [6] (fun x wr => ∃ k : Nat, k ≤ m ∧ x = .int .i64 k ∧ OwnMat B wr g c n m G Q (tkTo T i r k b) ∧ OnlyIn (fun k => k = G i) w wr) (fun x _ => (m - intOf x).toNat)
  case atStart => exact ⟨0, by omega, rfl, HM.out.congr (fun i _ j _ => by unfold tkTo; rw [if_neg (by omega)]), OnlyIn.refl _ _⟩
  case round =>
    clear HM
    obtain ⟨k, hk, rfl, hm1, ho⟩ := hrel
    by_cases hlt : k < m
    · have c1 := hm1.cell i k hi hlt
      have c2 := hm1.free i k hi
      have c3 := hm1.cell r k hr hlt
      have hx := xor_k (tkTo T i r k b i k) (tkTo T i r k b r k * b)
      have HM := hid ((hm1.set i k (tkTo T i r k b i k + tkTo T i r k b r k * b) hi).congr (fun a _ c _ => tkTo_step T i r k b hne a c))
      have HO := hid (ho.setCell (G i) k rfl (.int .u8 (((tkTo T i r k b i k + tkTo T i r k b r k * b).val : Nat) : Int)))
      have hlt' : (k : Int) < (m : Int) := by omega
      have hk0 : (0 : Int) ≤ (k : Int) := by omega
      clear hm1 ho
      go_wp2_with fail
      go_region_with ((go_at_call 58; refine (rmul_k _ _ _).mono ?_; rintro e w' ⟨rfl, rfl⟩))
      all_goals (go_wp2; go_roundw; (case rel => exact ⟨k + 1, by omega, by go_num, HM.out.drew, HO.out.drew⟩); (case measure => simp [intOf]; omega))
    · have HM := hid (hm1.congr (Y := tkR T i r b) (fun a ha j hj => by
        unfold tkTo tkR
        by_cases e : a = i
        · rw [if_pos ⟨e, by omega⟩, if_pos e]
        · rw [if_neg (fun q => e q.1), if_neg e]))
      have HO := hid ho
      clear hm1 ho
      go_wp2
      go_end0
      exact ⟨rfl, HM.out, HO.out⟩
end Go.Proofs.Ytapgdenodhcliaa

/- Rows that are appended one by one to a list that was nil; contracts of one, copied and Check of the document's own answer: as the program's; what was there is as it was. -/
namespace Go.Proofs.Ytapgdenodhcliaa
open Go.RowKit

/-- n rows that the call has made: row i's value has length M i and capacity C i; of its block N i numbers are known. -/
structure OwnV (B : Nat) (w : World) (v : Value) (n : Nat) (G M C N Q : Nat → Nat) (Y : Nat → Nat → K) : Prop where
  top : w.ownsRow B 22 1 v n (vals n fun i => .slice (some ⟨G i, 0, none⟩) (M i) (C i))
  row : ∀ i, i < n → w.ownsRow B 5 1 (.slice (some ⟨G i, 0, none⟩) (N i) (Q i)) (N i) (vals (N i) fun j => kv (Y i j))
  inj : ∀ i j, i < n → j < n → G i = G j → i = j
theorem OwnV.start (B : Nat) (w : World) (G M C N Q : Nat → Nat) (Y : Nat → Nat → K) : OwnV B w (.slice none 0 0) 0 G M C N Q Y :=
  ⟨World.ownsRow_nil _ _ _ _, fun i hi => absurd hi (by omega), fun i j hi => absurd hi (by omega)⟩
theorem OwnV.push {B : Nat} {w w1 w4 : World} {v v' : Value} {n : Nat} {G M C N Q : Nat → Nat} {Y : Nat → Nat → K} {o : Obj} (h : OwnV B w v n G M C N Q Y) (hb : Below w.heap.size w w1) (g1 c1 q1 : Nat) (hg1 : w.heap.size ≤ g1)
    (hr : w1.ownsRow B 5 1 (.slice (some ⟨g1, 0, none⟩) (N n) q1) (N n) (vals (N n) fun j => kv (Y n j))) (hgrow : (w1.alloc o).grownBy w4 v.ownBlock) (hown : w4.ownsRow B 22 1 v' (n + 1) (vals n (fun i => .slice (some ⟨G i, 0, none⟩) (M i) (C i)) ++ [.slice (some ⟨g1, 0, none⟩) (M n) c1])) :
    OwnV B w4 v' (n + 1) (upd G n g1) M (upd C n c1) N (upd Q n q1) Y where
  top := by
    have e : vals n (fun i => .slice (some ⟨G i, 0, none⟩) (M i) (C i)) ++ [.slice (some ⟨g1, 0, none⟩) (M n) c1] = vals (n + 1) fun i => .slice (some ⟨upd G n g1 i, 0, none⟩) (M i) (upd C n c1 i) := by
      rw [vals_succ]
      congr 1
      · refine vals_congr (fun i hi => ?_)
        unfold upd; rw [if_neg (by omega), if_neg (by omega)]
      · unfold upd; rw [if_pos rfl, if_pos rfl]
    rw [e] at hown; exact hown
  row := fun i hi => by
    have htop : w1.ownsRow B 22 1 v n (vals n fun i => .slice (some ⟨G i, 0, none⟩) (M i) (C i)) := own_keepV h.top (fun b q => hb.block b (h.top.lt b q).2)
    have hk : ∀ b cr mr ys, w1.ownsRow B 5 1 (.slice (some ⟨b, 0, none⟩) mr cr) mr ys → w4.ownsRow B 5 1 (.slice (some ⟨b, 0, none⟩) mr cr) mr ys := fun b cr mr ys hh => by
      have h2 := hh.alloc o
      exact own_keep h2 (hgrow.block b (own_ge h2).2 (fun q => own_ne hh htop (by decide) rfl q.symm))
    by_cases e : i = n
    · subst e
      simp only [upd, if_true]
      exact hk _ _ _ _ hr
    · simp only [upd, if_neg e]
      exact hk _ _ _ _ (own_keep (h.row i (by omega)) (hb.block _ (own_ge (h.row i (by omega))).2))
  inj := fun i j hi hj q => by
    have hlt : ∀ i, i < n → G i < w.heap.size := fun i hi => (own_ge (h.row i hi)).2
    unfold upd at q
    by_cases e1 : i = n
    · by_cases e2 : j = n
      · omega
      · rw [if_pos e1, if_neg e2] at q; have := hlt j (by omega); omega
    · by_cases e2 : j = n
      · rw [if_neg e1, if_pos e2] at q; have := hlt i (by omega); omega
      · rw [if_neg e1, if_neg e2] at q; exact h.inj i j (by omega) (by omega) q
theorem OwnV.bound {B : Nat} {w w1 w4 : World} {v : Value} {n : Nat} {G M C N Q : Nat → Nat} {Y : Nat → Nat → K} {o : Obj} {w0 : World} (h : OwnV B w v n G M C N Q Y) (hb0 : Below B w0 w1) (hsz : B ≤ w1.heap.size) (hgrow : (w1.alloc o).grownBy w4 v.ownBlock) : Below B w0 w4 :=
  Below.grown (hb0.alloc hsz o) hgrow (by simp; omega) (fun b q => (h.top.lt b q).1)
theorem OwnV.toMat {B : Nat} {w : World} {v : Value} {n m : Nat} {G Q : Nat → Nat} {Y : Nat → Nat → K} (h : OwnV B w v n G (fun _ => m) Q (fun _ => m) Q Y) (hn : 0 < n) : ∃ g c, v = .slice (some ⟨g, 0, none⟩) n c ∧ OwnMat B w g c n m G Q Y := by
  obtain ⟨g, c, rfl, _⟩ := h.top.form hn
  exact ⟨g, c, rfl, h.top, h.row, h.inj⟩
theorem upd_const {α : Type} (a : α) (k : Nat) : upd (fun _ => a) k a = fun _ => a := by funext i; unfold upd; split <;> rfl
theorem OwnV.top_alloc {B : Nat} {w w1 : World} {v : Value} {n : Nat} {G M C N Q : Nat → Nat} {Y : Nat → Nat → K} (h : OwnV B w v n G M C N Q Y) (hb : Below w.heap.size w w1) (o : Obj) :
    (w1.alloc o).ownsRow B 22 1 v n (vals n fun i => .slice (some ⟨G i, 0, none⟩) (M i) (C i)) :=
  (own_keepV h.top (fun b q => hb.block b (h.top.lt b q).2)).alloc o
theorem news_one (w : World) (u : Value) : ∀ q x, [u][q]? = some x → (w.alloc (.cells #[u] 22)).cell? ((⟨w.heap.size, 0, none⟩ : Addr).add q) = some x :=
  World.news_of_block (cs := #[u]) (t := 22) (fr := (0, 0)) (heap_alloc_new _ _)

theorem on_row (w : World) (n i B : Nat) (hn : n ≤ 100) (hB : B ≤ w.heap.size) : (w.alloc (.cells ((madeCells #[.int .u8 0] n).setIfInBounds i (.int .u8 1)) 5)).ownsRow B 5 1 (.slice (some ⟨w.heap.size, 0, none⟩) n n) n (vals n fun j => kv (on i j)) := by
  have h := ((own_made w 5 (.int .u8 0) n B (by omega) hB).stored i (kv 1)).1
  rw [World.setCell_alloc_new, vals_set] at h
  rw [vals_congr (W := fun j => kv (on i j)) (fun j _ => by
    unfold upd on
    by_cases e : j = i
    · rw [if_pos e, if_pos e.symm]
    · rw [if_neg e, if_neg (fun q => e q.symm)]; rfl)] at h
  exact h

set_option maxRecDepth 100000 in
set_option maxHeartbeats 1000000 in
theorem rone_any (n : Nat) (w : World) (h0 : 1 ≤ n) (hn : n ≤ 32) :
    Calls Try.prog 56 #[.int .i64 n] w fun e w' => ∃ g c G, e = .returned (.slice (some ⟨g, 0, none⟩) n c) ∧ OwnMat w.heap.size w' g c n n G (fun _ => n) on ∧ Below w.heap.size w w' := by
  obtain ⟨i0, hi0, hz0, hz1, hz2⟩ := info_parts Try.info22
  go_enter Try.func56, Try.ntmps56
  go_wp2
  go_loopw [3, 4] (fun v x wr => ∃ i : Nat, ∃ G : Nat → Nat, i ≤ n ∧ x = .int .i64 i ∧ OwnV w.heap.size wr v i G (fun _ => n) (fun _ => n) (fun _ => n) (fun _ => n) on ∧ Below w.heap.size w wr) (fun _ x _ => (n - intOf x).toNat)
  case atStart => exact ⟨0, fun _ => 0, by omega, rfl, OwnV.start _ _ _ _ _ _ _ _, Below.refl _ _⟩
  case round =>
    obtain ⟨i, G, hi, rfl, hv, hb⟩ := hrel
    by_cases hlt : i < n
    · have hmk := run_make_u8 n (by omega) wr
      have hsz := hb.size
      have c1 : (wr.alloc (.cells (madeCells #[.int .u8 0] n) 5)).cell? ⟨wr.heap.size, i, none⟩ = some (.int .u8 0) := own_cell (V := fun _ => .int .u8 0) (own_made wr 5 (.int .u8 0) n wr.heap.size (by omega) (Nat.le_refl _)) i hlt
      have hb1 : Below wr.heap.size wr (wr.alloc (.cells ((madeCells #[.int .u8 0] n).setIfInBounds i (.int .u8 1)) 5)) := (Below.refl _ _).alloc (Nat.le_refl _) _
      have HT := hid (hv.top_alloc hb1 (.cells #[.slice (some ⟨wr.heap.size, 0, none⟩) n n] 22))
      have HN := hid (news_one (wr.alloc (.cells ((madeCells #[.int .u8 0] n).setIfInBounds i (.int .u8 1)) 5)) (.slice (some ⟨wr.heap.size, 0, none⟩) n n))
      have HR := hid (on_row wr n i w.heap.size (by omega) hsz)
      have HB1 := hid hb1
      have HV := hid hv
      have HB := hid hb
      clear hv hb hb1
      go_wp2_with (at_builtin; refine wpList_append_lies _ rfl _ _ 24 rfl w.heap.size 22 i0 (.slice none 0 0) 1 24 Try.underlying24 hi0 hz0 hz1 hz2 rfl (by omega) u3 i _ rfl HT.out ⟨wr.heap.size + 1, 0, none⟩ 1 1 [.slice (some ⟨wr.heap.size, 0, none⟩) n n] rfl rfl (by have := HN.out; simp only [World.size_alloc] at this; exact this) (by intro u hu; simp at hu; subst hu; rfl) (by omega) (by unfold maxLen; omega) (by omega) (by simp; omega) _ rfl ?_; intro gg cap w4 hown4 hgrow hat hlt4)
      have HX := hid (HV.out.push HB1.out wr.heap.size n n (Nat.le_refl _) HR.out hgrow hown4)
      have HBX := hid (HV.out.bound (HB.out.trans (HB1.out.mono hsz)) (by simp; omega) hgrow)
      rw [upd_const] at HX
      clear hown4 hgrow hat hlt4 HT HN HR HB1 HV HB hmk
      go_wp2
      go_roundw
      case rel => exact ⟨i + 1, _, by omega, by go_num, HX.out, HBX.out⟩
      case measure => simp [intOf]; omega
    · have e : i = n := by omega
      subst e
      obtain ⟨g, c, rfl, hm⟩ := hv.toMat (by omega)
      have HM := hid hm
      have HB := hid hb
      clear hv hb hm
      go_wp2
      go_ret
      exact ⟨g, c, G, rfl, HM.out, HB.out⟩
end Go.Proofs.Ytapgdenodhcliaa

/- Contracts of copied and Check of the document's own answer: as the program's; what was there is as it was. -/
namespace Go.Proofs.Ytapgdenodhcliaa
open Go.RowKit

theorem copied_row {w w1 : World} {m g1 cp1 : Nat} {x : Nat → K} (hown : w1.ownsRow w.heap.size 5 1 (.slice (some ⟨g1, 0, none⟩) (0 + m) cp1) (0 + m) ([] ++ vals m fun j => kv (x j))) (hgrow : (w.alloc (.cells #[] 5)).grownBy w1 (Value.slice (some ⟨w.heap.size, 0, none⟩) 0 0).ownBlock) :
    Hid (w1.ownsRow w.heap.size 5 1 (.slice (some ⟨g1, 0, none⟩) m cp1) m (vals m fun j => kv (x j))) ∧ Hid (Below w.heap.size w w1) ∧ w.heap.size ≤ w1.heap.size := by
  have hb : Below w.heap.size w w1 := Below.grown ((Below.refl _ _).alloc (Nat.le_refl _) _) hgrow (by simp) (fun j hj => by simp [Value.ownBlock] at hj; omega)
  refine ⟨?_, hb, hb.size⟩
  show w1.ownsRow w.heap.size 5 1 (.slice (some ⟨g1, 0, none⟩) m cp1) m (vals m fun j => kv (x j))
  simp only [Nat.zero_add, List.nil_append] at hown; exact hown

set_option maxRecDepth 100000 in
set_option maxHeartbeats 2000000 in
theorem copied_any (p : Option Addr) (n m c : Nat) (A : Nat → Option Addr) (C : Nat → Nat) (X : Nat → Nat → K) (w : World) (h : MatAt w p n A (fun _ => m) C X) (h0 : 1 ≤ n) (hn : n ≤ 32) (h1 : 1 ≤ m) (hm : m ≤ 32) :
    Calls Try.prog 78 #[.slice p n c] w fun e w' => ∃ g cp G Q, e = .returned (.slice (some ⟨g, 0, none⟩) n cp) ∧ OwnMat w.heap.size w' g cp n m G Q X ∧ Below w.heap.size w w' := by
  obtain ⟨i0, hi0, hz0, hz1, hz2⟩ := info_parts Try.info22
  obtain ⟨j0, hj0, hy0, hy1, hy2⟩ := info_parts Try.info5
  obtain ⟨b, o, rfl, bs, os, hc, hr⟩ := h.at (by omega) (by omega)
  have HC := hid hc
  have HR := hid hr
  clear h hc hr
  go_enter Try.func78, Try.ntmps78
  go_wp2
  go_loopw [3, 4] (fun v x wr => ∃ i : Nat, ∃ G Q : Nat → Nat, i ≤ n ∧ x = .int .i64 i ∧ OwnV w.heap.size wr v i G (fun _ => m) Q (fun _ => m) Q X ∧ Below w.heap.size w wr) (fun _ x _ => (n - intOf x).toNat)
  case atStart => exact ⟨0, fun _ => 0, fun _ => 0, by omega, rfl, OwnV.start _ _ _ _ _ _ _ _, Below.refl _ _⟩
  case round =>
    obtain ⟨i, G, Q, hi, rfl, hv, hb⟩ := hrel
    by_cases hlt : i < n
    · have hsz := hb.size
      have c1 := Stays.of_below hb _ _ (HC.out i hlt)
      have c2 : ∀ ob, (wr.alloc ob).cell? ⟨b, o + i, none⟩ = some (.slice (some ⟨bs i, os i, none⟩) m (C i)) := fun ob => by rw [World.cell?_alloc_lt _ _ _ (World.block_lt_of_cell? wr _ c1)]; exact c1
      have r1 := (HR.out i hlt).keep (Stays.of_below hb)
      have hbl : bs i < wr.heap.size := World.block_lt_of_cell? wr _ (r1 0 (by omega))
      have HO0 := hid (World.ownsRow_lit (base := wr.heap.size) (e := 5) (size := 1) wr #[] 0 (Nat.le_refl _) (by unfold maxLen; omega) rfl)
      have HP : Hid (∀ j u, (vals m fun j => kv (X i j))[j]? = some u → (wr.alloc (.cells #[] 5)).cell? ((⟨bs i, os i, none⟩ : Addr).add j) = some u) := vals_cells (fun j hj => by
        rw [World.cell?_alloc_lt _ _ _ hbl]; exact r1 j hj)
      have HV := hid hv
      have HB := hid hb
      clear hv hb r1 HC HR
      go_wp2_with (first
        | (at_builtin; refine wpList_append_lies _ rfl (.tmp 12) (.tmp 16) 22 rfl wr.heap.size 5 j0 (.int .u8 0) 1 1 Try.underlying22 hj0 hy0 hy1 hy2 rfl (by omega) (.slice (some ⟨wr.heap.size, 0, none⟩) 0 0) 0 [] rfl HO0.out ⟨bs i, os i, none⟩ m (C i) (vals m fun j => kv (X i j)) rfl (by rw [vals_len]; omega) HP.out (by intro u hu; unfold vals at hu; obtain ⟨i, _, rfl⟩ := List.mem_map.1 hu; rfl) (by omega) (by unfold maxLen; omega) (by omega) (by simp) _ rfl ?_; intro g1 cp1 w1 hown1 hgrow1 hat1 hlt1; obtain ⟨HR1, HB1, hsz1⟩ := copied_row hown1 hgrow1; clear hown1 hgrow1 hat1 hlt1; rw [Nat.zero_add])
        | (at_builtin; refine wpList_append_lies _ rfl (.tmp 11) (.tmp 18) 24 rfl w.heap.size 22 i0 (.slice none 0 0) 1 24 Try.underlying24 hi0 hz0 hz1 hz2 rfl (by omega) u3 i _ rfl (HV.out.top_alloc HB1.out _) ⟨w1.heap.size, 0, none⟩ 1 1 [.slice (some ⟨g1, 0, none⟩) m cp1] rfl rfl (news_one w1 _) (by intro u hu; simp at hu; subst hu; rfl) (by omega) (by unfold maxLen; omega) (by omega) (by simp; omega) _ rfl ?_; intro gg cap w4 hown4 hgrow hat hlt4))
      have HX := hid (HV.out.push HB1.out g1 cp1 cp1 (own_ge HR1.out).1 (own_base HR1.out hsz) hgrow hown4)
      have HBX := hid (HV.out.bound (HB.out.trans (HB1.out.mono hsz)) (by omega) hgrow)
      clear hown4 hgrow hat hlt4 HR1 HB1 HV HB HO0 HP
      go_wp2
      go_roundw
      case rel => exact ⟨i + 1, _, _, by omega, by go_num, HX.out, HBX.out⟩
      case measure => simp [intOf]; omega
    · have e : i = n := by omega
      subst e
      obtain ⟨g, c, rfl, hm⟩ := hv.toMat (by omega)
      have HM := hid hm
      have HB := hid hb
      clear hv hb hm HC HR
      go_wp2
      go_ret
      exact ⟨g, c, G, Q, rfl, HM.out, HB.out⟩

set_option maxRecDepth 100000 in
set_option maxHeartbeats 2000000 in
theorem rcheck_any (p : Option Addr) (n c : Nat) (A : Nat → Option Addr) (L C : Nat → Nat) (w : World) (hn : n ≤ 100) (h : TopAt w p n A L C) :
    Calls Try.prog 76 #[.slice p n c] w fun e w' => e = .returned (.int .i64 (errC n L)) ∧ ∃ q, w' = w.drewN q := by
  by_cases h1 : 32 < n
  · have HE : Hid (errC n L = 3) := by unfold errC; simp [h1]; trivial
    go_enter Try.func76, Try.ntmps76
    go_wp2
    go_ret
    exact ⟨ret_int HE.out.symm, 0, rfl⟩
  · go_enter Try.func76, Try.ntmps76
    go_wp2
    go_loop [3] (fun i => ∃ k : Nat, k ≤ n ∧ i = .int .i64 k ∧ ∀ j, j < k → L j ≤ 32) (fun i => (n - intOf i).toNat)
    case atStart => exact ⟨0, by omega, rfl, fun j hj => absurd hj (by omega)⟩
    case round =>
      obtain ⟨k, hk, rfl, hs⟩ := hrel
      by_cases hlt : k < n
      · obtain ⟨b, o, rfl, hc⟩ := h.pos (by omega)
        have c1 := hc k hlt
        clear h hc
        by_cases hb : 32 < L k
        · have HE : Hid (errC n L = 3) := by unfold errC; rw [tooLong_true k hlt hb]; simp; trivial
          clear hs
          go_wp2
          go_ret
          exact ⟨ret_int HE.out.symm, 0, rfl⟩
        · have HS : Hid (∀ j, j < k + 1 → L j ≤ 32) := fun j hj => by
            by_cases e : j = k
            · subst e; omega
            · exact hs j (by omega)
          clear hs
          go_wp2
          go_round
          case rel => exact ⟨k + 1, by omega, by go_num, HS.out⟩
          case measure => simp [intOf]; omega
      · have hnl : (decide (32 < n) || tooLong n L) = false := by
          rw [Bool.or_eq_false_iff]; exact ⟨by simpa using h1, tooLong_false (fun i hi => hs i (by omega))⟩
        have HNL := hid hnl
        clear hs hnl
        by_cases hn0 : n = 0
        · have HE : Hid (errC n L = 2) := by unfold errC; rw [HNL.out]; simp [hn0]; trivial
          subst hn0
          clear h
          go_wp2
          go_ret
          exact ⟨ret_int HE.out.symm, 0, rfl⟩
        · obtain ⟨b, o, rfl, hc⟩ := h.pos (by omega)
          have c0 := hc 0 (by omega)
          rw [Nat.add_zero] at c0
          have hnz : ((n : Int) == 0) = false := by simpa using hn0
          by_cases h2 : L 0 = 0
          · have HE : Hid (errC n L = 2) := by unfold errC; rw [HNL.out]; simp [h2]; trivial
            have h2' : ((((L 0 : Nat) : Int)) == 0) = true := by simpa using h2
            clear h hc h2
            go_wp2
            go_ret
            exact ⟨ret_int HE.out.symm, 0, rfl⟩
          · have h2' : (((L 0 : Nat) : Int) == 0) = false := by simpa using h2
            have HC := hid hc
            clear h hc
            go_wp2_with fail
            go_loopw [4] (fun i wr => ∃ k q : Nat, k ≤ n ∧ i = .int .i64 k ∧ wr = w.drewN q ∧ ∀ j, j < k → L j = L 0) (fun i _ => (n - intOf i).toNat)
            case atStart => exact ⟨0, 0, by omega, rfl, rfl, fun j hj => absurd hj (by omega)⟩
            case round =>
              obtain ⟨k, q, hk, rfl, hw, hs⟩ := hrel
              have HW := hid hw
              have c0' : wr.cell? ⟨b, o, none⟩ = some (.slice (A 0) (L 0) (C 0)) := by rw [hw]; simpa using c0
              clear c0
              by_cases hlt : k < n
              · have c1 : wr.cell? ⟨b, o + k, none⟩ = some (.slice (A k) (L k) (C k)) := by rw [hw]; simpa using HC.out k hlt
                have hlt' : (k : Int) < (n : Int) := by omega
                have hpos : (0 : Int) < (n : Int) := by omega
                clear hw
                by_cases e : L k = L 0
                · have HS : Hid (∀ j, j < k + 1 → L j = L 0) := fun j hj => by
                    by_cases q : j = k
                    · rw [q]; exact e
                    · exact hs j (by omega)
                  have e' : (((L k : Nat) : Int) != ((L 0 : Nat) : Int)) = false := by rw [e]; simp
                  clear hs e HC
                  go_wp2_with fail
                  go_quiet (fail)
                  go_wp2
                  go_roundw
                  case rel => exact ⟨k + 1, q + nq, by omega, by go_num, by rw [HW.out, World.drewN_drewN], HS.out⟩
                  case measure => simp [intOf]; omega
                · have e' : (((L k : Nat) : Int) != ((L 0 : Nat) : Int)) = true := by simp; omega
                  have HE : Hid (errC n L = 2) := by unfold errC; rw [HNL.out, evenL_false k hlt e]; simp; trivial
                  clear hs HC e
                  go_wp2_with fail
                  go_quiet (fail)
                  go_wp2
                  go_ret
                  exact ⟨ret_int HE.out.symm, q + nq, by rw [HW.out, World.drewN_drewN]⟩
              · have e : evenL n L = true := evenL_true (fun i hi => hs i (by omega))
                have HE : Hid (errC n L = 0) := by unfold errC; rw [HNL.out, e]; simp [hn0, h2]; trivial
                clear hs HC e hw c0'
                go_wp2
                go_ret
                exact ⟨ret_int HE.out.symm, q, HW.out⟩
end Go.Proofs.Ytapgdenodhcliaa

/- Contracts of LentBytes (once more, over whole blocks) and LentLists of the statements' kit: copies in new memory, each with three marked bytes behind it; what was there is as it was. -/
namespace Go.Proofs.Ytapgdenodhcliaa
open Go.RowKit

/-- What a lent row reads as, its spare room with it. -/
def lentK (L : Nat) (x : Nat → K) (j : Nat) : K := if j < L then x j else kb (160 + j % 90)

/-- A row of N numbers in block g, which the call has made. -/
structure Mk (w wr : World) (g N : Nat) (x : Nat → K) : Prop where
  row : wr.ownsRow w.heap.size 5 1 (.slice (some ⟨g, 0, none⟩) N N) N (vals N fun c => kv (x c))
  bel : Below w.heap.size w wr
theorem Mk.congr {w wr : World} {g N : Nat} {x y : Nat → K} (h : Mk w wr g N x) (e : ∀ c, c < N → x c = y c) : Mk w wr g N y :=
  ⟨by have := h.row; rwa [vals_congr (W := fun c => kv (y c)) (fun c hc => by show kv (x c) = kv (y c); rw [e c hc])] at this, h.bel⟩
theorem Mk.set {w wr : World} {g N : Nat} {x : Nat → K} (h : Mk w wr g N x) (k : Nat) (v : K) : Mk w (wr.setCell ⟨g, k, none⟩ (.int .u8 ((v.val : Nat) : Int))) g N (fun c => if c = k then v else x c) := by
  refine ⟨?_, h.bel.setCell (p := ⟨g, k, none⟩) (own_ge h.row).1 _⟩
  have h1 := (h.row.stored k (kv v)).1
  rw [vals_set, vals_congr (W := fun c => kv (if c = k then v else x c)) (fun c _ => by unfold upd; by_cases e : c = k <;> simp [e])] at h1
  exact h1
theorem Mk.made (w : World) (N : Nat) (hN : N ≤ 70003) : Mk w (w.alloc (.cells (madeCells #[.int .u8 0] N) 5)) w.heap.size N (fun _ => 0) :=
  ⟨own_made w 5 (.int .u8 0) N w.heap.size hN (Nat.le_refl _), (Below.refl _ _).alloc (Nat.le_refl _) _⟩
theorem Mk.sets {w : World} {g N : Nat} : ∀ (ks : List K) (o : Nat) (wr : World) (x : Nat → K), Mk w wr g N x → Mk w (wr.setCells g o (ks.map kv)) g N (fun c => if o ≤ c ∧ c < o + ks.length then (ks[c - o]?).getD 0 else x c)
  | [], o, wr, x, h => h.congr (fun c _ => by rw [if_neg (by simp)])
  | k :: ks, o, wr, x, h => by
    have ih := Mk.sets ks (o + 1) _ _ (h.set o k)
    refine Mk.congr (x := _) ih (fun c _ => ?_)
    by_cases e1 : c = o
    · subst e1
      rw [if_neg (by omega), if_pos rfl, if_pos (by simp)]; simp
    · by_cases e2 : o + 1 ≤ c ∧ c < o + 1 + ks.length
      · rw [if_pos e2, if_pos (by simp; omega), show c - o = (c - (o + 1)) + 1 by omega]; rfl
      · rw [if_neg e2, if_neg e1, if_neg (by simp; omega)]
/-- The first n numbers, as a list. -/
def ksOf (n : Nat) (x : Nat → K) : List K := (List.range n).map x
theorem ksOf_vals (n : Nat) (x : Nat → K) : (ksOf n x).map kv = valN n fun j => (x j).val := by unfold ksOf valN kv; rw [List.map_map]; rfl
theorem ksOf_get (n : Nat) (x : Nat → K) (c : Nat) (h : c < n) : ((ksOf n x)[c]?).getD 0 = x c := by unfold ksOf; simp [h]
theorem Mk.copied {w wr : World} {g N : Nat} {y : Nat → K} (h : Mk w wr g N y) (n : Nat) (x : Nat → K) : Mk w (wr.setCells g 0 (valN n fun j => (x j).val)) g N (fun c => if c < n then x c else y c) := by
  rw [← ksOf_vals]
  refine (Mk.sets (ksOf n x) 0 wr y h).congr (fun c _ => ?_)
  have hl : (ksOf n x).length = n := by simp [ksOf]
  by_cases e : c < n
  · rw [if_pos (by omega), if_pos e, Nat.sub_zero, ksOf_get n x c e]
  · rw [if_neg (by omega), if_neg e]

set_option maxRecDepth 100000 in
set_option maxHeartbeats 1000000 in
theorem lentB_core (p : Option Addr) (n c : Nat) (x : Nat → K) (w w1 : World) (hn : n ≤ 70000)
    (hcp : ∀ ty, (Builtin.copy_ #[22, 22] ty #[.slice (some ⟨w.heap.size, 0, none⟩) (n + 3) (n + 3), .slice p n c]).run Try.prog (w.alloc (.cells (madeCells #[.int .u8 0] (n + 3)) 5)) = .ok (goInt n) w1)
    (hrow : Mk w w1 w.heap.size (n + 3) (fun i => if i < n then x i else 0)) :
    Calls Try.prog 9 #[.slice p n c] w fun e w' => e = .returned (.slice (some ⟨w.heap.size, 0, none⟩) n (n + 3)) ∧ Mk w w' w.heap.size (n + 3) (lentK n x) := by
  have hmk := run_make_u8 (n + 3) (by omega) w
  rw [show ((n + 3 : Nat) : Int) = (n : Int) + 3 from by omega] at hmk
  have HR := hid hrow
  clear hrow
  go_enter Try.func9, Try.ntmps9
  go_wp2
  clear hmk hcp
  go_loopw [4] (fun i wr => ∃ k : Nat, n ≤ k ∧ k ≤ n + 3 ∧ i = .int .i64 k ∧ Mk w wr w.heap.size (n + 3) (fun i => if i < k then lentK n x i else 0)) (fun i _ => (n + 3 - intOf i).toNat)
  case atStart => exact ⟨n, by omega, by omega, rfl, HR.out.congr (fun i _ => by by_cases e : i < n <;> simp [lentK, e])⟩
  case round =>
    obtain ⟨k, hk1, hk2, rfl, hrow⟩ := hrel
    clear HR
    by_cases hlt : k < n + 3
    · have c3 : wr.cell? ⟨w.heap.size, k, none⟩ = some (.int .u8 0) := by rw [own_cell hrow.row k hlt]; simp; rfl
      have c4 := hrow.row.frozenAt k
      have HR := hid ((hrow.set k (lentK n x k)).congr (y := fun i => if i < k + 1 then lentK n x i else 0) (fun i _ => by
        by_cases e : i = k
        · subst e; simp
        · by_cases q : i < k
          · simp [e, q, show i < k + 1 by omega]
          · simp [e, q, show ¬ i < k + 1 by omega]))
      have HL : Hid ((((lentK n x k).val : Nat) : Int) = 160 + (k : Int) % 90) := by
        show (((lentK n x k).val : Nat) : Int) = 160 + (k : Int) % 90
        unfold lentK; rw [if_neg (by omega), kb_val _ (by omega)]; omega
      clear hrow
      go_wp2
      go_roundw
      case rel => exact ⟨k + 1, by omega, by omega, by go_num, by rw [← HL.out]; exact HR.out⟩
      case measure => simp [intOf]; omega
    · have E := hid (hrow.congr (y := lentK n x) (fun i hi => by rw [if_pos (by omega)]))
      clear hrow
      go_wp2
      go_ret
      exact ⟨rfl, E.out⟩
theorem lentB_any (p : Option Addr) (n c : Nat) (x : Nat → K) (w : World) (hn : n ≤ 70000) (hx : StrAt w p n fun j => (x j).val) :
    Calls Try.prog 9 #[.slice p n c] w fun e w' => e = .returned (.slice (some ⟨w.heap.size, 0, none⟩) n (n + 3)) ∧ Mk w w' w.heap.size (n + 3) (lentK n x) := by
  have hrow := Mk.made w (n + 3) (by omega)
  by_cases h0 : n = 0
  · subst h0
    refine lentB_core p 0 c x w _ hn (fun ty => ?_) (hrow.congr (fun i _ => by simp))
    exact run_copy_none (P := Try.prog) _ 22 22 ty 5 _ _ _ _ _ _ Try.underlying22 (by kernel_rfl) (by simp)
  · rcases hx with e | ⟨b, o, rfl, hx⟩
    · exact absurd e h0
    · have hb : b < w.heap.size := World.block_lt_of_cell? w _ (hx 0 (by omega))
      have hx1 : RowAt (w.alloc (.cells (madeCells #[.int .u8 0] (n + 3)) 5)) b o n fun j => (x j).val := fun i hi => by rw [World.cell?_alloc_lt _ _ _ hb]; exact hx i hi
      exact lentB_core _ n c x w _ hn (fun ty => run_copy_u8 _ b o n c w.heap.size (n + 3) (n + 3) (fun j => (x j).val) (fun _ => 0) w rfl (NewRow.made w (n + 3)) hx1 (by omega) ty) (hrow.copied n x)

/-- Lent rows: row i of L i numbers, three more behind. -/
def LentAt (B : Nat) (w : World) (v : Value) (n : Nat) (G L : Nat → Nat) (X : Nat → Nat → K) : Prop := OwnV B w v n G L (fun i => L i + 3) (fun i => L i + 3) (fun i => L i + 3) (fun i => lentK (L i) (X i))
theorem upd_self (f : Nat → Nat) (k : Nat) : upd f k (f k) = f := by funext i; unfold upd; split <;> simp_all

set_option maxRecDepth 100000 in
set_option maxHeartbeats 2000000 in
theorem lentLists_any (p : Option Addr) (n c : Nat) (A : Nat → Option Addr) (L C : Nat → Nat) (X : Nat → Nat → K) (w : World) (hn : n ≤ 100) (hL : ∀ i, i < n → L i ≤ 100) (h : MatAt w p n A L C X) :
    Calls Try.prog 19 #[.slice p n c] w fun e w' => ∃ v G, e = .returned v ∧ LentAt w.heap.size w' v n G L X ∧ Below w.heap.size w w' := by
  obtain ⟨i0, hi0, hz0, hz1, hz2⟩ := info_parts Try.info22
  have H := hid h
  have HL := hid hL
  clear h hL
  go_enter Try.func19, Try.ntmps19
  go_wp2
  go_loopw [3, 4] (fun v x wr => ∃ i : Nat, ∃ G : Nat → Nat, i ≤ n ∧ x = .int .i64 i ∧ LentAt w.heap.size wr v i G L X ∧ Below w.heap.size w wr) (fun _ x _ => (n - intOf x).toNat)
  case atStart => exact ⟨0, fun _ => 0, by omega, rfl, OwnV.start _ _ _ _ _ _ _ _, Below.refl _ _⟩
  case round =>
    obtain ⟨i, G, hi, rfl, hv, hb⟩ := hrel
    by_cases hlt : i < n
    · obtain ⟨b, o, rfl, hc⟩ := H.out.top.pos (by omega)
      have hsz := hb.size
      have c1 := Stays.of_below hb _ _ (hc i hlt)
      have s1 := (H.out.row i hlt).keep (Stays.of_below hb)
      have hLi := HL.out i hlt
      have HV := hid hv
      have HB := hid hb
      have S1 := hid s1
      clear hv hb s1 hc H HL
      go_wp2_with fail
      refine (lentB_any (A i) (L i) (C i) (X i) wr (by omega) S1.out).mono ?_
      rintro e w1 ⟨rfl, hmk⟩
      have HB1 := hid hmk.bel
      have HR1 := hid hmk.row
      have HT := hid (HV.out.top_alloc HB1.out (.cells #[.slice (some ⟨wr.heap.size, 0, none⟩) (L i) (L i + 3)] 22))
      have HN := hid (news_one w1 (.slice (some ⟨wr.heap.size, 0, none⟩) (L i) (L i + 3)))
      have hsz1 := HB1.out.size
      clear hmk
      go_wp2_with (at_builtin; refine wpList_append_lies _ rfl _ _ 24 rfl w.heap.size 22 i0 (.slice none 0 0) 1 24 Try.underlying24 hi0 hz0 hz1 hz2 rfl (by omega) u3 i _ rfl HT.out ⟨w1.heap.size, 0, none⟩ 1 1 [.slice (some ⟨wr.heap.size, 0, none⟩) (L i) (L i + 3)] rfl rfl HN.out (by intro u hu; simp at hu; subst hu; rfl) (by omega) (by unfold maxLen; omega) (by omega) (by simp; omega) _ rfl ?_; intro gg cap w4 hown4 hgrow hat hlt4)
      have HX := hid (HV.out.push HB1.out wr.heap.size (L i + 3) (L i + 3) (Nat.le_refl _) (own_base HR1.out hsz) hgrow hown4)
      have HBX := hid (HV.out.bound (HB.out.trans (HB1.out.mono hsz)) (by omega) hgrow)
      rw [upd_self (fun i => L i + 3) i] at HX
      clear hown4 hgrow hat hlt4 HT HN HR1 HB1 HV HB
      go_wp2
      go_roundw
      case rel => exact ⟨i + 1, _, by omega, by go_num, HX.out, HBX.out⟩
      case measure => simp [intOf]; omega
    · have e : i = n := by omega
      subst e
      have HV := hid hv
      have HB := hid hb
      clear hv hb H HL
      go_wp2
      go_ret
      exact ⟨u3, G, rfl, HV.out, HB.out⟩
end Go.Proofs.Ytapgdenodhcliaa

/- Contracts of CopyBytes, OverBytes and ApartBytes of the statements' kit, over lists each of which lies in a block of its own: the last returns true, and touches no block that was there but those. -/
namespace Go.Proofs.Ytapgdenodhcliaa
open Go.RowKit

set_option maxRecDepth 100000 in
set_option maxHeartbeats 1000000 in
theorem copyB_any (b o n c : Nat) (x : Nat → K) (w : World) (h0 : 1 ≤ n) (hn : n ≤ 300) (h : RowAt w b o n fun j => (x j).val) :
    Calls Try.prog 41 #[.slice (some ⟨b, o, none⟩) n c] w fun e w' => ∃ g cp, e = .returned (.slice (some ⟨g, 0, none⟩) n cp) ∧ w.heap.size ≤ g ∧ w'.ownsRow w.heap.size 5 1 (.slice (some ⟨g, 0, none⟩) n cp) n (vals n fun j => kv (x j)) ∧ Below w.heap.size w w' := by
  obtain ⟨i0, hi0, hz0, hz1, hz2⟩ := info_parts Try.info5
  have hown := World.ownsRow_lit (base := w.heap.size) (e := 5) (size := 1) w #[] 0 (Nat.le_refl _) (by unfold maxLen; omega) rfl
  have hlt : b < w.heap.size := World.block_lt_of_cell? w _ (h 0 (by omega))
  have hcells : ∀ i, i < n → (w.alloc (.cells #[] 5)).cell? ⟨b, o + i, none⟩ = some (kv (x i)) := fun i hi => by
    rw [World.cell?_alloc_lt _ _ _ hlt]; exact h i hi
  have HCE := hid hcells
  have HOWN := hid hown
  clear hown hcells h
  go_enter Try.func41, Try.ntmps41
  go_wp2_with (at_builtin; refine wpList_append_lies _ rfl _ _ 22 rfl w.heap.size 5 i0 (.int .u8 0) 1 1 Try.underlying22 hi0 hz0 hz1 hz2 rfl (by omega) (.slice (some ⟨w.heap.size, 0, none⟩) 0 0) 0 [] rfl HOWN.out ⟨b, o, none⟩ n c (vals n fun j => kv (x j)) rfl (by rw [vals_len]; omega) (vals_cells HCE.out) (by intro u hu; unfold vals at hu; obtain ⟨i, _, rfl⟩ := List.mem_map.1 hu; rfl) (by omega) (by unfold maxLen; omega) (by omega) (by simp) _ rfl ?_; intro gg cap w1 hown1 hgrow hat hlt2)
  obtain ⟨HO, HB, _⟩ := copied_row hown1 hgrow
  clear hown1 hgrow
  go_wp2
  go_ret
  exact ⟨gg, cap, rfl, (own_ge HO.out).1, HO.out, HB.out⟩

theorem size41 (w : World) : (sizeOf (Try.prog.elem 22)).run Try.prog w = .ok 1 w := by
  obtain ⟨i0, hi0, hz0, hz1, hz2⟩ := info_parts Try.info5
  rw [show Try.prog.elem 22 = 5 by kernel_rfl]
  simp [sizeOf, typeInfo, hi0, hz1]
theorem under41 : Try.prog.underlying 22 = some (.slice (Try.prog.elem 22)) := by kernel_rfl
theorem run_cap41 (g n c : Nat) (w : World) : (Instr.slice 22 (.slice (some ⟨g, 0, none⟩) n c) none (some (.int .i64 (c : Int))) none).run Try.prog w = .ok (.slice (some ⟨g, 0, none⟩) c c) w := by
  rw [run_slice_h (P := Try.prog) w 22 (some ⟨g, 0, none⟩) n c under41 .i64 (c : Int) (by omega) (by omega), size41]
  simp [Result.andThen, sliced, Addr.add]

theorem xor90 (a : K) : bits BinOp.xor IntKind.u8 ((a.val : Nat) : Int) 90 = (((a + kb 90).val : Nat) : Int) := by
  rw [K.val_add, kb_val 90 (by decide)]; exact u8_bits a.val a.lt

set_option maxRecDepth 100000 in
set_option maxHeartbeats 1000000 in
theorem overB_any (B g n c : Nat) (x : Nat → K) (w : World) (hc : c ≤ 300) (h : w.ownsRow B 5 1 (.slice (some ⟨g, 0, none⟩) c c) c (vals c fun j => kv (x j))) :
    Calls Try.prog 42 #[.slice (some ⟨g, 0, none⟩) n c] w fun e w' => e = .returned (.tuple #[]) ∧ (∃ y : Nat → K, w'.ownsRow B 5 1 (.slice (some ⟨g, 0, none⟩) c c) c (vals c fun j => kv (y j))) ∧ OnlyIn (fun b => b = g) w w' := by
  have hs := run_cap41 g n c
  have H := hid h
  clear h
  go_enter Try.func42, Try.ntmps42
  go_wp2
  clear hs
  go_loopw [3] (fun i wr => ∃ k : Nat, ∃ y : Nat → K, k ≤ c ∧ i = .int .i64 k ∧ wr.ownsRow B 5 1 (.slice (some ⟨g, 0, none⟩) c c) c (vals c fun j => kv (y j)) ∧ OnlyIn (fun b => b = g) w wr) (fun i _ => (c - intOf i).toNat)
  case atStart => exact ⟨0, x, by omega, rfl, H.out, OnlyIn.refl _ _⟩
  case round =>
    clear H
    obtain ⟨k, y, hk, rfl, hy, ho⟩ := hrel
    by_cases hlt : k < c
    · have c1 : wr.cell? ⟨g, k, none⟩ = some (.int .u8 ((y k).val : Nat)) := own_cell (V := fun j => kv (y j)) hy k hlt
      have c2 := hy.frozenAt k
      have hx := xor90 (y k)
      have HY : Hid ((wr.setCell ⟨g, k, none⟩ (.int .u8 (((y k + kb 90).val : Nat) : Int))).ownsRow B 5 1 (.slice (some ⟨g, 0, none⟩) c c) c (vals c fun j => kv (if j = k then y k + kb 90 else y j))) := by
        have h1 := (hy.stored k (kv (y k + kb 90))).1
        rw [vals_set, vals_congr (W := fun j => kv (if j = k then y k + kb 90 else y j)) (fun j _ => by unfold upd; by_cases e : j = k <;> simp [e])] at h1
        exact h1
      have HO := hid (ho.setCell g k rfl (.int .u8 (((y k + kb 90).val : Nat) : Int)))
      clear hy ho
      go_wp2
      go_roundw
      case rel => exact ⟨k + 1, _, by omega, by go_num, HY.out, HO.out⟩
      case measure => simp [intOf]; omega
    · have HY := hid hy
      have HO := hid ho
      clear hy ho
      go_wp2
      go_end0
      exact ⟨rfl, ⟨y, HY.out⟩, HO.out⟩

/-- From w to w' nothing that was there has turned but what the blocks of S hold. -/
structure SpareIn (S : Nat → Prop) (w w' : World) : Prop where
  os : w'.os = w.os
  tape : w'.tape = w.tape
  output : w'.output = w.output
  size : w.heap.size ≤ w'.heap.size
  block : ∀ b, b < w.heap.size → ¬ S b → w'.heap[b]? = w.heap[b]?
theorem SpareIn.refl (S : Nat → Prop) (w : World) : SpareIn S w w := ⟨rfl, rfl, rfl, Nat.le_refl _, fun _ _ _ => rfl⟩
theorem SpareIn.after {S : Nat → Prop} {w w1 w2 : World} (h : SpareIn S w w1) (h2 : Below w1.heap.size w1 w2) : SpareIn S w w2 :=
  ⟨h2.os.trans h.os, h2.tape.trans h.tape, h2.output.trans h.output, Nat.le_trans h.size h2.size, fun b hb hs => (h2.block b (Nat.lt_of_lt_of_le hb h.size)).trans (h.block b hb hs)⟩
theorem SpareIn.only {S : Nat → Prop} {g : Nat} {w w1 w2 : World} (h : SpareIn S w w1) (h2 : OnlyIn (fun b => b = g) w1 w2) (hg : S g) : SpareIn S w w2 :=
  ⟨h2.os.trans h.os, h2.tape.trans h.tape, h2.output.trans h.output, by rw [h2.size]; exact h.size, fun b hb hs => (h2.block b (fun e => hs (by rw [e]; exact hg))).trans (h.block b hb hs)⟩
theorem SpareIn.below {S : Nat → Prop} {B : Nat} {w0 w w' : World} (h : SpareIn S w w') (hb : Below B w0 w) (hB : B ≤ w.heap.size) (hS : ∀ b, S b → B ≤ b) : Below B w0 w' :=
  ⟨h.os.trans hb.os, h.tape.trans hb.tape, h.output.trans hb.output, Nat.le_trans hb.size h.size, fun b hlt => (h.block b (by omega) (fun q => by have := hS b q; omega)).trans (hb.block b hlt)⟩

/-- Some of the copies are laid, the others are still nil. -/
structure WasAt (w wr : World) (g n k : Nat) (C Gc Qc : Nat → Nat) (X : Nat → Nat → K) : Prop where
  top : wr.ownsRow w.heap.size 22 1 (.slice (some ⟨g, 0, none⟩) n n) n (vals n fun i => if i < k then .slice (some ⟨Gc i, 0, none⟩) (C i) (Qc i) else .slice none 0 0)
  row : ∀ i, i < k → wr.ownsRow w.heap.size 5 1 (.slice (some ⟨Gc i, 0, none⟩) (C i) (Qc i)) (C i) (vals (C i) fun j => kv (X i j))
  bel : Below w.heap.size w wr
theorem WasAt.push {w wr w1 : World} {g n k : Nat} {C Gc Qc : Nat → Nat} {X : Nat → Nat → K} (h : WasAt w wr g n k C Gc Qc X) (hb : Below wr.heap.size wr w1) (g1 c1 : Nat) (hg : wr.heap.size ≤ g1)
    (hr : w1.ownsRow wr.heap.size 5 1 (.slice (some ⟨g1, 0, none⟩) (C k) c1) (C k) (vals (C k) fun j => kv (X k j))) :
    WasAt w (w1.setCell ⟨g, k, none⟩ (.slice (some ⟨g1, 0, none⟩) (C k) c1)) g n (k + 1) C (upd Gc k g1) (upd Qc k c1) X where
  top := by
    have ht := own_keep h.top (hb.block g (own_ge h.top).2)
    have h1 := (ht.stored k (.slice (some ⟨g1, 0, none⟩) (C k) c1)).1
    rw [vals_set] at h1
    rwa [vals_congr (W := fun i => if i < k + 1 then .slice (some ⟨upd Gc k g1 i, 0, none⟩) (C i) (upd Qc k c1 i) else .slice none 0 0) (fun i _ => by
      unfold upd
      by_cases e : i = k
      · subst e; simp
      · by_cases q : i < k
        · simp [e, q, show i < k + 1 by omega]
        · simp [e, q, show ¬ i < k + 1 by omega])] at h1
  row := fun i hi => by
    have hgt := (own_ge h.top).2
    have hsz := h.bel.size
    by_cases e : i = k
    · subst e
      simp only [upd, if_true]
      exact ownsRow_setCell_other (own_base hr hsz) (by simp [Value.ownBlock]; omega) _
    · have h2 := own_keep (h.row i (by omega)) (hb.block _ (own_ge (h.row i (by omega))).2)
      have ha := own_apart h.top (h.row i (by omega)) (by decide)
      simp only [upd, if_neg e]
      exact ownsRow_setCell_other h2 (by simp [Value.ownBlock]; exact fun q => ha q.symm) _
  bel := (h.bel.trans (hb.mono h.bel.size)).setCell (p := ⟨g, k, none⟩) (own_ge h.top).1 _

theorem OwnV.oneRow {B : Nat} {w w' : World} {v : Value} {n i : Nat} {G L C : Nat → Nat} {X : Nat → Nat → K} {y : Nat → K} (h : OwnV B w v n G L C C C X) (hi : i < n) (hy : w'.ownsRow B 5 1 (.slice (some ⟨G i, 0, none⟩) (C i) (C i)) (C i) (vals (C i) fun j => kv (y j))) (ho : OnlyIn (fun b => b = G i) w w') :
    OwnV B w' v n G L C C C (fun r => if r = i then y else X r) where
  top := own_keepV h.top (fun b q => ho.block b (fun e => own_ne h.top (h.row i hi) (by decide) q (by rw [e]; rfl)))
  row := fun r hr => by
    by_cases e : r = i
    · subst e; simp only [if_true]; exact hy
    · simp only [if_neg e]
      exact own_keep (h.row r hr) (ho.block _ (fun q => e (h.inj r i hr hi q)))
  inj := h.inj
theorem OwnV.stay {B : Nat} {w w' : World} {v : Value} {n : Nat} {G M C N Q : Nat → Nat} {X : Nat → Nat → K} (h : OwnV B w v n G M C N Q X) (hb : Below w.heap.size w w') : OwnV B w' v n G M C N Q X where
  top := own_keepV h.top (fun b q => hb.block b (h.top.lt b q).2)
  row := fun i hi => own_keep (h.row i hi) (hb.block _ (own_ge (h.row i hi)).2)
  inj := h.inj
end Go.Proofs.Ytapgdenodhcliaa
