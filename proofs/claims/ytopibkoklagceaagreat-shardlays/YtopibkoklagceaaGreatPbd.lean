/- Texts laid into one, cut to what is needed: the remark ahead of each part says what is proved there. -/
import Derived.Test.YtopibkoklagceaaGreatPbc
import Derived.Test.YtopibkoklagceaaGreatPas
/- Contracts of OverBytes and SameLists over lists of bytes, the document's Lay of any numbers, and the walk of ShardLays. -/
namespace Go.Proofs.YtopibkoklagceaaGreat
open Go Go.RowKit

set_option maxRecDepth 100000 in
set_option maxHeartbeats 1000000 in
theorem over11_any (g n c : Nat) (w : World) (hn : c ≤ maxLen) (h : CellsU w g c) (cs : Array Value) (ha : CAt w g cs 5) (hsz : cs.size = c) :
    Calls Tryz.prog 11 #[.slice (some ⟨g, 0, none⟩) n c] w fun e w' => e = .returned (.tuple #[]) ∧ Only (fun b => b = g) w w' ∧ CellsU w' g c ∧ ∃ cs', CAt w' g cs' 5 ∧ cs'.size = c := by
  have hs := run_cap8 g n c
  have H := hid h
  have HA : Hid (∃ cs', CAt w g cs' 5 ∧ cs'.size = c) := ⟨cs, ha, hsz⟩
  clear ha hsz
  have hn' : c ≤ 9223372036854775807 := hn
  clear h hn
  go_enter Tryz.func11, Tryz.ntmps11
  go_wp2
  clear hs
  go_loopw [3] (fun i wr => ∃ k : Nat, k ≤ c ∧ i = .int .i64 k ∧ Only (fun b => b = g) w wr ∧ CellsU wr g c ∧ Hid (∃ cs', CAt wr g cs' 5 ∧ cs'.size = c)) (fun i _ => (c - intOf i).toNat)
  case atStart => exact ⟨0, by omega, rfl, Only.refl _ _, H.out, HA⟩
  case round =>
    clear H HA
    obtain ⟨k, hk, rfl, ho, hr, HA2⟩ := hrel
    by_cases hlt : k < c
    · have hlt' : (k : Int) < (c : Int) := by omega
      obtain ⟨z, hz, hcz⟩ := hr.c k hlt
      have hfz := hr.f k
      have hx : bits BinOp.xor IntKind.u8 (z : Int) 90 = ((z ^^^ 90 : Nat) : Int) := u8_xor_nat z 90 hz (by decide)
      have HO := hid (ho.trans (Only.set (S := fun b => b = g) wr ⟨g, k, none⟩ (.int .u8 ((z ^^^ 90 : Nat) : Int)) rfl))
      have HR := hid (hr.set k (z ^^^ 90) (xor_lt hz (by decide)))
      have HA3 : Hid (∃ cs', CAt (wr.setCell ⟨g, k, none⟩ (.int .u8 ((z ^^^ 90 : Nat) : Int))) g cs' 5 ∧ cs'.size = c) := by
        obtain ⟨cs', h1, h2⟩ := HA2.out
        exact ⟨_, h1.set k _, by rw [Array.size_setIfInBounds]; exact h2⟩
      clear hr ho HA2
      generalize z ^^^ 90 = y at *
      go_wp2
      go_roundw
      case rel => exact ⟨k + 1, by omega, by go_num, HO.out, HR.out, HA3⟩
      case measure => simp [intOf]; omega
    · have hlt' : ¬ (k : Int) < (c : Int) := by omega
      have HO := hid ho
      have HR := hid hr
      clear hr ho
      go_wp2
      go_end0
      exact ⟨rfl, HO.out, HR.out, HA2.out⟩
/-- Lists of bytes that can be read. -/
def LR (w : World) (v : Value) (Ls : List (List Nat)) : Prop := ∃ po c, v = .slice po Ls.length c ∧ ∀ i L, Ls[i]? = some L → ∃ b o u, po = some ⟨b, o, none⟩ ∧ w.cell? ⟨b, o + i, none⟩ = some u ∧ SL w u L
theorem LR.nil (w : World) : LR w (.slice none 0 0) [] := ⟨none, 0, rfl, fun i L h => by simp at h⟩
theorem LR.below {w w' : World} {v : Value} {Ls : List (List Nat)} (h : LR w v Ls) (hb : Below w.heap.size w w') : LR w' v Ls := by
  obtain ⟨po, c, h1, h2⟩ := h
  refine ⟨po, c, h1, fun i L hL => ?_⟩
  obtain ⟨b, o, u, e, hc, hs⟩ := h2 i L hL
  exact ⟨b, o, u, e, (World.cell?_of_block (hb.block b (World.block_lt_of_cell? _ _ hc))).trans hc, hs.below hb⟩
theorem LL.lr {B : Nat} {w : World} {v : Value} {Ls : List (List Nat)} (h : LL B w v Ls) : LR w v Ls := by
  obtain ⟨g, vs, h1, _, h3, h4, h5⟩ := h
  refine ⟨_, _, h1, fun i L hL => ?_⟩
  have hi : i < vs.size := by rw [h4]; exact (List.getElem?_eq_some_iff.1 hL).1
  have hv : vs[i]? = some vs[i] := Array.getElem?_eq_getElem hi
  exact ⟨g, 0, vs[i], rfl, by rw [Nat.zero_add, h3.cell]; exact hv, (h5 i _ L hv hL).1.sl⟩
theorem LX.lr {B : Nat} {w : World} {v : Value} {Ls : List (List Nat)} (h : LX B w v Ls) : LR w v Ls := by
  obtain ⟨us, h1, h2, h3⟩ := h
  by_cases h0 : 0 < Ls.length
  · obtain ⟨g, c, e, _, _, _, hc⟩ := h1.cells (row1_len us) (by rw [List.length_map, h2]; exact h0)
    rw [List.length_map, h2] at e
    refine ⟨_, _, e, fun i L hL => ?_⟩
    have hi : i < us.length := by rw [h2]; exact (List.getElem?_eq_some_iff.1 hL).1
    have hu : us[i]? = some us[i] := List.getElem?_eq_getElem hi
    have := hc i [us[i]] (by rw [List.getElem?_map, hu]; rfl) 0 us[i] rfl
    exact ⟨g, 0, us[i], rfl, by simpa using this, (h3 i _ L hu hL).sl⟩
  · obtain ⟨po, c, e, _⟩ := h1.form
    rw [List.length_map, h2] at e
    exact ⟨po, c, e, fun i L hL => absurd (List.getElem?_eq_some_iff.1 hL).1 (by omega)⟩
set_option maxRecDepth 100000 in
set_option maxHeartbeats 2000000 in
theorem sameL11 (u v : Value) (Ls : List (List Nat)) (w : World) (hu : LR w u Ls) (hv : LR w v Ls) (h8 : ∀ L ∈ Ls, ∀ z ∈ L, z < 256) (hn : Ls.length ≤ 1000) : Calls Tryz.prog 10 #[u, v] w fun e w' => e = .returned (.bool true) ∧ Below w.heap.size w w' := by
  have HU := hid hu
  have HV := hid hv
  have H8 := hid h8
  obtain ⟨po, c, rfl, _⟩ := hu
  obtain ⟨qo, d, rfl, _⟩ := hv
  obtain ⟨N, hN⟩ : ∃ N, Ls.length = N := ⟨_, rfl⟩
  have HN := hid hN
  rw [hN] at HU HV ⊢
  have hN2 : N ≤ 1000 := by omega
  clear hN hn h8
  go_enter Tryz.func10, Tryz.ntmps10
  go_wp2
  go_loopw [5] (fun q wr => ∃ i : Nat, i ≤ N ∧ q = .int .i64 (i : Int) ∧ Hid (Below w.heap.size w wr)) (fun q _ => (1000000 - intOf q).toNat)
  case atStart => exact ⟨0, Nat.zero_le _, rfl, Below.refl _ _⟩
  case round =>
    obtain ⟨i, hi, rfl, HB⟩ := hrel
    by_cases hlt : i < N
    · obtain ⟨L, hL⟩ : ∃ L, Ls[i]? = some L := ⟨_, List.getElem?_eq_getElem (by rw [HN.out]; exact hlt)⟩
      have hu2 := HU.out.below HB.out
      have hv2 := HV.out.below HB.out
      obtain ⟨p1, c1, e1, h1⟩ := hu2
      obtain ⟨p2, c2, e2, h2⟩ := hv2
      rw [HN.out] at e1 e2
      cases e1
      cases e2
      obtain ⟨b1, o1, u1, rfl, q1, s1⟩ := h1 i L hL
      obtain ⟨b2, o2, u2, rfl, q2, s2⟩ := h2 i L hL
      obtain ⟨y1, x1, f1, _, _⟩ := id s1
      obtain ⟨y2, x2, f2, _, _⟩ := id s2
      subst f1 f2
      have HSM := hid (fun n => sameB_any (s1.below (below_drewN wr n)) (s2.below (below_drewN wr n)) (H8.out L (List.mem_of_getElem? hL)) (H8.out L (List.mem_of_getElem? hL)))
      rw [show decide (L = L) = true from by simp] at HSM
      have hi' : (i : Int) < (N : Int) := by omega
      have hw : IntKind.i64.wrap ((i : Int) + 1) = (i : Int) + 1 := IntWalk.i64_in _ ⟨by omega, by omega⟩
      have HD := hid (fun n => below_on HB.out (below_drewN wr n))
      clear h1 h2 s1 s2 hL
      go_wp2_with fail
      have hHeld : (fun W' : World => W'.cell? ⟨b1, o1 + i, none⟩ = some (.slice y1 L.length x1) ∧ W'.cell? ⟨b2, o2 + i, none⟩ = some (.slice y2 L.length x2)) wr.drew := ⟨q1, q2⟩
      clear q1 q2 HU HV
      refine wp_region_held_drew (S := (fun W' : World => W'.cell? ⟨b1, o1 + i, none⟩ = some (.slice y1 L.length x1) ∧ W'.cell? ⟨b2, o2 + i, none⟩ = some (.slice y2 L.length x2))) (by kernel_rfl) hHeld ?_
      clear hHeld
      intro hHeld
      refine wpAnyH_take (i := 0) (oi := ⟨some 17, .move (.tmp 0), _, _, _, none⟩) (v := .slice (some ⟨b1, o1, none⟩) N c) rfl (by kernel_rfl) (by kernel_rfl) (by kernel_rfl) (fun _ _ _ h => h) (Or.inl ⟨by kernel_rfl, by intro W hW; obtain ⟨q0, q1⟩ := hW; go_simp⟩) hHeld ?_
      refine wpAnyH_take (i := 1) (oi := ⟨some 18, .move (.tmp 5), _, _, _, none⟩) (v := .int .i64 (i : Int)) rfl (by kernel_rfl) (by kernel_rfl) (by kernel_rfl) (fun _ _ _ h => h) (Or.inl ⟨by kernel_rfl, by intro W hW; obtain ⟨q0, q1⟩ := hW; go_simp⟩) hHeld ?_
      refine wpAnyH_take (i := 2) (oi := ⟨some 19, .indexAddr 24 (.tmp 17) (.tmp 18), _, _, _, none⟩) (v := .pointer (some ⟨b1, o1 + i, none⟩)) rfl (by kernel_rfl) (by kernel_rfl) (by kernel_rfl) (fun _ _ _ h => h) (Or.inl ⟨by kernel_rfl, by intro W hW; obtain ⟨q0, q1⟩ := hW; go_simp⟩) hHeld ?_
      refine wpAnyH_take (i := 3) (oi := ⟨some 20, .load 22 (.tmp 19), _, _, _, none⟩) (v := .slice y1 L.length x1) rfl (by kernel_rfl) (by kernel_rfl) (by kernel_rfl) (fun _ _ _ h => h) (Or.inl ⟨by kernel_rfl, by intro W hW; obtain ⟨q0, q1⟩ := hW; go_simp⟩) hHeld ?_
      refine wpAnyH_take (i := 4) (oi := ⟨some 21, .move (.tmp 1), _, _, _, none⟩) (v := .slice (some ⟨b2, o2, none⟩) N d) rfl (by kernel_rfl) (by kernel_rfl) (by kernel_rfl) (fun _ _ _ h => h) (Or.inl ⟨by kernel_rfl, by intro W hW; obtain ⟨q0, q1⟩ := hW; go_simp⟩) hHeld ?_
      refine wpAnyH_take (i := 5) (oi := ⟨some 22, .move (.tmp 5), _, _, _, none⟩) (v := .int .i64 (i : Int)) rfl (by kernel_rfl) (by kernel_rfl) (by kernel_rfl) (fun _ _ _ h => h) (Or.inl ⟨by kernel_rfl, by intro W hW; obtain ⟨q0, q1⟩ := hW; go_simp⟩) hHeld ?_
      refine wpAnyH_take (i := 6) (oi := ⟨some 23, .indexAddr 24 (.tmp 21) (.tmp 22), _, _, _, none⟩) (v := .pointer (some ⟨b2, o2 + i, none⟩)) rfl (by kernel_rfl) (by kernel_rfl) (by kernel_rfl) (fun _ _ _ h => h) (Or.inl ⟨by kernel_rfl, by intro W hW; obtain ⟨q0, q1⟩ := hW; go_simp⟩) hHeld ?_
      refine wpAnyH_take (i := 7) (oi := ⟨some 24, .load 22 (.tmp 23), _, _, _, none⟩) (v := .slice y2 L.length x2) rfl (by kernel_rfl) (by kernel_rfl) (by kernel_rfl) (fun _ _ _ h => h) (Or.inl ⟨by kernel_rfl, by intro W hW; obtain ⟨q0, q1⟩ := hW; go_simp⟩) hHeld ?_
      refine wpAnyH_ready (rs := [8]) (by kernel_rfl) (by simp) ?_
      refine AllReadyH.cons (o := ⟨some 25, .call { callee := .value (.func 23), args := #[.tmp 20, .tmp 24], argTypes := #[22, 22] }, _, _, _, none⟩) rfl (fun K hK => ?_) AllReadyH.nil
      refine step_call rfl 23 #[.slice y1 L.length x1, .slice y2 L.length x2] (by kernel_rfl) ((HSM.out 1).mono ?_)
      rintro e w9 ⟨rfl, hw9⟩
      have hw8 := hw9.symm
      subst hw8
      refine ⟨_, rfl, hK.out _ _ hHeld (fun hHeld => ?_)⟩
      clear hK K
      refine wpAnyH_take (i := 9) (oi := ⟨some 26, .unOp .not 4 (.tmp 25), _, _, _, none⟩) (v := .bool false) rfl (by kernel_rfl) (by kernel_rfl) (by kernel_rfl) (fun _ _ _ h => h) (Or.inl ⟨by kernel_rfl, by intro W hW; obtain ⟨q0, q1⟩ := hW; go_simp⟩) hHeld ?_
      refine wpAnyH_done (by kernel_rfl) ?_ _
      simp only [Act.put, List.setIfInBounds_toArray, List.set_cons_zero, List.set_cons_succ]
      have HB9 := hid (HD.out 1)
      clear hHeld HSM HD
      go_wp2
      go_roundw
      case rel => exact ⟨i + 1, hlt, by congr 1, HB9⟩
      case measure => simp [intOf]; omega
    · have hq : ¬ (i : Int) < (N : Int) := by omega
      go_wp2
      go_ret
      exact ⟨rfl, HB.out⟩
/-- What the document's Lay tells, of any numbers. -/
def RyU (w : World) (E : Int) (Ls : List (List Nat)) (e : Ending) (w' : World) : Prop := ∃ v, e = .returned (.tuple #[v, .int .i64 E]) ∧ LR w' v Ls ∧ Below w.heap.size w w'
theorem rly_any (po : Option Addr) (c : Nat) (k m : Int) (b : List Nat) (w : World) (hk : (Lit.int .i64 k).wf = true) (hm : (Lit.int .i64 m).wf = true) (hb : BL w po b) (h8 : ∀ z ∈ b, z < 256) :
    Calls Tryz.prog 7 #[.slice po b.length c, .int .i64 k, .int .i64 m] w (RyU w (layE k m b.length) (layL k m b)) := by
  have hk2 := bnd64 hk
  have hm2 := bnd64 hm
  by_cases h : k < 1 ∨ m < 1 ∨ 16 < k + m
  · have e1 : layE k m b.length = 5 := by unfold layE; rw [if_pos h]
    have e2 : layL k m b = [] := by unfold layL; rw [e1]; rfl
    rw [e1, e2]
    have HS := hid (U.rsplit_err po b.length c k m w hk2.1 hk2.2 hm2.1 hm2.2 h)
    clear hk hm hb h8 h e1 e2 hk2 hm2
    go_enter Tryz.func7, Tryz.ntmps7
    go_wp2_with (go_at_call 29; refine HS.out.mono ?_; rintro e w1 ⟨rfl, hw⟩; have h3 := hw.symm; subst h3)
    go_ret2
    exact ⟨_, rfl, LR.nil _, Below.refl _ _⟩
  · obtain ⟨x, rfl⟩ : ∃ x : Nat, k = x := ⟨k.toNat, by omega⟩
    obtain ⟨y, rfl⟩ : ∃ y : Nat, m = y := ⟨m.toNat, by omega⟩
    by_cases hn : 65536 < b.length
    · have e1 : layE x y b.length = 3 := by unfold layE; rw [if_neg h, if_pos hn]
      have e2 : layL x y b = [] := by unfold layL; rw [e1]; rfl
      rw [e1, e2]
      have HS := hid (U.rsplit_long po b.length c x y w (by omega) (by omega) (by omega) hn)
      clear hk hm hb h8 h e1 e2 hk2 hm2
      go_enter Tryz.func7, Tryz.ntmps7
      go_wp2_with (go_at_call 29; refine HS.out.mono ?_; rintro e w1 ⟨rfl, hw⟩; have h3 := hw.symm; subst h3)
      go_ret2
      exact ⟨_, rfl, LR.nil _, Below.refl _ _⟩
    · have e1 : layE x y b.length = 0 := by unfold layE; rw [if_neg h, if_neg hn]
      have e2 : layL x y b = fls x y b := by unfold layL; rw [e1, if_pos rfl]; simp
      rw [e1, e2]
      refine (rlay11_ok po c x y b w (by omega) (by omega) (by omega) (by omega) hb h8).mono ?_
      rintro e w' ⟨v, h1, h2, h3⟩
      exact ⟨v, h1, h2.lr, h3⟩
theorem layL_lt (k m : Int) (b : List Nat) : ∀ L ∈ layL k m b, ∀ z ∈ L, z < 256 := by
  intro L hL
  unfold layL at hL
  split at hL
  · unfold fls at hL
    obtain ⟨i, _, rfl⟩ := List.mem_map.1 hL
    exact flL_lt (shd_lt _ b i)
  · cases hL
theorem layL_len (k m : Int) (b : List Nat) : (layL k m b).length ≤ 16 := by
  unfold layL
  split
  · rename_i h
    rw [fls_len]
    unfold layE at h
    split at h
    · cases h
    · omega
  · simp
/-- What the loop of OverBytes carries: only blocks from B on are turned, and each file is still a row of bytes. -/
structure OvI (B : Nat) (w W : World) (pv : Option Addr) (N : Nat) : Prop where
  on : Only (fun b => B ≤ b) w W
  row : ∀ i, i < N → ∃ (g : Nat) (vs : Array Value) (gj : Nat) (cs : Array Value), pv = some ⟨g, 0, none⟩ ∧ CAt W g vs 22 ∧ vs[i]? = some (.slice (some ⟨gj, 0, none⟩) cs.size cs.size) ∧ B ≤ gj ∧ CellsU W gj cs.size ∧ CAt W gj cs 5 ∧ cs.size ≤ maxLen
theorem OvI.step {B : Nat} {w W W2 : World} {pv : Option Addr} {N gi : Nat} {ci : Array Value} (h : OvI B w W pv N) (hg : B ≤ gi) (hc : CAt W gi ci 5) (ho : Only (fun b => b = gi) W W2) (hu : CellsU W2 gi ci.size) (ha : ∃ cs', CAt W2 gi cs' 5 ∧ cs'.size = ci.size) : OvI B w W2 pv N where
  on := h.on.trans (ho.mono fun b e => by show B ≤ b; rw [show b = gi from e]; exact hg)
  row := fun i hi => by
    obtain ⟨g, vs, gj, cs, h1, h2, h3, h4, h5, h6, h7⟩ := h.row i hi
    have hne : g ≠ gi := cat_ne h2 hc (by decide)
    by_cases e : gj = gi
    · subst e
      have e2 : cs = ci := by unfold CAt at h6 hc; rw [h6] at hc; cases hc; rfl
      subst e2
      obtain ⟨cs', h8, h9⟩ := ha
      exact ⟨g, vs, gj, cs', h1, h2.keep (ho.block g h2.lt hne), by rw [h9]; exact h3, h4, by rw [h9]; exact hu, h8, by rw [h9]; exact h7⟩
    · refine ⟨g, vs, gj, cs, h1, h2.keep (ho.block g h2.lt hne), h3, h4, ⟨fun x hx => ?_, fun x => ?_⟩, h6.keep (ho.block gj h6.lt e), h7⟩
      · obtain ⟨z, hz, q⟩ := h5.c x hx
        exact ⟨z, hz, (World.cell?_of_block (ho.block gj h6.lt e)).trans q⟩
      · rw [(h6.keep (ho.block gj h6.lt e)).free]
theorem ll_ovI {B : Nat} {w : World} {v : Value} {Ls : List (List Nat)} {po : Option Addr} {n c : Nat} (hv : v = .slice po n c) (h : (v = .slice none 0 0 ∧ Ls = []) ∨ LL B w v Ls) (h8 : ∀ L ∈ Ls, ∀ z ∈ L, z < 256) : OvI B w w po Ls.length where
  on := Only.refl _ _
  row := fun i hi => by
    rcases h with ⟨_, h⟩ | ⟨g, vs, h1, _, h3, h4, h5⟩
    · rw [h] at hi; simp at hi
    · have hv2 : vs[i]? = some (vs[i]'(by rw [h4]; exact hi)) := Array.getElem?_eq_getElem _
      have hL : Ls[i]? = some Ls[i] := List.getElem?_eq_getElem hi
      obtain ⟨hb, gj, e, hc⟩ := h5 i _ _ hv2 hL
      have hsz : (Ls[i].map u8).toArray.size = Ls[i].length := by simp
      rw [hv] at h1
      cases h1
      refine ⟨g, vs, gj, (Ls[i].map u8).toArray, rfl, h3, by rw [hsz, ← e]; exact hv2, ?_, ⟨fun x hx => ?_, fun x => hc.free x⟩, hc, ?_⟩
      · have := (own_ge hb gj (by rw [e]; rfl)).1; exact this
      · rw [hsz] at hx
        exact ⟨Ls[i].getD x 0, get256 (h8 _ (List.mem_of_getElem? hL)) x hx, by rw [hc.cell]; simp [hx, u8]⟩
      · rw [hsz]
        rcases hb.2 with ⟨e2, _⟩ | ⟨g2, cap, cur, e2, _, _, h6, h7, _⟩
        · rw [e] at e2; cases e2
        · exact Nat.le_trans h6 h7
theorem OvI.below {B : Nat} {w W W2 : World} {pv : Option Addr} {N : Nat} (h : OvI B w W pv N) (hb : Below W.heap.size W W2) : OvI B w W2 pv N where
  on := h.on.trans (Only.of_below hb)
  row := fun i hi => by
    obtain ⟨g, vs, gj, cs, h1, h2, h3, h4, h5, h6, h7⟩ := h.row i hi
    refine ⟨g, vs, gj, cs, h1, h2.below hb, h3, h4, ⟨fun x hx => ?_, fun x => (h6.below hb).free x⟩, h6.below hb, h7⟩
    obtain ⟨z, hz, q⟩ := h5.c x hx
    exact ⟨z, hz, (World.cell?_of_block (hb.block gj h6.lt)).trans q⟩
set_option maxRecDepth 100000 in
set_option maxHeartbeats 4000000 in
theorem lays_core (po : Option Addr) (c : Nat) (k m : Int) (b : List Nat) (p d : ByteArray) (w : World) (hk : (Lit.int .i64 k).wf = true) (hm : (Lit.int .i64 m).wf = true) (hb : BL w po b) (h8 : ∀ z ∈ b, z < 256) (hn1 : ¬ (b.length > 3000 ∧ b.length ≤ 65536)) (hn2 : b.length ≤ 66000) (hp : p.size ≤ 500) (hd : d.size ≤ 100) :
    Calls Tryz.prog 3 #[.slice po b.length c, .int .i64 k, .int .i64 m, .string p, .string d] w fun e w' => e = .returned (.bool true) ∧ Below w.heap.size w w' := by
  have HLE := hid (lentB_any po c b w (by omega) hb)
  have HSL := hid (fun (W : World) (g : Nat) (h : BL W (some ⟨g, 0, none⟩) b) => slay_any (some ⟨g, 0, none⟩) (b.length + 3) k m b W hk hm (by omega) h h8)
  have HRL := hid (fun (W : World) (h : BL W po b) => rly_any po c k m b W hk hm h h8)
  have HNA := hid (fun W => name_any p d W (by omega))
  have HRN := hid (fun W => rname11_any p d W (by omega))
  have HKE := hid (fun (W : World) (g : Nat) (hl : Lent W g b) (h : BL W po b) => keptB_any g po c b W (by omega) hl h)
  have HSA := hid (fun (u v : Value) (W : World) (hu : LR W u (layL k m b)) (hv : LR W v (layL k m b)) => sameL11 u v (layL k m b) W hu hv (layL_lt k m b) (by have := layL_len k m b; omega))
  have HLT := hid (layL_lt k m b)
  have HLN := hid (layL_len k m b)
  have HBL := hid hb
  have q3 : ¬ (p.size : Int) > 500 := by omega
  have q4 : ¬ (d.size : Int) > 100 := by omega
  obtain ⟨Ls, hLs⟩ : ∃ Ls, layL k m b = Ls := ⟨_, rfl⟩
  rw [hLs] at HSL HRL HSA HLT HLN
  obtain ⟨n, hnn⟩ : ∃ n, b.length = n := ⟨_, rfl⟩
  have HNN := hid hnn
  rw [hnn] at HLE HSL HRL HKE hn1 hn2 ⊢
  generalize layE k m n = E at HSL HRL
  generalize nmV p d = V at HNA HRN
  generalize nmE p d = F at HNA HRN
  have q2 : ¬ (n : Int) > 66000 := by omega
  have q1 : ((n : Int) > 3000 ∧ ¬ (n : Int) ≤ 65536) ∨ ¬ (n : Int) > 3000 := by omega
  clear hb h8 hk hm hp hd hLs hnn hn1
  rcases q1 with ⟨q1, q5⟩ | q1
  all_goals
    go_enter Tryz.func3, Tryz.ntmps3
    go_wp2_with (first
      | (go_at_call 5; refine HLE.out.mono ?_; rintro e w1 ⟨rfl, hl1, hb1⟩; have HL1 := hid hl1; have HB1 := hid hb1; clear hl1 hb1)
      | (go_at_call 6; refine (HSL.out w1 _ HL1.out.bl).mono ?_; rintro e w2 ⟨v2, rfl, hv2, hb2⟩; have HV2 := hid hv2; have HB2 := hid hb2; have HS2 := hid (show LR w2 v2 Ls from hv2.elim (fun h => by rw [h.1, h.2]; exact LR.nil _) (fun h => h.lr)); obtain ⟨pv, cv, ev, _⟩ := id HS2.out; subst ev; clear hv2 hb2)
      | (go_at_call 7; refine (HRL.out w2 (HBL.out.below (below_on HB1.out HB2.out))).mono ?_; rintro e w3 ⟨v3, rfl, hv3, hb3⟩; have HV3 := hid hv3; have HB3 := hid hb3; obtain ⟨pr, cr, er, _⟩ := id hv3; subst er; clear hv3 hb3)
      | (go_at_call 8; refine (HNA.out _).mono ?_; rintro e w4 ⟨rfl, hb4⟩; have HB4 := hid (below_on HB3.out hb4); have HV4 := hid (HV3.out.below hb4); clear hb4)
      | (go_at_call 9; refine (HRN.out _).mono ?_; rintro e w5 ⟨rfl, hw5⟩; have h5 := hw5.symm; subst h5)
      | (go_at_call 10; refine (HSA.out _ _ w4 (HS2.out.below HB4.out) HV4.out).mono ?_; rintro e w6 ⟨rfl, hb6⟩; have HB6 := hid (below_on HB4.out hb6); clear hb6))
    have HO0 := hid ((ll_ovI rfl HV2.out HLT.out).below HB6.out)
    obtain ⟨N, hN⟩ : ∃ N, Ls.length = N := ⟨_, rfl⟩
    have hN16 : N ≤ 16 := by rw [← hN]; exact HLN.out
    rw [hN] at HO0 ⊢
    clear HLE HSL HRL HNA HRN HSA HV2 HS2 HV3 HV4 hN
    go_loopw [20] (fun q wr => ∃ i : Nat, i ≤ N ∧ q = .int .i64 (i : Int) ∧ Hid (OvI w1.heap.size w2 wr pv N)) (fun q _ => (1000000 - intOf q).toNat)
    case atStart => exact ⟨0, Nat.zero_le _, rfl, HO0⟩
    case round =>
      obtain ⟨i, hi, rfl, HO⟩ := hrel
      by_cases hlt : i < N
      · obtain ⟨g, vs, gj, cs, rfl, h2, h3, h4, h5, h6, h7⟩ := HO.out.row i hlt
        have c1 : wr.cell? ⟨g, i, none⟩ = some (.slice (some ⟨gj, 0, none⟩) cs.size cs.size) := by rw [h2.cell]; exact h3
        have HOV := hid (over11_any gj cs.size cs.size wr h7 h5 cs h6 rfl)
        have HST := hid (fun (W2 : World) (ho : Only (fun b => b = gj) wr W2) (hu : CellsU W2 gj cs.size) (ha : ∃ cs', CAt W2 gj cs' 5 ∧ cs'.size = cs.size) => HO.out.step h4 h6 ho hu ha)
        have hi' : (i : Int) < (N : Int) := by omega
        have hw : IntKind.i64.wrap ((i : Int) + 1) = (i : Int) + 1 := IntWalk.i64_in _ ⟨by omega, by omega⟩
        clear h2 h3 h4 h5 h6 h7
        go_wp2_with (go_at_call 11; refine HOV.out.mono ?_; rintro e w7 ⟨rfl, ho7, hu7, ha7⟩; have HO7 := hid (HST.out w7 ho7 hu7 ha7); clear ho7 hu7 ha7)
        go_roundw
        case rel => exact ⟨i + 1, hlt, by congr 1, HO7⟩
        case measure => simp [intOf]; omega
      · have hq : ¬ (i : Int) < (N : Int) := by omega
        have hlt1 : w.heap.size < w1.heap.size := HL1.out.lt
        have hle : Lent wr w.heap.size b := (HL1.out.below HB2.out).only HO.out.on (by show ¬ w1.heap.size ≤ w.heap.size; omega)
        have hbw : Below w1.heap.size w1 wr := below_tr (below_less HB2.out (Nat.le_refl _)) (HO.out.on.below HB2.out.size (fun x h => h))
        have hbr : BL wr po b := HBL.out.below (below_on HB1.out hbw)
        have HKP := hid (HKE.out wr w.heap.size hle hbr)
        have HBW := hid (below_on HB1.out hbw)
        clear hle hbw hbr hlt1
        go_wp2_with (first
          | (go_at_call 12; refine HKP.out.mono ?_; rintro e w8 ⟨rfl, hb8⟩; have HB8 := hid (below_on HBW.out hb8); clear hb8)
          | (go_at_call 13; refine (awake11_any _).mono ?_; rintro e w9 ⟨rfl, hb9⟩; have HB9 := hid (below_on HB8.out hb9); clear hb9))
        go_ret
        exact ⟨rfl, HB9.out⟩
end Go.Proofs.YtopibkoklagceaaGreat
