/- Texts laid into one, cut to what is needed: the remark ahead of each part says what is proved there. -/
import Derived.Test.YtkiojnledimihaaPac
import Derived.Test.YtkiojnledimihaaPaa
import Derived.Laws.Rows
import Derived.Laws.CopyOwn
import Derived.BigQuiet
import Derived.Deep.Quiet
/- The document's with, of chapter 13: rising texts, with one more. (Written by tools/gen_Pa.py.) -/
namespace Go.Proofs.Ytkiojnledimihaa
open Go Go.RowKit Go.Shelf
set_option maxHeartbeats 2000000 in
set_option maxRecDepth 100000 in
theorem rwith13_any {B : Nat} {w : World} {v : Value} {l : List Nm} (h : TxtL B w v l) (hl : l.length ≤ 1000000) (hB : B ≤ w.heap.size) (s : Nm) :
    Calls Try.prog 30 #[v, sv s] w (WthAt B w (wth l s)) := by
  have HW := hid (wth_at l s)
  obtain ⟨R, hR⟩ : ∃ R, wth l s = R := ⟨_, rfl⟩
  rw [hR] at HW ⊢
  clear hR
  have H := hid h
  rcases h.2 with ⟨rfl, h0⟩ | ⟨g, cap, cur, rfl, hBg, hg, hlc, _, _, _⟩
  · have h0' : l = [] := List.length_eq_zero_iff.1 h0
    subst h0'
    obtain ⟨v1, w1, v2, w2, v3, w3, r1, r2, r3, hend⟩ := with_runs hl hB s 0 (Nat.le_refl _) none none 0 0 0 rfl (fun _ _ => .inl ⟨rfl, rfl, rfl⟩) (fun _ _ => .inl ⟨rfl, rfl, rfl⟩)
    have HR1 := hid r1
    have HR2 := hid r2
    have HR3 := hid r3
    have HE : Hid (WthAt B w R (.returned v3) w3) := hid (by rw [HW.out 0 (Nat.le_refl _) (fun i hi => absurd hi (Nat.not_lt_zero _)) (fun h => absurd h (Nat.not_lt_zero _)), if_neg (fun h => absurd h.1 (Nat.not_lt_zero _))]; exact hend)
    clear h r1 r2 r3 hend
    go_enter Try.func30, Try.ntmps30
    go_wp2
    go_loopw [5] (fun q wr => q = .int .i64 0 ∧ wr = w) (fun _ _ => 0)
    case atStart => exact ⟨rfl, rfl⟩
    case round =>
      obtain ⟨rfl, hw⟩ := hrel
      subst hw
      go_wp2_with (first
        | (at_builtin; refine wpList_append_run _ _ 30 rfl rfl _ _ v1 rfl rfl HR1.out ?_; clear HR1)
        | (at_builtin; refine wpList_append_run _ _ 30 rfl rfl _ _ v2 rfl rfl HR2.out ?_; clear HR2)
        | (at_builtin; refine wpList_append_run _ _ 30 rfl rfl _ _ v3 rfl rfl HR3.out ?_; clear HR3))
      go_ret
      exact HE.out
  · have HCE := hid (tx_cells h)
    have hgl : g < w.heap.size := (own_ge h g rfl).2
    have HCB : Hid (∀ W, Below w.heap.size w W → ∀ j, j < l.length → W.cell? ⟨g, j, none⟩ = some (sv (l.getD j []))) := hid (fun W hb j hj => (World.cell?_of_block (a := ⟨g, j, none⟩) (hb.block g hgl)).trans (HCE.out j hj))
    have HSQ := hid (fun x => sv_eq x s)
    have hlc' : (l.length : Int) ≤ (cap : Int) := by omega
    have hlm : (l.length : Int) ≤ 1000000 := by omega
    have HRUN : Hid (∀ n, n ≤ l.length → ∃ v1 w1 v2 w2 v3 w3, (Builtin.append_ #[30, 30] 30 #[.slice (some ⟨w.heap.size, 0, none⟩) 0 0, .slice (some ⟨g, 0, none⟩) n cap]).run Try.prog (w.alloc (.cells #[] 9)) = .ok v1 w1 ∧
      (Builtin.append_ #[30, 30] 30 #[v1, .slice (some ⟨w1.heap.size, 0, none⟩) 1 1]).run Try.prog (w1.alloc (.cells #[sv s] 9)) = .ok v2 w2 ∧
      (Builtin.append_ #[30, 30] 30 #[v2, .slice (some ⟨g, n, none⟩) (l.length - n) (cap - n)]).run Try.prog w2 = .ok v3 w3 ∧ WthAt B w (l.take n ++ [s] ++ l.drop n) (.returned v3) w3) := hid (fun n hn =>
      with_runs hl hB s n hn _ _ _ _ _ rfl (fun W hb => .inr ⟨g, 0, rfl, fun i hi => by rw [Nat.zero_add]; exact HCB.out W hb i (by omega)⟩) (fun W hb => .inr ⟨g, n, rfl, fun i hi => HCB.out W hb (n + i) (by omega)⟩))
    have HBO := hid (Below.refl w.heap.size w)
    clear h hg
    go_enter Try.func30, Try.ntmps30
    go_wp2
    go_loopw [5] (fun q wr => ∃ n : Nat, n ≤ l.length ∧ q = .int .i64 (n : Int) ∧ wr = w ∧ ∀ i, i < n → bytesBefore (l.getD i []) s = true) (fun q _ => (1000001 - intOf q).toNat)
    case atStart => exact ⟨0, Nat.zero_le _, rfl, rfl, fun i hi => absurd hi (Nat.not_lt_zero _)⟩
    case round =>
      obtain ⟨n, hn, rfl, hw, hbf⟩ := hrel
      subst hw
      have HBF := hid hbf
      clear hbf
      have hn' : (n : Int) ≤ (l.length : Int) := by omega
      have hnc : (n : Int) ≤ (cap : Int) := by omega
      by_cases hlt : n < l.length
      · have hlt' : (n : Int) < (l.length : Int) := by omega
        have z0 := HCE.out n hlt
        cases hbb : bytesBefore (l.getD n []) s with
        | true =>
          have HB2 : Hid (∀ i, i < n + 1 → bytesBefore (l.getD i []) s = true) := hid (fun i hi => if e : i = n then (by rw [e]; exact hbb) else HBF.out i (by omega))
          rw [← less_before] at hbb
          generalize l.getD n [] = y at z0 hbb
          go_wp2
          go_roundw
          case rel => exact ⟨n + 1, by omega, by go_num, by trivial, HB2.out⟩
          case measure => simp only [intOf]; omega
        | false =>
          have HWW := hid (HW.out n hn HBF.out (fun _ => hbb))
          rw [← less_before] at hbb
          by_cases he : l.getD n [] = s
          · have HE := HWW.out
            rw [if_pos ⟨hlt, he⟩] at HE
            have HEND : Hid (WthAt B wr R (.returned (.slice (some ⟨g, 0, none⟩) l.length cap)) wr) := hid (by rw [HE]; exact ⟨_, _, rfl, H.out, HBO.out⟩)
            clear HE HWW
            rw [he] at z0 hbb
            go_wp2
            go_ret
            exact HEND.out
          · have HE := HWW.out
            rw [if_neg (fun h => he h.2)] at HE
            obtain ⟨v1, w1, v2, w2, v3, w3, r1, r2, r3, hend⟩ := HRUN.out n hn
            have HR1 := hid r1
            have HR2 := hid r2
            have HR3 := hid r3
            have HEND : Hid (WthAt B wr R (.returned v3) w3) := hid (by rw [HE]; exact hend)
            have hne : (⟨(l.getD n []).toArray⟩ : ByteArray) ≠ ⟨s.toArray⟩ := fun e => he ((HSQ.out _).1 e)
            have hx2 := ba_ne hne
            have hys : (l.getD n [] == s) = false := beq_eq_false_iff_ne.2 he
            clear HE HWW r1 r2 r3 hend hne he HRUN
            generalize l.getD n [] = y at z0 hbb hx2 hys
            go_wp2_with (first
              | (at_builtin; refine wpList_append_run _ _ 30 rfl rfl _ _ v1 rfl rfl HR1.out ?_; clear HR1)
              | (at_builtin; refine wpList_append_run _ _ 30 rfl rfl _ _ v2 rfl rfl HR2.out ?_; clear HR2)
              | (at_builtin; refine wpList_append_run _ _ 30 rfl rfl _ _ v3 rfl rfl HR3.out ?_; clear HR3))
            go_ret
            exact HEND.out
      · have hlt' : ¬ (n : Int) < (l.length : Int) := by omega
        have HE := HW.out n hn HBF.out (fun h => absurd h hlt)
        rw [if_neg (fun h => hlt h.1)] at HE
        by_cases hcn : cap = n
        · have hcn' : (cap : Int) = (n : Int) := by omega
          obtain ⟨v1, w1, v2, w2, v3, w3, r1, r2, r3, hend⟩ := with_runs hl hB s n hn (some ⟨g, 0, none⟩) (some ⟨g, 0, none⟩) (l.length - n) cap (cap - n) rfl (fun W hb => .inr ⟨g, 0, rfl, fun i hi => by rw [Nat.zero_add]; exact HCB.out W hb i (by omega)⟩) (fun W hb => .inr ⟨g, 0, rfl, fun i hi => absurd hi (by omega)⟩)
          have HR1 := hid r1
          have HR2 := hid r2
          have HR3 := hid r3
          have HEND : Hid (WthAt B wr R (.returned v3) w3) := hid (by rw [HE]; exact hend)
          clear HE r1 r2 r3 hend HRUN hlt
          go_upto_region 7 with (first
            | (at_builtin; refine wpList_append_run _ _ 30 rfl rfl _ _ v1 rfl rfl HR1.out ?_; clear HR1))
          go_upto_region 8 with (first
            | (at_builtin; refine wpList_append_run _ _ 30 rfl rfl _ _ v2 rfl rfl HR2.out ?_; clear HR2))
          go_wp2_with (first
            | (at_builtin; refine wpList_append_run _ _ 30 rfl rfl _ _ v3 rfl rfl HR3.out ?_; clear HR3))
          go_ret
          exact HEND.out
        · have hcn' : ¬ (cap : Int) = (n : Int) := by omega
          obtain ⟨v1, w1, v2, w2, v3, w3, r1, r2, r3, hend⟩ := with_runs hl hB s n hn (some ⟨g, 0, none⟩) (some ⟨g, n, none⟩) (l.length - n) cap (cap - n) rfl (fun W hb => .inr ⟨g, 0, rfl, fun i hi => by rw [Nat.zero_add]; exact HCB.out W hb i (by omega)⟩) (fun W hb => .inr ⟨g, n, rfl, fun i hi => absurd hi (by omega)⟩)
          have HR1 := hid r1
          have HR2 := hid r2
          have HR3 := hid r3
          have HEND : Hid (WthAt B wr R (.returned v3) w3) := hid (by rw [HE]; exact hend)
          clear HE r1 r2 r3 hend HRUN hlt
          go_upto_region 7 with (first
            | (at_builtin; refine wpList_append_run _ _ 30 rfl rfl _ _ v1 rfl rfl HR1.out ?_; clear HR1))
          go_upto_region 8 with (first
            | (at_builtin; refine wpList_append_run _ _ 30 rfl rfl _ _ v2 rfl rfl HR2.out ?_; clear HR2))
          go_wp2_with (first
            | (at_builtin; refine wpList_append_run _ _ 30 rfl rfl _ _ v3 rfl rfl HR3.out ?_; clear HR3))
          go_ret
          exact HEND.out
end Go.Proofs.Ytkiojnledimihaa

/- Lists of texts that lie anywhere; the document's Merge. -/
namespace Go.Proofs.Ytkiojnledimihaa
open Go Go.RowKit Go.Shelf

/-- A list of texts in memory. -/
structure TV where
  po : Option Addr
  c : Nat
  ns : List Nm
instance : Inhabited TV := ⟨⟨none, 0, []⟩⟩
abbrev TV.v (t : TV) : Value := .slice t.po t.ns.length t.c
/-- Lists of texts that lie anywhere. -/
structure TsO (w : World) (po : Option Addr) (l : List TV) : Prop where
  at_ : l = [] ∨ ∃ b o, po = some ⟨b, o, none⟩ ∧ ∀ i, i < l.length → w.cell? ⟨b, o + i, none⟩ = some (l.getD i default).v
  el : ∀ t ∈ l, TxO w t.po t.ns
theorem TsO.below {w w' : World} {po : Option Addr} {l : List TV} (h : TsO w po l) (hb : Below w.heap.size w w') : TsO w' po l := by
  refine ⟨h.at_.imp id ?_, fun t ht => (h.el t ht).below hb⟩
  rintro ⟨b, o, e, h1⟩
  exact ⟨b, o, e, fun i hi => (World.cell?_of_block (a := ⟨b, o + i, none⟩) (hb.block b (cell_lt2 (h1 i hi)))).trans (h1 i hi)⟩
theorem TsO.row {w : World} {po : Option Addr} {l : List TV} (h : TsO w po l) {i : Nat} (hi : i < l.length) : ∃ b o, po = some ⟨b, o, none⟩ ∧ w.cell? ⟨b, o + i, none⟩ = some (.slice (l.getD i default).po (l.getD i default).ns.length (l.getD i default).c) ∧ TxO w (l.getD i default).po (l.getD i default).ns := by
  rcases h.at_ with e | ⟨b, o, e, h1⟩
  · rw [e] at hi; exact absurd hi (Nat.not_lt_zero _)
  · exact ⟨b, o, e, h1 i hi, h.el _ (by rw [getD_in _ _ _ hi]; exact List.getElem_mem hi)⟩
/-- All their texts. -/
def flT (l : List TV) : List Nm := l.flatMap (·.ns)
def mgT (l : List TV) : List Nm := wths [] (flT l)
theorem flT_step (l : List TV) (i : Nat) (hi : i < l.length) : flT (l.take (i + 1)) = flT (l.take i) ++ (l.getD i default).ns := by
  unfold flT
  rw [List.take_add_one, List.getElem?_eq_getElem hi, getD_in _ _ _ hi, List.flatMap_append]
  simp only [Option.toList_some, List.flatMap_cons, List.flatMap_nil, List.append_nil]
theorem flT_le (l : List TV) (i : Nat) : (flT (l.take i)).length ≤ (flT l).length := by
  have : flT l = flT (l.take i) ++ flT (l.drop i) := by
    have h := congrArg flT (List.take_append_drop i l)
    unfold flT at *
    rw [List.flatMap_append] at h
    exact h.symm
  rw [this, List.length_append]; omega
theorem wths_step (L ns : List Nm) (k : Nat) (hk : k < ns.length) : wths [] (L ++ ns.take (k + 1)) = wth (wths [] (L ++ ns.take k)) (ns.getD k []) := by
  rw [List.take_add_one, List.getElem?_eq_getElem hk, getD_in _ _ _ hk, ← List.append_assoc, wths_app]
  rfl
/-- What Merge has so far. -/
structure MgO (w : World) (l : List TV) (i : Nat) (k : Nat) (v : Value) (W : World) : Prop where
  be : Below w.heap.size w W
  ns : TxtL w.heap.size W v (wths [] (flT (l.take i) ++ (l.getD i default).ns.take k))
def MgR (w : World) (l : List TV) (e : Ending) (w' : World) : Prop := ∃ v, e = .returned v ∧ TxtL w.heap.size w' v (mgT l) ∧ Below w.heap.size w w'
set_option maxHeartbeats 4000000 in
set_option maxRecDepth 100000 in
theorem rmerge13_any {w : World} {po : Option Addr} {l : List TV} (h : TsO w po l) (c : Nat) (hl : l.length ≤ 10000) (hn : (flT l).length ≤ 1000000) (hr : ∀ t ∈ l, t.ns.length ≤ 1000000) :
    Calls Try.prog 21 #[.slice po l.length c] w (MgR w l) := by
  have HT := hid (fun W (hb : Below w.heap.size w W) => h.below hb)
  have HRL : Hid (∀ i, i < l.length → (l.getD i default).ns.length ≤ 1000000) := hid (fun i hi => hr _ (by rw [getD_in _ _ _ hi]; exact List.getElem_mem hi))
  have H0 : Hid (MgO w l 0 0 (.slice none 0 0) w) := hid ⟨Below.refl _ _, by simp [flT, wths]; exact World.ownsRow_nil _ _ _ _⟩
  have HL : Hid (∀ i k, i < l.length → k ≤ (l.getD i default).ns.length → (wths [] (flT (l.take i) ++ (l.getD i default).ns.take k)).length ≤ 1000000) := hid (fun i k hi hk => by
    have h1 := wths_len (flT (l.take i) ++ (l.getD i default).ns.take k) []
    have h2 := flT_le l (i + 1)
    rw [flT_step l i hi, List.length_append] at h2
    rw [List.length_append, List.length_take] at h1
    simp only [List.length_nil] at h1
    omega)
  have HNI : Hid (∀ i v W, i < l.length → MgO w l i (l.getD i default).ns.length v W → MgO w l (i + 1) 0 v W) := hid (fun i v W hi hm => ⟨hm.be, by
    have := hm.ns
    rw [List.take_length] at this
    rw [flT_step l i hi, List.take_zero, List.append_nil]; exact this⟩)
  have HNK : Hid (∀ i k v W W', i < l.length → k < (l.getD i default).ns.length → Below w.heap.size w W → Below W.heap.size W W' → TxtL w.heap.size W' v (wth (wths [] (flT (l.take i) ++ (l.getD i default).ns.take k)) ((l.getD i default).ns.getD k [])) → MgO w l i (k + 1) v W') := hid (fun i k v W W' hi hk hb hb' ht => ⟨below_on _ _ hb hb', by rw [wths_step _ _ _ hk]; exact ht⟩)
  have HEN : Hid (∀ v W, MgO w l l.length 0 v W → MgR w l (.returned v) W) := hid (fun v W hm => ⟨v, rfl, by have := hm.ns; rw [List.take_length, List.take_zero, List.append_nil] at this; exact this, hm.be⟩)
  generalize MgR w l = PP at *
  clear h hr hn
  go_enter Try.func21, Try.ntmps21
  go_wp2
  go_loopg [3, 4] l.length (fun gg o v wr => ∃ i : Nat, i ≤ l.length ∧ l.length - i ≤ gg ∧ v = .int .i64 (i : Int) ∧ MgO w l i 0 o wr)
  case atStart => exact ⟨0, Nat.zero_le _, by omega, rfl, H0.out⟩
  case round =>
    clear H0
    obtain ⟨i, hi, hgg, rfl, hm⟩ := hrel
    have HM := hid hm
    clear hm
    by_cases hlt : i < l.length
    · have hlt' : (i : Int) < (l.length : Int) := by omega
      have hi2 : (i : Int) < 100000 := by omega
      go_wp2
      go_loopg [3, 5] (l.getD i default).ns.length (fun gg o v wq => ∃ k : Nat, k ≤ (l.getD i default).ns.length ∧ (l.getD i default).ns.length - k ≤ gg ∧ v = .int .i64 (k : Int) ∧ MgO w l i k o wq)
      case atStart => exact ⟨0, Nat.zero_le _, by omega, rfl, HM.out⟩
      case round =>
        clear HM
        obtain ⟨k, hk, hgk, rfl, hm⟩ := hrel
        have HM := hid hm
        clear hm
        obtain ⟨b, o, hp, z0, hto⟩ := (HT.out wr HM.out.be).row hlt
        subst hp
        have HTO := hid hto
        clear hto
        have hrl := HRL.out i hlt
        have HNX := hid (fun v => HNI.out i v wr hlt)
        have HNJ := hid (fun v W' hk hb' ht => HNK.out i k v wr W' hlt hk HM.out.be hb' ht)
        have hll := HL.out i k hlt hk
        obtain ⟨opo, oc, hov⟩ := own_form HM.out.ns
        subst hov
        have HNS := hid HM.out.ns
        have HSZ := hid HM.out.be.size
        by_cases hkt : k < (l.getD i default).ns.length
        · have HW := hid (fun s => rwith13_any HNS.out hll HSZ.out s)
          obtain ⟨br, or_, hp2, z1⟩ := HTO.out.cell hkt
          have HNJ2 := hid (fun v W' hb' ht => HNJ.out v W' hkt hb' ht)
          clear HNJ HNX HL HRL HNI HNK HT HEN HNS HTO
          generalize wths [] (flT (l.take i) ++ (l.getD i default).ns.take k) = L at *
          generalize l.getD i default = t at *
          obtain ⟨tpo, tc, ns⟩ := t
          dsimp only at *
          subst hp2
          have hkt' : (k : Int) < (ns.length : Int) := by omega
          have hk2 : (k : Int) < 10000000 := by omega
          generalize ns.getD k [] = s at *
          go_wp2_with (go_at_call 30; refine (HW.out _).mono ?_; rintro e w2 ⟨po2, c2, rfl, ht2, hb2⟩; have HT2 := hid ht2; have HB2 := hid hb2; clear ht2 hb2)
          go_roundg (ns.length - (k + 1))
          case measure => omega
          case rel => exact ⟨k + 1, by omega, by omega, by go_num, HNJ2.out _ _ HB2.out HT2.out⟩
        · have he : k = (l.getD i default).ns.length := by omega
          have HE := hid (HNX.out (.slice opo (wths [] (flT (l.take i) ++ (l.getD i default).ns.take k)).length oc) (by rw [← he]; exact HM.out))
          clear HNJ HNX HL HRL HNI HNK HT HEN HNS HTO HM
          generalize wths [] (flT (l.take i) ++ (l.getD i default).ns.take k) = L at *
          generalize l.getD i default = t at *
          obtain ⟨tpo, tc, ns⟩ := t
          dsimp only at *
          have hkt' : ¬ (k : Int) < (ns.length : Int) := by omega
          go_wp2
          go_roundg (l.length - (i + 1))
          case measure => omega
          case rel => exact ⟨i + 1, by omega, by omega, by go_num, HE.out⟩
    · have hlt' : ¬ (i : Int) < (l.length : Int) := by omega
      have he : i = l.length := by omega
      subst he
      have HE := hid (HEN.out _ _ HM.out)
      clear HEN
      go_wp2
      exact HE.out
end Go.Proofs.Ytkiojnledimihaa

/- Arrays of words and of bytes as the model has them. -/
namespace Go.Proofs.Ytkiojnledimihaa.H
open Go.RowKit

def aW (n : Nat) (f : Nat → BitVec 32) : Array Value := Array.ofFn fun i : Fin n => Value.int .u32 (wv (f i.val))
def aB (n : Nat) (x : Nat → Nat) : Array Value := Array.ofFn fun i : Fin n => Value.int .u8 ((x i.val : Nat) : Int)
def zW : Nat → BitVec 32 := fun _ => 0
def zB : Nat → Nat := fun _ => 0
theorem wmod (x : BitVec 32) : wv x % 4294967296 = wv x := by have := wv_nonneg x; have := wv_lt x; omega
theorem aW_size (n : Nat) (f : Nat → BitVec 32) : (aW n f).size = n := by simp [aW]
theorem aB_size (n : Nat) (x : Nat → Nat) : (aB n x).size = n := by simp [aB]
theorem aW_get (n : Nat) (f : Nat → BitVec 32) (i : Nat) (h : i < n) : (aW n f)[i]? = some (.int .u32 (wv (f i))) := by simp [aW, h]
theorem aB_get (n : Nat) (x : Nat → Nat) (i : Nat) (h : i < n) : (aB n x)[i]? = some (.int .u8 ((x i : Nat) : Int)) := by simp [aB, h]
theorem aW_congr (n : Nat) {f g : Nat → BitVec 32} (h : ∀ i, i < n → f i = g i) : aW n f = aW n g := by
  unfold aW; congr 1; funext i; rw [h i.val i.isLt]
theorem aB_congr (n : Nat) {x y : Nat → Nat} (h : ∀ i, i < n → x i = y i) : aB n x = aB n y := by
  unfold aB; congr 1; funext i; rw [h i.val i.isLt]
def upW (f : Nat → BitVec 32) (k : Nat) (v : BitVec 32) (i : Nat) : BitVec 32 := if i = k then v else f i
def upB (x : Nat → Nat) (k : Nat) (v : Nat) (i : Nat) : Nat := if i = k then v else x i
theorem aW_elem (n : Nat) (f : Nat → BitVec 32) (i : Nat) (h : i < (aW n f).size) : (aW n f)[i] = .int .u32 (wv (f i)) := by simp [aW]
theorem aB_elem (n : Nat) (x : Nat → Nat) (i : Nat) (h : i < (aB n x).size) : (aB n x)[i] = .int .u8 ((x i : Nat) : Int) := by simp [aB]
theorem aW_set (n : Nat) (f : Nat → BitVec 32) (k : Nat) (v : BitVec 32) : (aW n f).setIfInBounds k (.int .u32 (wv v)) = aW n (upW f k v) := by
  apply Array.ext
  · simp [aW]
  · intro i h1 h2
    have hi : i < n := by simpa [aW] using h2
    rw [Array.getElem_setIfInBounds (by rw [aW_size]; omega)]
    rw [aW_elem, aW_elem]
    unfold upW
    by_cases e : i = k
    · rw [if_pos e.symm, if_pos e]
    · rw [if_neg (Ne.symm e), if_neg e]
theorem aB_set (n : Nat) (x : Nat → Nat) (k : Nat) (v : Nat) : (aB n x).setIfInBounds k (.int .u8 ((v : Nat) : Int)) = aB n (upB x k v) := by
  apply Array.ext
  · simp [aB]
  · intro i h1 h2
    have hi : i < n := by simpa [aB] using h2
    rw [Array.getElem_setIfInBounds (by rw [aB_size]; omega)]
    rw [aB_elem, aB_elem]
    unfold upB
    by_cases e : i = k
    · rw [if_pos e.symm, if_pos e]
    · rw [if_neg (Ne.symm e), if_neg e]
theorem aW_st (s : St) : aW 8 s.get = #[.int .u32 (wv s.a), .int .u32 (wv s.b), .int .u32 (wv s.c), .int .u32 (wv s.d), .int .u32 (wv s.e), .int .u32 (wv s.f), .int .u32 (wv s.g), .int .u32 (wv s.h)] := by
  apply Array.ext
  · simp [aW]
  · intro i h1 h2
    have hi : i < 8 := by simpa [aW] using h1
    simp only [aW, Array.getElem_ofFn]
    match i, hi with
    | 0, _ | 1, _ | 2, _ | 3, _ | 4, _ | 5, _ | 6, _ | 7, _ => rfl

theorem ret_row {P : Program} {fn : Func} {p : Tmp} {ty : TypeId} (h : fn.results = #[.cell p ty]) {R : Ending → World → Prop} {a : Act} {w : World} (g : Nat) (t : TypeId) (cs : Array Value) (fr : Nat × Nat) (d : TypeDesc)
    (hd0 : a.defers = []) (hp : a.tmps.getD p undef = .pointer (some ⟨g, 0, none⟩)) (hg : w.heap[g]? = some (.cells cs t fr)) (hu : P.underlying ty = some d)
    (hd : (match d with | .struct _ | .array _ _ => true | _ => false) = true) (hi : (P.info? ty).map (·.size) = some cs.size) (hR : R (.returned (.agg cs)) w) : bodyPost P fn R .ret a w :=
  ⟨hd0, _, results_cell_row h _ _ g t cs fr d hp hg hu hd hi, hR⟩

theorem wpList_alloc_row {P : Program} {ops : Array Oper} {rest : List Oper} {o : Oper} {a : Act} {w : World} {Q : Exit → Act → World → Prop} (hg : o.guard = none) (t : TypeId) (ho : o.op = .alloc t) (cs : Array Value)
    (hz : (P.info? t).map (·.zero) = some (some (.agg cs))) (h : wpList P ops Q rest (a.put o.dst (.pointer (some ⟨w.heap.size, 0, none⟩))) (w.alloc (.cells cs t))) : wpList P ops Q (o :: rest) a w := by
  refine wpList_plain hg fun _ hK => ?_
  cases hq : P.info? t with
  | none => simp [hq] at hz
  | some i =>
    have hz' : i.zero = some (.agg cs) := by simpa [hq] using hz
    unfold Oper.wp execOp
    simp only [ho, Instr.alloc, zeroValue, typeInfo, Sem.run_bind, newVar, newRow]
    simp [hq, hz', Value.cells]
    exact hK _ _ h
theorem wpList_build_to {P : Program} {ops : Array Oper} {rest : List Oper} {o : Oper} {a : Act} {w : World} {Q : Exit → Act → World → Prop} (hg : o.guard = none) (t : TypeId) (parts : Array (Nat × Operand)) (ho : o.op = .build t parts) (cs : Array Value)
    (hf : P.built t (parts.map fun (i, x) => (i, a.eval x)).toList = some cs) (h : wpList P ops Q rest (a.put o.dst (.agg cs)) w) : wpList P ops Q (o :: rest) a w :=
  wpList_build hg t parts ho (by rw [hf]; rfl) (by rw [hf]; exact h)

theorem firstWords_any (w : World) : Calls Try.prog 31 #[] w fun e w' => e = .returned (.agg (aW 8 st0.get)) ∧ Below w.heap.size w w' := by
  go_enter Try.func31, Try.ntmps31
  go_wp2
  refine ret_row rfl _ _ _ _ _ rfl rfl (heap_alloc_new _ _) Try.underlying54 rfl (by kernel_rfl) ⟨?_, (Below.refl _ _).alloc (by omega) _⟩
  rw [aW_st]; rfl
theorem aW_one (n : Nat) (f : Nat → BitVec 32) : (aW n f).all (·.oneCell') = true := by
  rw [Array.all_eq_true]; intro i h; rw [aW_elem]; rfl
theorem aB_one (n : Nat) (x : Nat → Nat) : (aB n x).all (·.oneCell') = true := by
  rw [Array.all_eq_true]; intro i h; rw [aB_elem]; rfl
theorem zero64 : (Try.prog.info? 63).map (·.zero) = some (some (.agg (aW 64 zW))) := by kernel_rfl
theorem size64 (f : Nat → BitVec 32) : (Try.prog.info? 63).map (·.size) = some (aW 64 f).size := by rw [aW_size]; kernel_rfl
theorem constants_any (w : World) : Calls Try.prog 42 #[] w fun e w' => e = .returned (.agg (aW 64 kk)) ∧ Below w.heap.size w w' := by
  go_enter Try.func42, Try.ntmps42
  go_wp2_with (first
    | refine wpList_alloc_row rfl 63 rfl _ zero64 ?_
    | refine wpList_build_to rfl 63 _ rfl (aW 64 kk) (by kernel_rfl) ?_
    | refine wpList_store_row rfl 63 _ _ rfl _ _ rfl rfl _ _ (heap_alloc_new _ _) (size64 _) (by rw [aW_size, aW_size]) (aW_one _ _) ?_)
  refine ret_row rfl _ _ _ _ _ rfl rfl (setRow_heap _ _ _ _ _ _ (heap_alloc_new _ _)) Try.underlying63 rfl (size64 _) ⟨rfl, below_setRow ((Below.refl _ _).alloc (by omega) _) (by omega) _⟩
/-- A block holds just these cells, and may be written. -/
def CAt (w : World) (g : Nat) (cs : Array Value) (t : TypeId) : Prop := w.heap[g]? = some (.cells cs t (0, 0))
theorem CAt.lt {w : World} {g : Nat} {cs : Array Value} {t : TypeId} (h : CAt w g cs t) : g < w.heap.size := by
  rcases Nat.lt_or_ge g w.heap.size with h1 | h1
  · exact h1
  · unfold CAt at h; rw [Array.getElem?_eq_none h1] at h; cases h
theorem CAt.cellW {w : World} {g n : Nat} {t : TypeId} {f : Nat → BitVec 32} (h : CAt w g (aW n f) t) (i : Nat) (hi : i < n) : w.cell? ⟨g, i, none⟩ = some (.int .u32 (wv (f i))) := by
  rw [cell_of_row w g i _ _ _ h, aW_get n f i hi]
theorem CAt.cellB {w : World} {g n : Nat} {t : TypeId} {x : Nat → Nat} (h : CAt w g (aB n x) t) (i : Nat) (hi : i < n) : w.cell? ⟨g, i, none⟩ = some (.int .u8 ((x i : Nat) : Int)) := by
  rw [cell_of_row w g i _ _ _ h, aB_get n x i hi]
theorem CAt.free {w : World} {g : Nat} {cs : Array Value} {t : TypeId} (h : CAt w g cs t) (i : Nat) : w.frozen? ⟨g, i, none⟩ = false := by
  simp [World.frozen?, show w.heap[g]? = _ from h]
theorem CAt.setW {w : World} {g n : Nat} {t : TypeId} {f : Nat → BitVec 32} (h : CAt w g (aW n f) t) (i : Nat) (v : BitVec 32) : CAt (w.setCell ⟨g, i, none⟩ (.int .u32 (wv v))) g (aW n (upW f i v)) t := by
  have := heap_setCell_same w g i _ t (.int .u32 (wv v)) h
  rwa [aW_set] at this
theorem CAt.setB {w : World} {g n : Nat} {t : TypeId} {x : Nat → Nat} (h : CAt w g (aB n x) t) (i : Nat) (v : Nat) : CAt (w.setCell ⟨g, i, none⟩ (.int .u8 ((v : Nat) : Int))) g (aB n (upB x i v)) t := by
  have := heap_setCell_same w g i _ t (.int .u8 ((v : Nat) : Int)) h
  rwa [aB_set] at this
theorem CAt.other {w : World} {g : Nat} {cs : Array Value} {t : TypeId} (h : CAt w g cs t) (a : Addr) (v : Value) (hne : g ≠ a.block) : CAt (w.setCell a v) g cs t :=
  (heap_setCell_other w a g v hne).trans h
theorem CAt.alloc {w : World} {g : Nat} {cs : Array Value} {t : TypeId} (h : CAt w g cs t) (o : Obj) : CAt (w.alloc o) g cs t :=
  (Below.heap_alloc w o g h.lt).trans h
theorem CAt.new (w : World) (cs : Array Value) (t : TypeId) : CAt (w.alloc (.cells cs t)) w.heap.size cs t := heap_alloc_new _ _
theorem CAt.new' (w : World) (cs : Array Value) (t : TypeId) (H : Nat) (h : w.heap.size = H) : CAt (w.alloc (.cells cs t)) H cs t := h ▸ heap_alloc_new _ _
theorem CAt.row {w : World} {g : Nat} {old : Array Value} {t : TypeId} (h : CAt w g old t) (cs : Array Value) : CAt (w.setRow g cs) g cs t := setRow_heap w g old cs t _ h
theorem CAt.rowOther {w : World} {g k : Nat} {cs : Array Value} {t : TypeId} (h : CAt w g cs t) (c : Array Value) (hne : g ≠ k) : CAt (w.setRow k c) g cs t := (setRow_other w k g c hne).trans h
theorem CAt.below {B : Nat} {w w' : World} {g : Nat} {cs : Array Value} {t : TypeId} (h : CAt w g cs t) (hb : Below B w w') (hg : g < B) : CAt w' g cs t := (hb.block g hg).trans h
theorem drewN_heap (w : World) : ∀ m, (w.drewN m).heap = w.heap
  | m => by simp
theorem CAt.drewN {w : World} {g : Nat} {cs : Array Value} {t : TypeId} (h : CAt w g cs t) (m : Nat) : CAt (w.drewN m) g cs t := by unfold CAt; rw [drewN_heap]; exact h
theorem CAt.congr {w : World} {g : Nat} {cs cs' : Array Value} {t : TypeId} (h : CAt w g cs t) (e : cs = cs') : CAt w g cs' t := e ▸ h
theorem Below.drewN' {B : Nat} {a w : World} (h : Below B a w) (m : Nat) : Below B a (w.drewN m) := by
  refine h.trans ⟨rfl, rfl, rfl, ?_, ?_⟩
  · rw [drewN_heap]; exact Nat.le_refl _
  · intro k _; rw [drewN_heap]
theorem run_index_row {P : Program} (t e : TypeId) (n : Nat) (cs : Array Value) (i : Nat) (v : Value) (hu : P.underlying t = some (.array n e)) (hi : i < n) (hv : cs[i]? = some v)
    (he : (P.info? e).map (·.size) = some 1) (ha : ∀ w, (isAgg e).run P w = .ok false w) (w : World) : (Instr.index t (.agg cs) (.int .i64 (i : Int))).run P w = .ok v w := by
  cases hq : P.info? e with
  | none => simp [hq] at he
  | some j =>
    have hs : j.size = 1 := by simpa [hq] using he
    have h1 : (0 : Int) ≤ (i : Int) ∧ (i : Int) < (n : Int) := by omega
    simp [Instr.index, run_underlying hu, asIntOf, h1, sizeOf, typeInfo, hq, hs, part, Sem.run_bind, ha, hv]
    intro hbad; omega
end Go.Proofs.Ytkiojnledimihaa.H

/- A region that draws its order, whose operations only read but for the last one, for which all others must have come up: one walk in the text's order serves every order. -/
namespace Go.Proofs.Ytkiojnledimihaa.H
open Go

section
variable {P : Program} {ops : Array Oper} {md : Region.Mode} {C : World → Prop}

/-- n more operations that only read come up, in whatever order; then the last one. -/
def wpAnyT (P : Program) (md : Region.Mode) (ops : Array Oper) (C : World → Prop) (last : Nat) (R : Act → Prop) : Nat → Array Bool → Act → Prop
  | 0, listed, a => Region.ready md ops listed = [last] ∧ Region.ready md ops (listed.setIfInBounds last true) = [] ∧ R a
  | n + 1, listed, a => Region.ready md ops listed ≠ [] ∧ last ∉ Region.ready md ops listed ∧ ∀ i ∈ Region.ready md ops listed, qOp P ops C i (wpAnyT P md ops C last R n (listed.setIfInBounds i true)) a

theorem wpAny_of_T {last : Nat} {R : Act → Prop} {Q : Exit → Act → World → Prop} (hR : ∀ a w, C w → R a → wpOp P ops Q last (fun a w => Q .normal a w) a w) : ∀ (n : Nat) (listed : Array Bool) (a : Act) (w : World), C w →
    wpAnyT P md ops C last R n listed a → wpAny P md ops Q (n + 1) listed a w
  | 0, listed, a, w, hw, h => by
    obtain ⟨h1, h2, h3⟩ := h
    refine ⟨fun h0 => (by rw [h1] at h0; cases h0), fun i hi => ?_⟩
    rw [h1, List.mem_singleton] at hi
    subst hi
    exact wpOp_mono (fun a' w' hq => ⟨h2, hq⟩) (hR a w hw h3)
  | n + 1, listed, a, w, hw, h => by
    obtain ⟨h1, _, h3⟩ := h
    exact ⟨fun h0 => absurd h0 h1, fun i hi => wpOp_of_qOp hw (fun a' w' hw' hh => wpAny_of_T hR n _ a' w' hw' hh) (h3 i hi)⟩

theorem wpAnyT_first {last : Nat} {R : Act → Prop} {i : Nat} {oi ol : Oper} {v : Value} (hi : ops[i]? = some oi) (hol : ops[last]? = some ol) (hwait : ∃ e ∈ ol.after, Region.binds md e = true ∧ e.on = i)
    (hsel : ∀ (j : Nat) (o : Oper) cs b, ops[j]? = some o → o.op ≠ .select cs b) : ∀ (n : Nat) (listed : Array Bool) (a : Act),
      (∀ j oj, ops[j]? = some oj → j ≠ i → listed.getD j true = false → (∀ e ∈ oj.after, Region.binds md e = true → e.on ≠ i) → oi.apart ops oj = true) →
      i ∈ Region.ready md ops listed → YieldsIn P ops C oi v a →
      wpAnyT P md ops C last R n (listed.setIfInBounds i true) (a.put oi.dst v) → wpAnyT P md ops C last R (n + 1) listed a := by
  have hnl : ∀ listed : Array Bool, i ∈ Region.ready md ops listed → last ∉ Region.ready md ops listed := fun listed hr hl => by
    obtain ⟨_, o, ho, hall⟩ := mem_ready.1 hl
    obtain ⟨e, he, hb, hon⟩ := hwait
    rw [hol] at ho
    cases ho
    have h1 := hall e he hb
    have h0 := (mem_ready.1 hr).1
    rw [hon] at h1
    rcases Nat.lt_or_ge i listed.size with h' | h'
    · simp [h'] at h0 h1; rw [h0] at h1; cases h1
    · simp [Array.getElem?_eq_none h'] at h1
  intro n
  induction n with
  | zero =>
    intro listed a _ hr hy H
    refine ⟨fun h => (by rw [h] at hr; cases hr), hnl _ hr, fun j hj => ?_⟩
    by_cases hji : j = i
    · subst hji; exact hy.qOp hi H
    · have h1 := ready_mono hj hji
      rw [H.1, List.mem_singleton] at h1
      subst h1
      exact absurd hj (hnl _ hr)
  | succ n ih =>
    intro listed a hfree hr hy H
    refine ⟨fun h => (by rw [h] at hr; cases hr), hnl _ hr, fun j hj => ?_⟩
    by_cases hji : j = i
    · subst hji; exact hy.qOp hi H
    · have h1 := H.2.2 j (ready_mono hj hji)
      obtain ⟨hjun, oj, hoj, hall⟩ := mem_ready.1 hj
      have hnot : ∀ e ∈ oj.after, Region.binds md e = true → e.on ≠ i := fun e he hb heq => by
        have h1 := hall e he hb
        have h0 := (mem_ready.1 hr).1
        rw [heq] at h1
        rcases Nat.lt_or_ge i listed.size with h' | h'
        · simp [h'] at h0 h1; rw [h0] at h1; cases h1
        · simp [Array.getElem?_eq_none h'] at h1
      have h2 := qOp_put hoj (hfree j oj hoj hji hjun hnot) (fun cs b => hsel i oi cs b hi) (fun cs b => hsel j oj cs b hoj) hy h1
      refine qOp_mono (fun a' h3 => ih (listed.setIfInBounds j true) a' (fun k ok hk hki hun hno => ?_) (ready_mono hr (Ne.symm hji)) h3.1 ?_) h2
      · refine hfree k ok hk hki ?_ hno
        by_cases hjk : j = k
        · subst hjk; exact hjun
        · rw [getD_set_ne true hjk] at hun; exact hun
      · rw [Array.setIfInBounds_comm _ _ hji]
        exact h3.2

/-- Held by reckoning: the operations up to the last may come up in the text's order, each apart from what does not wait for it; the last waits for all. -/
def lexT (md : Region.Mode) (ops : Array Oper) (last : Nat) : Nat → Nat → Array Bool → Bool
  | 0, _, listed => decide (Region.ready md ops listed = [last]) && (Region.ready md ops (listed.setIfInBounds last true)).isEmpty
  | n + 1, k, listed => (Region.ready md ops listed).contains k && Region.free md ops listed k && (match ops[last]? with | some ol => ol.after.any (fun e => Region.binds md e && e.on == k) | none => false) && lexT md ops last n (k + 1) (listed.setIfInBounds k true)

theorem wpAnyT_lex {last : Nat} {R : Act → Prop} (hs : Region.noSelect ops = true) : ∀ (l : List Oper) (k : Nat) (listed : Array Bool) (a : Act), (∀ j, j < l.length → l[j]? = ops[k + j]?) →
    lexT md ops last l.length k listed = true → wpQuiet P ops C R l a → wpAnyT P md ops C last R l.length listed a
  | [], _, _, _, _, hB, h => by
    simp only [List.length_nil, lexT, Bool.and_eq_true, decide_eq_true_eq, List.isEmpty_iff] at hB
    exact ⟨hB.1, hB.2, h⟩
  | o :: l, k, listed, a, hl, hB, h => by
    have h0 : ops[k]? = some o := by simpa using (hl 0 (by simp)).symm
    simp only [List.length_cons, lexT, Bool.and_eq_true] at hB
    obtain ⟨⟨⟨hr, hf⟩, hw⟩, hB'⟩ := hB
    cases hol : ops[last]? with
    | none => simp [hol] at hw
    | some ol =>
      have hwait : ∃ e ∈ ol.after, Region.binds md e = true ∧ e.on = k := by
        simp only [hol, Array.any_eq_true', Bool.and_eq_true, beq_iff_eq] at hw
        obtain ⟨e, he, h1, h2⟩ := hw
        exact ⟨e, he, h1, h2⟩
      have hst : qOp P ops C k (wpQuiet P ops C R l) a := by unfold qOp; simp only [h0]; exact h
      obtain ⟨v, hy, hK⟩ := yieldsIn_of_qOp h0 hst
      exact wpAnyT_first h0 hol hwait (Region.noSelect_spec hs) l.length listed a (Region.free_spec h0 hf) (by simpa using hr) hy
        (wpAnyT_lex hs l (k + 1) _ _ (fun j hj => by have := hl (j + 1) (by simp; omega); simpa [Nat.add_assoc, Nat.add_comm 1 j] using this) hB' hK)

def lastB (ops : Array Oper) : Bool := Region.noSelect ops && lexT .any ops (ops.size - 1) (ops.size - 1) 0 (Array.replicate ops.size false)

/-- The region's law: the quiet walk of all but the last, then the last one, as in a plain region. -/
theorem wp_region_last {id : Nat} {Q : Exit → Act → World → Prop} {a : Act} {w : World} {l : List Oper} {o : Oper} (hm : P.follows .mixedOrders = true) (hB : lastB (l ++ [o]).toArray = true)
    (h : wpQuiet P (l ++ [o]).toArray (fun w' => ∃ n, w' = w.drewN n) (fun a' => ∀ n, wpList P (l ++ [o]).toArray Q [o] a' (w.drewN n)) l a) : (Code.region id (l ++ [o]).toArray true).wp P Q a w := by
  simp only [lastB, Bool.and_eq_true] at hB
  have hsz : (l ++ [o]).toArray.size = l.length + 1 := by simp
  rw [hsz] at hB
  refine wp_region_any hm ?_
  rw [hsz]
  refine wpAny_of_T (C := fun w' => ∃ n, w' = w.drewN n) (last := l.length) (R := fun a' => ∀ n, wpList P (l ++ [o]).toArray Q [o] a' (w.drewN n)) ?_ l.length _ _ _ ⟨1, rfl⟩ ?_
  · rintro a' w' ⟨n, rfl⟩ hr
    have h1 := hr n
    unfold wpOp
    rw [show (l ++ [o]).toArray[l.length]? = some o by simp]
    exact h1
  · exact wpAnyT_lex hB.1 l 0 _ a (fun j hj => by simp [List.getElem?_append_left hj]) (by simpa using hB.2) h
/-- The same, the list cut by the kernel. -/
theorem wp_region_last_lit {id : Nat} {Q : Exit → Act → World → Prop} {a : Act} {w : World} {x : Oper} {r : List Oper} (hm : P.follows .mixedOrders = true) (hB : lastB (x :: r).toArray = true)
    (h : wpQuiet P (x :: r).toArray (fun w' => ∃ n, w' = w.drewN n) (fun a' => ∀ n, wpList P (x :: r).toArray Q [(x :: r).getLast (List.cons_ne_nil x r)] a' (w.drewN n)) (x :: r).dropLast a) : (Code.region id (x :: r).toArray true).wp P Q a w := by
  have e : (x :: r) = (x :: r).dropLast ++ [(x :: r).getLast (List.cons_ne_nil x r)] := (List.dropLast_concat_getLast (List.cons_ne_nil x r)).symm
  have key : ∀ k : List Oper, k = (x :: r).dropLast ++ [(x :: r).getLast (List.cons_ne_nil x r)] → lastB k.toArray = true → wpQuiet P k.toArray (fun w' => ∃ n, w' = w.drewN n) (fun a' => ∀ n, wpList P k.toArray Q [(x :: r).getLast (List.cons_ne_nil x r)] a' (w.drewN n)) (x :: r).dropLast a → (Code.region id k.toArray true).wp P Q a w := by
    intro k hk hB' h'
    subst hk
    exact wp_region_last hm hB' h'
  exact key (x :: r) e hB h
end
end Go.Proofs.Ytkiojnledimihaa.H

/- Contract of spread of package digest: a block's words, and those that follow from them; what was there is as it was. -/
namespace Go.Proofs.Ytkiojnledimihaa.H
open Go.RowKit

def spTo (x : Nat → Nat) (k i : Nat) : BitVec 32 := wpart x i (min (k - 4 * i) 4)
theorem spTo_step (x : Nat → Nat) (k i : Nat) : upW (spTo x k) (k / 4) ((spTo x k (k / 4) <<< 8) ||| BitVec.ofNat 32 (x k)) i = spTo x (k + 1) i := by
  unfold upW spTo
  by_cases e : i = k / 4
  · rw [if_pos e, e, show min (k - 4 * (k / 4)) 4 = k % 4 by omega, show min (k + 1 - 4 * (k / 4)) 4 = k % 4 + 1 by omega, wpart, show 4 * (k / 4) + k % 4 = k by omega]
  · rw [if_neg e]
    rcases Nat.lt_or_ge i (k / 4) with h | h
    · rw [show min (k - 4 * i) 4 = 4 by omega, show min (k + 1 - 4 * i) 4 = 4 by omega]
    · rw [show min (k - 4 * i) 4 = 0 by omega, show min (k + 1 - 4 * i) 4 = 0 by omega]
def schTo (x : Nat → Nat) (t i : Nat) : BitVec 32 := if i < t then sch x i else 0
theorem spTo_end (x : Nat → Nat) (i : Nat) : spTo x 64 i = schTo x 16 i := by
  unfold spTo schTo
  by_cases h : i < 16
  · rw [if_pos h, sch_low x i h, show min (64 - 4 * i) 4 = 4 by omega]; rfl
  · rw [if_neg h, show min (64 - 4 * i) 4 = 0 by omega]; rfl
theorem schTo_at (x : Nat → Nat) (t i : Nat) (h : i < t) : schTo x t i = sch x i := by unfold schTo; rw [if_pos h]
theorem schTo_step (x : Nat → Nat) (t : Nat) (h : 16 ≤ t) (i : Nat) : upW (schTo x t) t (sg1 (schTo x t (t - 2)) + schTo x t (t - 7) + sg0 (schTo x t (t - 15)) + schTo x t (t - 16)) i = schTo x (t + 1) i := by
  rw [schTo_at x t (t - 2) (by omega), schTo_at x t (t - 7) (by omega), schTo_at x t (t - 15) (by omega), schTo_at x t (t - 16) (by omega), ← sch_high x t h]
  unfold upW schTo
  by_cases e : i = t
  · rw [if_pos e, if_pos (by omega), e]
  · rw [if_neg e]
    by_cases q : i < t
    · rw [if_pos q, if_pos (by omega)]
    · rw [if_neg q, if_neg (by omega)]
theorem byte_word (n : Nat) (h : n < 256) : ((n : Nat) : Int) = wv (BitVec.ofNat 32 n) := by
  unfold wv; rw [BitVec.toNat_ofNat]; omega
theorem size64B (x : Nat → Nat) : (Try.prog.info? 57).map (·.size) = some (aB 64 x).size := by rw [aB_size]; kernel_rfl

theorem run_index_blk (x : Nat → Nat) (k : Nat) (hk : k < 64) (w : World) : (Instr.index 57 (.agg (aB 64 x)) (.int .i64 (k : Int))).run Try.prog w = .ok (.int .u8 ((x k : Nat) : Int)) w :=
  run_index_row 57 5 64 _ k _ Try.underlying57 hk (aB_get 64 x k hk) (by kernel_rfl) (fun _ => by kernel_rfl) w
set_option maxRecDepth 100000 in
set_option maxHeartbeats 400000 in
theorem spread_any (x : Nat → Nat) (hx : ∀ i, i < 64 → x i < 256) (w : World) :
    Calls Try.prog 43 #[.agg (aB 64 x)] w fun e w' => e = .returned (.agg (aW 64 (sch x))) ∧ Below w.heap.size w w' := by
  have HX := hid hx
  clear hx
  go_enter Try.func43, Try.ntmps43
  go_wp2_with (first
    | refine wpList_alloc_row rfl 63 rfl _ zero64 ?_
    | refine wpList_load_row rfl 57 _ rfl _ rfl _ _ _ _ (((CAt.new w (aB 64 x) 57).alloc (.cells (aW 64 zW) 63)).alloc (.cells (aW 64 zW) 63)) Try.underlying57 rfl (size64B x) ?_)
  go_loopw [12] (fun v wr => ∃ k : Nat, k ≤ 64 ∧ v = .int .i64 k ∧ CAt wr (w.heap.size + 1 + 1) (aW 64 (spTo x k)) 63 ∧ CAt wr (w.heap.size + 1) (aW 64 zW) 63 ∧ Below w.heap.size w wr) (fun v _ => (64 - intOf v).toNat)
  case atStart =>
    refine ⟨0, by omega, rfl, ?_, ?_, ?_⟩
    · exact (CAt.new' ((w.alloc (.cells (aB 64 x) 57)).alloc (.cells (aW 64 zW) 63)) (aW 64 zW) 63 _ (by simp)).congr (aW_congr 64 fun i _ => by show (0 : BitVec 32) = wpart x i (min (0 - 4 * i) 4); rw [show min (0 - 4 * i) 4 = 0 by omega]; rfl)
    · exact (CAt.new' (w.alloc (.cells (aB 64 x) 57)) (aW 64 zW) 63 _ (by simp)).alloc _
    · exact (((Below.refl _ _).alloc (by omega) _).alloc (by simp) _).alloc (by simp; omega) _
  case round =>
    obtain ⟨k, hk, rfl, hc, hz, hb⟩ := hrel
    by_cases hlt : k < 64
    · have hix := run_index_blk x k hlt
      have c1 := hc.cellW (k / 4) (by omega)
      have c2 := hc.free (k / 4)
      have hxk := byte_word (x k) (HX.out k hlt)
      have HC := hid hc
      have HZ := hid hz
      have HB := hid hb
      clear hc hz hb
      have e1 := wshl (spTo x k (k / 4)) 8
      simp only [Int.reducePow] at e1
      have e2 := wmod (BitVec.ofNat 32 (x k))
      have e3 := wor (spTo x k (k / 4) <<< 8) (BitVec.ofNat 32 (x k))
      go_wp2
      go_roundw
      case rel =>
        exact ⟨k + 1, by omega, by go_num, (HC.out.setW (k / 4) _).congr (aW_congr 64 fun i _ => spTo_step x k i), HZ.out.other _ _ (by simp), HB.out.setCell (by simp; omega) _⟩
      case measure => simp [intOf]; omega
    · have e : k = 64 := by omega
      have HC := hid (hc.congr (cs' := aW 64 (schTo x 16)) (aW_congr 64 fun i _ => (by rw [e]; exact spTo_end x i)))
      clear e
      have HZ := hid hz
      have HB := hid hb
      clear hc hz hb HX
      go_wp2
      go_loopw [6] (fun v wr => ∃ t : Nat, 16 ≤ t ∧ t ≤ 64 ∧ v = .int .i64 t ∧ CAt wr (w.heap.size + 1 + 1) (aW 64 (schTo x t)) 63 ∧ CAt wr (w.heap.size + 1) (aW 64 zW) 63 ∧ Below w.heap.size w wr) (fun v _ => (64 - intOf v).toNat)
      case atStart => exact ⟨16, by omega, by omega, rfl, HC.out, HZ.out, HB.out⟩
      case round =>
        clear HC HZ HB
        obtain ⟨t, ht0, ht, rfl, hc, hz, hb⟩ := hrel
        by_cases hlt : t < 64
        · have c1 := hc.cellW (t - 2) (by omega)
          have c2 := hc.cellW (t - 7) (by omega)
          have c3 := hc.cellW (t - 15) (by omega)
          have c4 := hc.cellW (t - 16) (by omega)
          have c5 := hc.free t
          have HC := hid hc
          have HZ := hid hz
          have HB := hid hb
          clear hc hz hb
          go_wp2_with fail
          go_quiet (fail)
          have a1 := wadd
          have a2 := wxor
          have a3 := wshr (schTo x t (t - 2)) 10
          have a4 := wshr (schTo x t (t - 15)) 3
          simp only [Int.reducePow] at a3 a4
          go_wp2_with (go_at_call 44; refine (right_i _ _ (by decide) (by decide) _).mono ?_; rintro e w' ⟨rfl, rfl⟩)
          have HC := hid (HC.out.drewN nq)
          have HZ := hid (HZ.out.drewN nq)
          have HB := hid (Below.drewN' HB.out nq)
          clear c1 c2 c3 c4 c5
          generalize wr.drewN nq = w5 at *
          have c7 := HC.out.cellW (t - 7) (by omega)
          have c8 := HC.out.cellW (t - 16) (by omega)
          have c9 := HC.out.free t
          refine wp_region_last_lit (by kernel_rfl) (by kernel_rfl) ?_
          dsimp only [List.dropLast, List.getLast]
          repeat (go_big_quiet_step (fail))
          refine wpQuiet_nil ?_
          intro nr
          have HC := hid (HC.out.drewN nr)
          have HZ := hid (HZ.out.drewN nr)
          have HB := hid (Below.drewN' HB.out nr)
          clear c7 c8 c9
          generalize w5.drewN nr = w6 at *
          have c9 := HC.out.free t
          have c10 := HC.out.cellW t hlt
          go_wp2
          go_roundw
          case rel => exact ⟨t + 1, by omega, by omega, by go_num, (HC.out.setW t _).congr (aW_congr 64 fun i _ => schTo_step x t ht0 i), HZ.out.other _ _ (by simp), HB.out.setCell (by simp; omega) _⟩
          case measure => simp [intOf]; omega
        · have e : t = 64 := by omega
          subst e
          have HC := hid hc
          have HZ := hid hz
          have HB := hid hb
          clear hc hz hb
          go_wp2_with (first
            | refine wpList_load_row rfl 63 _ rfl _ rfl _ _ _ _ HC.out Try.underlying63 rfl (size64 _) ?_
            | refine wpList_store_row rfl 63 _ _ rfl _ _ rfl rfl _ _ HZ.out (size64 _) (by rw [aW_size, aW_size]) (aW_one _ _) ?_)
          refine ret_row rfl _ _ _ _ _ rfl rfl (HZ.out.row _) Try.underlying63 rfl (size64 _) ⟨?_, below_setRow HB.out (by omega) _⟩
          rw [aW_congr 64 (fun i hi => schTo_at x 64 i hi)]
end Go.Proofs.Ytkiojnledimihaa.H
