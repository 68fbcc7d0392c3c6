/- Texts laid into one: the remark ahead of each part says what is proved there. -/
import Derived.Test.YtklchjfkkbpipaaGreatDoorPaa
import Derived.Test.YtklchjfkkbpipaaGreatDoorPab
import Derived.Test.YtklchjfkkbpipaaGreatDoorPac
import Derived.Test.YtklchjfkkbpipaaGreatDoorPad
import Derived.Test.YtklchjfkkbpipaaGreatDoorPae
import Derived.Test.YtklchjfkkbpipaaGreatDoorPaf
import Derived.Test.YtklchjfkkbpipaaGreatDoorPag
import Derived.Test.YtklchjfkkbpipaaGreatDoorPah
import Derived.Test.YtklchjfkkbpipaaGreatDoorPai
import Derived.Test.YtklchjfkkbpipaaGreatDoorPaj
import Derived.Test.YtklchjfkkbpipaaGreatDoorPak
import Derived.Test.YtklchjfkkbpipaaGreatDoorPal
import Derived.Test.YtklchjfkkbpipaaGreatDoorPam
import Derived.Test.YtklchjfkkbpipaaGreatDoorPan
import Derived.Test.YtklchjfkkbpipaaGreatDoorPao
import Derived.Test.YtklchjfkkbpipaaGreatDoorSaa
import Derived.Test.YtklchjfkkbpipaaGreatDoorSab
/- holds: has a drive just what another one had, and files? -/
namespace Go.Proofs.YtklchjfkkbpipaaGreatDoor
open Go Go.RowKit Go.Shelf

/-- A drive that can be looked at from W on. -/
structure See (W : World) (q : Nat) (d : Pd) (f : Fs) : Prop where
  rd : ∀ W', Below W.heap.size W W' → ∀ s : Nm, s.length ≤ maxLen → Calls Tryz.prog 32 #[ptr q, sv s] W' (ReadAt W' (d.readE f s) (d.readB f s))
  nm : ∀ W', Below W.heap.size W W' → Calls Tryz.prog 35 #[ptr q] W' (NamesAt W' (d.list f []))
theorem lnm_any {W : World} {q : Nat} {ns : List Nm} {er : Nat} (h : Calls Tryz.prog 55 #[ptr q, .string ⟨#[]⟩] W (ListAt W er ns)) : Calls Tryz.prog 35 #[ptr q] W (NamesAt W ns) := by
  have HL := hid h
  clear h
  go_enter Tryz.func35, Tryz.ntmps35
  go_wp2_with (go_at_call 55; refine HL.out.mono ?_; rintro e w2 ⟨po, cc, rfl, ht2, hb2⟩; have HT := hid ht2; have HB := hid hb2; clear ht2 hb2)
  go_ret
  exact ⟨_, _, rfl, HT.out, HB.out⟩
theorem FA.see {w W : World} {T : Nat → Prop} {k : Nat} {p : Nat → Nat} {d : Nat → Pd} {f : Fs} {c : Nat} (h : FA w W T k p d f c) {i : Nat} (hi : i < k) (hl : (d i).F.length < 1000000000000) : See W (p i) (d i) (fAt c f i) :=
  ⟨fun _ hb s hs => (h.below hb).look hi fun _ _ _ _ hd hf => read_any hd hf s hs, fun _ hb => lnm_any ((h.below hb).look hi fun _ _ _ _ hd hf => list_any hd hf [] hl)⟩
/-- What holds asks. -/
structure Hld (d1 d2 : Pd) (f1 f2 : Fs) (l : List Fl) : Prop where
  rd : ∀ x ∈ l, d2.readE f2 x.1 = 0 ∧ d2.readB f2 x.1 = x.2
  ol : ∀ s ∈ d1.list f1 [], (l.any fun x => x.1 == s) = false → d1.readE f1 s = 0 ∧ d2.readE f2 s = 0 ∧ d1.readB f1 s = d2.readB f2 s
  ln : (d2.list f2 []).length = ((d1.list f1 []).filter fun s => !(l.any fun x => x.1 == s)).length + l.length
  b1 : (d1.list f1 []).length ≤ 1000
  nl : ∀ s ∈ d1.list f1 [], s.length ≤ maxLen
theorem plain_of {w : World} {b o m} {v : Value} (h : w.cell? ⟨b, o, m⟩ = some v) : m = none := by
  obtain ⟨b', o', e⟩ := plain_at ⟨b, o, m⟩ w (by rw [h]; simp)
  cases e; rfl
theorem FlV.ok.str {w : World} {T : Nat → Prop} {x : FlV} (h : x.ok w T) : StrAt w x.pb x.bs.length (fun i => x.bs.getD i 0) := by
  by_cases hn : x.bs = []
  · rw [hn]; exact .inl rfl
  · refine bat_str h.bt fun b o m e => ?_
    rcases h.bt with ⟨_, h2⟩ | ⟨a, h1, h2⟩
    · exact absurd h2 hn
    · rw [h1] at e; cases e
      have := h2 0 (List.length_pos_iff.2 hn)
      rw [add_zero'] at this
      exact plain_of this
/-- How many of the first i names are none of these. -/
def seenN (l : List Fl) (ns : List Nm) (i : Nat) : Nat := ((ns.take i).filter fun s => !(l.any fun x => x.1 == s)).length
theorem seenN_succ (l : List Fl) (ns : List Nm) (i : Nat) (hi : i < ns.length) : seenN l ns (i + 1) = seenN l ns i + (if (l.any fun x => x.1 == ns.getD i []) then 0 else 1) := by
  unfold seenN
  rw [List.take_succ_eq_append_getElem hi, List.filter_append, List.length_append, getD_in _ _ _ hi]
  congr 1
  cases hq : (l.any fun x => x.1 == ns[i]) <;> simp [hq]
theorem seenN_le (l : List Fl) (ns : List Nm) (i : Nat) : seenN l ns i ≤ i := Nat.le_trans (List.length_filter_le _ _) (List.length_take_le _ _)
/-- Is one of the first j of that name? -/
def mineN (l : List FlV) (s : Nm) (j : Nat) : Bool := (l.take j).any fun x => x.nm == s
theorem mineN_succ (l : List FlV) (s : Nm) (j : Nat) (hj : j < l.length) : mineN l s (j + 1) = (mineN l s j || ((l.getD j default).nm == s)) := by
  unfold mineN
  rw [List.take_succ_eq_append_getElem hj, List.any_append, getD_in _ _ _ hj]
  simp
theorem mineN_all (l : List FlV) (s : Nm) : mineN l s l.length = (l.map FlV.fl).any fun x => x.1 == s := by
  unfold mineN
  rw [List.take_length]
  induction l with
  | nil => rfl
  | cons x r ih => simp only [List.any_cons, List.map_cons, ih]; rfl
set_option maxHeartbeats 2000000 in
set_option maxRecDepth 100000 in
theorem holds_any {W : World} {q1 q2 : Nat} {d1 d2 : Pd} {f1 f2 : Fs} (h1 : See W q1 d1 f1) (h2 : See W q2 d2 f2) (r : RowV) (hr : r.ok W (fun _ => False)) (hl : r.l.length ≤ 1000) (hH : Hld d1 d2 f1 f2 r.fl) :
    Calls Tryz.prog 29 #[ptr q1, ptr q2, r.v] W fun e w' => e = .returned (.bool true) ∧ Below W.heap.size W w' := by
  have HN1 := hid (h1.nm W (Below.refl _ _))
  have HN2 := hid h2.nm
  have HR1 := hid h1.rd
  have HR2 := hid h2.rd
  have HH := hid hH
  have HRO := hid (fun W' (hb : Below W.heap.size W W') => hr.keep (T' := fun _ => False) (fun b hb' _ => hb.block b hb') (fun _ _ h => h))
  have HMR := hid (fun i (hi : i < r.l.length) => hr.el (r.l.getD i default) (by rw [getD_in _ i default hi]; exact List.getElem_mem hi))
  have HRF : Hid (r.fl = r.l.map FlV.fl) := hid rfl
  obtain ⟨po, rc, l⟩ := r
  dsimp only [RowV.v] at *
  have HCEL := hid (fun W' (hb : Below W.heap.size W W') i (hi : i < l.length) => by
    rcases (HRO.out W' hb).at_ with h | ⟨b, o, h1, _, h3⟩
    · rw [show l = [] from h] at hi; exact absurd hi (Nat.not_lt_zero _)
    · exact (⟨b, o, h1, h3 i hi⟩ : ∃ b o, po = some ⟨b, o, none⟩ ∧ W'.cell? ⟨b, o + i * 2, none⟩ = some (sv (l.getD i default).nm) ∧ W'.cell? ⟨b, o + i * 2 + 1, none⟩ = some (l.getD i default).bv))
  have HEL := hid (fun W' (hb : Below W.heap.size W W') i (hi : i < l.length) => ((HRO.out W' hb).el (l.getD i default) (by rw [getD_in _ i default hi]; exact List.getElem_mem hi)))
  have HRD : Hid (∀ i, i < l.length → d2.readE f2 (l.getD i default).nm = 0 ∧ d2.readB f2 (l.getD i default).nm = (l.getD i default).bs) := hid (fun i hi => HH.out.rd ((l.getD i default).nm, (l.getD i default).bs) (by rw [HRF.out]; exact List.mem_map.2 ⟨l.getD i default, by rw [getD_in _ i default hi]; exact List.getElem_mem hi, rfl⟩))
  have hnl := HH.out.b1
  have HLN := hid HH.out.ln
  have HOL := hid HH.out.ol
  have HNL := hid HH.out.nl
  rw [HRF.out] at HLN HOL
  generalize d1.list f1 [] = ns at *
  generalize hn2 : d2.list f2 [] = ns2 at *
  clear h1 h2 hr hH hn2 HMR HH HRF HRO
  go_enter Tryz.func29, Tryz.ntmps29
  go_upto_region 2 with (go_at_call 35; refine HN1.out.mono ?_; rintro e w1 ⟨pn, cn, rfl, ht1, hb1⟩; have HT1 := hid ht1.at; have HB1 := hid hb1; clear ht1 hb1)
  clear HN1
  go_wp2
  go_loopw [9] (fun v wr => ∃ i : Nat, i ≤ l.length ∧ v = .int .i64 (i : Int) ∧ Below w1.heap.size w1 wr) (fun v _ => (1000 - intOf v).toNat)
  case atStart => exact ⟨0, Nat.zero_le _, rfl, Below.refl _ _⟩
  case round =>
    obtain ⟨i, hi, rfl, hb⟩ := hrel
    have HB := hid hb
    have HBW := hid (below_on _ _ HB1.out hb)
    clear hb
    by_cases hlt : i < l.length
    · have hlt' : (i : Int) < (l.length : Int) := by omega
      have hi2 : (i : Int) < 1000 := by omega
      obtain ⟨b, o, hpo, c0, c1⟩ := HCEL.out wr HBW.out i hlt
      subst hpo
      have HC1 := hid c1
      obtain ⟨he0, he1⟩ := HRD.out i hlt
      have HRI := hid (HR2.out wr HBW.out (l.getD i default).nm (HEL.out wr HBW.out i hlt).nl)
      have HST := hid (HEL.out wr HBW.out i hlt).str
      rw [he0, he1] at HRI
      clear c1 he0 he1
      generalize l.getD i default = x at *
      obtain ⟨nm, pb, cb, bs⟩ := x
      dsimp only [FlV.bv] at *
      go_wp2_with (first
        | (go_at_call 32; refine HRI.out.mono ?_; rintro e w2 ⟨p2, c2, rfl, ho2, hb2⟩; have HB2 := hid hb2; have HS2 := hid (own_str ho2); have c1 := (World.cell?_of_block (hb2.block b (cell_lt2 HC1.out))).trans HC1.out; clear ho2 hb2)
        | (go_at_call 64; refine (same_true _ _ _ _ _ _ _ HS2.out (HST.out.below HB2.out)).mono ?_; rintro e w3 ⟨rfl, hw3⟩; subst hw3))
      go_roundw
      case rel => exact ⟨i + 1, by omega, by go_num, below_on _ _ HB.out HB2.out⟩
      case measure => simp [intOf]; omega
    · have hlt' : ¬ (i : Int) < (l.length : Int) := by omega
      clear HRD
      go_wp2
      go_loopw [8, 12] (fun v q wq => ∃ j : Nat, j ≤ ns.length ∧ q = .int .i64 (j : Int) ∧ v = .int .i64 (seenN (l.map FlV.fl) ns j : Int) ∧ Below w1.heap.size w1 wq) (fun _ q _ => (1000 - intOf q).toNat)
      case atStart => exact ⟨0, Nat.zero_le _, rfl, by simp [seenN], HB.out⟩
      case round =>
        clear HB HBW
        obtain ⟨j, hj, rfl, rfl, hb⟩ := hrel
        have HB := hid hb
        have HBW := hid (below_on _ _ HB1.out hb)
        clear hb
        have hsn := seenN_le (l.map FlV.fl) ns j
        by_cases hjt : j < ns.length
        · have hjt' : (j : Int) < (ns.length : Int) := by omega
          have hj2 : (j : Int) < 1000 := by omega
          have HSS := hid (seenN_succ (l.map FlV.fl) ns j hjt)
          generalize hsn0 : seenN (l.map FlV.fl) ns j = sn at *
          have hs2 : (sn : Int) ≤ 1000 := by omega
          obtain ⟨bn, hpn, cn'⟩ : ∃ bn, pn = some ⟨bn, 0, none⟩ ∧ ∀ i, i < ns.length → w1.cell? ⟨bn, i, none⟩ = some (sv (ns.getD i [])) := by
            rcases HT1.out with ⟨h0, _⟩ | ⟨b, c, e, h⟩
            · rw [h0] at hjt; exact absurd hjt (Nat.not_lt_zero _)
            · cases e; exact ⟨b, rfl, h⟩
          subst hpn
          have HCN := hid (cn' j hjt)
          have HMM := hid (mineN_all l (ns.getD j []))
          have HMS := hid (mineN_succ l (ns.getD j []))
          have HOJ := hid (HOL.out (ns.getD j []) (by rw [getD_in _ j [] hjt]; exact List.getElem_mem hjt))
          have HNJ := hid (HNL.out (ns.getD j []) (by rw [getD_in _ j [] hjt]; exact List.getElem_mem hjt))
          have HSE := hid (fun x => sv_eq x (ns.getD j []))
          clear cn'
          generalize ns.getD j [] = s at *
          go_wp2
          go_loopw [13, 14] (fun v q wk => ∃ k : Nat, k ≤ l.length ∧ q = .int .i64 (k : Int) ∧ v = .bool (mineN l s k) ∧ ∃ dn, wk = wr.drewN dn) (fun _ q _ => (1000 - intOf q).toNat)
          case atStart => exact ⟨0, Nat.zero_le _, rfl, rfl, 0, rfl⟩
          case round =>
            obtain ⟨k, hk, rfl, rfl, hw⟩ := hrel
            have HWD := hid hw
            have HB := hid (show Below w1.heap.size w1 wr from (by obtain ⟨dn, rfl⟩ := hw; exact below_on _ _ HB.out (below_drewN _ dn)))
            have HBW := hid (below_on _ _ HB1.out HB.out)
            clear hw
            by_cases hkt : k < l.length
            · have hkt' : (k : Int) < (l.length : Int) := by omega
              have hk2 : (k : Int) < 1000 := by omega
              have HSK := hid (HMS.out k hkt)
              cases hmk : mineN l s k with
              | true =>
                go_wp2
                go_quiet (fail)
                go_wp2
                go_roundw
                case rel =>
                  refine ⟨k + 1, by omega, by go_num, by rw [HSK.out, hmk]; rfl, ?_⟩
                  obtain ⟨dn, rfl⟩ := HWD.out
                  first | exact ⟨_, rfl⟩ | exact ⟨dn + nq, by simp [World.drewN, Nat.add_assoc]⟩
                case measure => simp [intOf]; omega
              | false =>
                obtain ⟨b, o, hpo, c0, -⟩ := HCEL.out wr HBW.out k hkt
                subst hpo
                have hbq := HSE.out (l.getD k default).nm
                have cs := (World.cell?_of_block (HB.out.block bn (cell_lt2 HCN.out))).trans HCN.out
                unfold sv at cs c0
                generalize hX : (⟨(l.getD k default).nm.toArray⟩ : ByteArray) = X at *
                generalize hY : (⟨s.toArray⟩ : ByteArray) = Y at *
                by_cases he : (l.getD k default).nm = s
                · have hxy := hbq.2 he
                  subst hxy
                  clear hbq
                  go_wp2
                  go_quiet (fail)
                  go_wp2
                  go_roundw
                  case rel =>
                    refine ⟨k + 1, by omega, by go_num, by rw [HSK.out, hmk, he]; simp, ?_⟩
                    obtain ⟨dn, rfl⟩ := HWD.out
                    first | exact ⟨_, rfl⟩ | exact ⟨dn + nq, by simp [World.drewN, Nat.add_assoc]⟩
                  case measure => simp [intOf]; omega
                · have hxy : X ≠ Y := fun e => he (hbq.1 e)
                  have hx2 := ba_ne hxy
                  clear hbq
                  go_wp2
                  go_quiet (fail)
                  go_wp2
                  go_roundw
                  case rel =>
                    refine ⟨k + 1, by omega, by go_num, by rw [HSK.out, hmk, show ((l.getD k default).nm == s) = false from by simpa using he]; rfl, ?_⟩
                    obtain ⟨dn, rfl⟩ := HWD.out
                    first | exact ⟨_, rfl⟩ | exact ⟨dn + nq, by simp [World.drewN, Nat.add_assoc]⟩
                  case measure => simp [intOf]; omega
            · have hkt' : ¬ (k : Int) < (l.length : Int) := by omega
              have ek : k = l.length := by omega
              have hmq : mineN l s k = (l.map FlV.fl).any fun x => x.1 == s := by rw [ek]; exact HMM.out
              clear HMM HMS
              cases hmk : mineN l s k with
              | true =>
                have hmn := hmq.symm.trans hmk
                clear hmq hmk
                have HSS2 := HSS.out
                rw [hmn] at HSS2
                go_wp2
                go_roundw
                case rel => exact ⟨j + 1, by omega, by go_num, by rw [HSS2]; simp, HB.out⟩
                case measure => simp [intOf]; omega
              | false =>
                have hmn := hmq.symm.trans hmk
                clear hmq hmk
                have HSS2 := HSS.out
                rw [hmn] at HSS2
                have HSS3 := hid HSS2
                clear HSS2
                obtain ⟨he0, he1, he2⟩ := HOJ.out hmn
                have HRA := hid (HR1.out wr HBW.out s HNJ.out)
                have HRB := hid (fun W' hb => HR2.out W' hb s HNJ.out)
                rw [he0] at HRA
                rw [he1, ← he2] at HRB
                generalize d1.readB f1 s = bs at *
                have cs := (World.cell?_of_block (HB.out.block bn (cell_lt2 HCN.out))).trans HCN.out
                clear he0 he1 he2 hmn
                go_wp2_with (first
                  | (go_at_call 32; refine HRA.out.mono ?_; rintro e w2 ⟨p2, c2, rfl, ho2, hb2⟩; have HB2 := hid (below_on _ _ HB.out hb2); have HS2 := hid (own_str ho2); have cs := (World.cell?_of_block (HB2.out.block bn (cell_lt2 HCN.out))).trans HCN.out; clear ho2 hb2 HRA)
                  | (go_at_call 32; refine (HRB.out _ (below_on _ _ HB1.out HB2.out)).mono ?_; rintro e w3 ⟨p3, c3, rfl, ho3, hb3⟩; have HB3 := hid (below_on _ _ HB2.out hb3); have HS3 := hid (own_str ho3); have HS2 := hid (HS2.out.below hb3); clear ho3 hb3)
                  | (go_at_call 64; refine (same_true _ _ _ _ _ _ _ HS2.out HS3.out).mono ?_; rintro e w4 ⟨rfl, hw4⟩; subst hw4))
                go_roundw
                case rel => exact ⟨j + 1, by omega, by go_num, by rw [HSS3.out]; go_num, HB3.out⟩
                case measure => simp [intOf]; omega
        · have hjt' : ¬ (j : Int) < (ns.length : Int) := by omega
          have ej : j = ns.length := by omega
          subst ej
          have hse : seenN (l.map FlV.fl) ns ns.length = (ns.filter fun s => !((l.map FlV.fl).any fun x => x.1 == s)).length := by unfold seenN; rw [List.take_length]
          have hl2 : (l.map FlV.fl).length = l.length := List.length_map ..
          have hln : ns2.length = seenN (l.map FlV.fl) ns ns.length + l.length := by rw [hse, HLN.out, hl2]
          clear hse hl2
          generalize seenN (l.map FlV.fl) ns ns.length = sn at *
          have hs2 : (sn : Int) ≤ 1000 := by omega
          have HN2' := hid (HN2.out wr HBW.out)
          have heq : ((ns2.length : Int) == (sn : Int) + (l.length : Int)) = true := by rw [hln]; simp
          go_wp2_with (go_at_call 35; refine HN2'.out.mono ?_; rintro e w5 ⟨p5, c5, rfl, -, hb5⟩; have HB5 := hid (below_on _ _ HBW.out hb5); clear hb5)
          go_ret
          exact ⟨by first | rfl | trivial, HB5.out⟩
end Go.Proofs.YtklchjfkkbpipaaGreatDoor

/- Files and bools of the statements that came in. -/
namespace Go.Proofs.YtklchjfkkbpipaaGreatDoor
open Go Go.RowKit Go.Shelf

/-- Files that came in. -/
def IsFs (w : World) (v : Value) (l : List FilV) : Prop := ∃ po c, v = .slice po l.length c ∧ l.length ≤ maxLen ∧ (l = [] ∨ ∃ b o, po = some ⟨b, o, none⟩ ∧ ∀ i x, l[i]? = some x → ∀ j, j < 4 → w.cell? ⟨b, o + i * 4 + j, none⟩ = x.val[j]?) ∧ ∀ x ∈ l, x.ok w
/-- Bools that came in. -/
def IsKs (w : World) (v : Value) (l : List Bool) : Prop := ∃ po c, v = .slice po l.length c ∧ l.length ≤ maxLen ∧ KAt w (fun _ => False) po l
section
variable {H : Type} {enc : TypeId × Value → H} {w : World} {held : Bool} {fuel : Nat}
theorem bools_read10 {cs : List Value} {x : DataW H × List MemPlace} (h : DataW.trod enc Tryz.prog w 0 (fun _ => true) held fuel 33 cs = some x) : ∃ v l, cs = [v] ∧ IsKs w v l := by
  obtain ⟨po, c, ks, hcs, hk⟩ := bools_read h
  refine ⟨_, ks, hcs, po, c, rfl, ?_, hk⟩
  rcases DataW.trod_slice Tryz.underlying33 h with ⟨h1, _⟩ | ⟨ad, l, c, elems, rest, n, _, h1, _, _, hl, hc, hlen, hel, _, _⟩
  · rw [hcs] at h1; simp at h1; rw [h1.2.1]; exact Nat.zero_le _
  · rw [hcs] at h1; simp at h1; obtain ⟨_, e, _⟩ := h1; rw [e]; exact Nat.le_trans hl hc
set_option maxRecDepth 100000 in
theorem fil_read10 {cs : List Value} {x : DataW H × List MemPlace} (h : DataW.trod enc Tryz.prog w 0 (fun _ => true) held fuel 62 cs = some x) : ∃ y : FilV, y.ok w ∧ cs = y.val.toList := by
  obtain ⟨xs, n, _, _, hcl, hxl, hf⟩ := DataW.trod_struct Tryz.underlying62 h
  have h4 : cs.length = 4 := by rw [hcl]; kernel_rfl
  have hx4 : xs.length = 4 := by rw [hxl]; rfl
  have k3 : Tryz.prog.cellsOf 3 = 1 := by kernel_rfl
  have kR : Tryz.prog.cellsOf 30 = 1 := by kernel_rfl
  match cs, h4, xs, hx4 with
  | [c0, c1, c2, c3], _, [y0, y1, y2, y3], _ =>
    have f0 : DataW.trod enc Tryz.prog w 0 (fun _ => true) held n 30 (([c0, c1, c2, c3].drop 0).take (Tryz.prog.cellsOf 30)) = some y0 := hf 0 _ rfl
    rw [kR] at f0
    have f1 : DataW.trod enc Tryz.prog w 0 (fun _ => true) held n 30 (([c0, c1, c2, c3].drop 1).take (Tryz.prog.cellsOf 30)) = some y1 := hf 1 _ rfl
    rw [kR] at f1
    have f2 : DataW.trod enc Tryz.prog w 0 (fun _ => true) held n 30 (([c0, c1, c2, c3].drop 2).take (Tryz.prog.cellsOf 30)) = some y2 := hf 2 _ rfl
    rw [kR] at f2
    have f3 : DataW.trod enc Tryz.prog w 0 (fun _ => true) held n 3 (([c0, c1, c2, c3].drop 3).take (Tryz.prog.cellsOf 3)) = some y3 := hf 3 _ rfl
    rw [k3] at f3
    obtain ⟨p0, q0, b0, e0, w0, v0⟩ := bytes_read f0
    obtain ⟨p1, q1, b1, e1, w1, v1⟩ := bytes_read f1
    obtain ⟨p2, q2, b2, e2, w2, v2⟩ := bytes_read f2
    obtain ⟨z3, e3, _, _⟩ := DataW.trod_int Tryz.underlying3 f3
    simp at e0 e1 e2 e3
    subst e0 e1 e2 e3
    exact ⟨⟨⟨p0, q0, b0⟩, ⟨p1, q1, b1⟩, ⟨p2, q2, b2⟩, z3⟩, ⟨⟨v0, w0⟩, ⟨v1, w1⟩, ⟨v2, w2⟩⟩, rfl⟩
set_option maxRecDepth 100000 in
theorem fils_read10 {cs : List Value} {x : DataW H × List MemPlace} (h : DataW.trod enc Tryz.prog w 0 (fun _ => true) held fuel 58 cs = some x) : ∃ v l, cs = [v] ∧ IsFs w v l := by
  have k4 : Tryz.prog.cellsOf 62 = 4 := by kernel_rfl
  rcases DataW.trod_slice Tryz.underlying58 h with ⟨hcs, _⟩ | ⟨ad, l, c, elems, rest, n, _, hcs, _, _, hl, hc, hlen, hel, _, _⟩
  · exact ⟨_, [], hcs, none, 0, rfl, Nat.zero_le _, .inl rfl, fun x hx => by cases hx⟩
  · rw [k4] at hel
    have each : ∀ i, i < l → ∃ y : FilV, y.ok w ∧ ∀ j, j < 4 → w.cell? ((ad.add (i * 4)).add j) = y.val[j]? := fun i hi => by
      have h1 := hel i hi
      rw [List.getElem?_eq_getElem (by omega)] at h1
      obtain ⟨ds, hc1, hc2⟩ := Option.bind_eq_some_iff.1 h1
      obtain ⟨y, hy, rfl⟩ := fil_read10 hc2
      obtain ⟨_, _, hcell⟩ := World.cells?_some hc1
      exact ⟨y, hy, fun j hj => by rw [hcell j hj]; simp⟩
    by_cases h0 : l = 0
    · subst h0
      exact ⟨_, [], hcs, some ad, c, rfl, Nat.zero_le _, .inl rfl, fun x hx => by cases hx⟩
    obtain ⟨y0, hy0, h00⟩ := each 0 (by omega)
    obtain ⟨b, o, rfl⟩ : ∃ b o, ad = ⟨b, o, none⟩ := by
      have h00 := h00 0 (by omega)
      rw [Nat.zero_mul, add_zero', add_zero'] at h00
      exact plain_at ad w (by rw [h00]; simp)
    have each2 : ∀ i, i < l → ∃ y : FilV, y.ok w ∧ ∀ j, j < 4 → w.cell? ⟨b, o + i * 4 + j, none⟩ = y.val[j]? := fun i hi => by
      obtain ⟨y, h1, h2⟩ := each i hi
      exact ⟨y, h1, fun j hj => by have := h2 j hj; rw [add_none, add_none] at this; exact this⟩
    obtain ⟨g, hg⟩ : ∃ g : Nat → FilV, ∀ i, i < l → (g i).ok w ∧ ∀ j, j < 4 → w.cell? ⟨b, o + i * 4 + j, none⟩ = (g i).val[j]? :=
      ⟨fun i => if h : i < l then (each2 i h).choose else y0, fun i hi => by dsimp only; rw [dif_pos hi]; exact (each2 i hi).choose_spec⟩
    refine ⟨_, (List.range l).map g, hcs, some ⟨b, o, none⟩, c, by simp, by simpa using Nat.le_trans hl hc, .inr ⟨b, o, rfl, fun i x hx => ?_⟩, fun x hx => ?_⟩
    · have hi : i < l := by
        rcases Nat.lt_or_ge i l with q | q
        · exact q
        · rw [List.getElem?_eq_none (by simpa using q)] at hx; cases hx
      have e : ((List.range l).map g)[i]? = some (g i) := by simp [hi]
      rw [e] at hx
      cases hx
      exact (hg i hi).2
    · obtain ⟨i, hi, rfl⟩ := List.mem_map.1 hx
      exact (hg i (by simpa using hi)).1
end
section
variable {w w' : World}
theorem BV.ok.below {x : BV} (h : x.ok w) (hb : Below w.heap.size w w') : x.ok w' := by
  refine ⟨h.b8, ?_⟩
  rcases h.bt with h1 | ⟨a, h1, h2⟩
  · exact .inl h1
  · exact .inr ⟨a, h1, fun i hi => (World.cell?_of_block (by rw [add_block]; exact hb.block _ (by have := cell_lt' (w := w) (a := a.add i) (by rw [h2 i hi]; simp); rwa [add_block] at this))).trans (h2 i hi)⟩
theorem FilV.ok.below {x : FilV} (h : x.ok w) (hb : Below w.heap.size w w') : x.ok w' := ⟨h.a.below hb, h.b.below hb, h.c.below hb⟩
theorem IsFs.below {v : Value} {l : List FilV} (h : IsFs w v l) (hb : Below w.heap.size w w') : IsFs w' v l := by
  obtain ⟨po, c, rfl, h0, h1, h2⟩ := h
  refine ⟨po, c, rfl, h0, ?_, fun x hx => (h2 x hx).below hb⟩
  rcases h1 with h1 | ⟨b, o, rfl, h1⟩
  · exact .inl h1
  · exact .inr ⟨b, o, rfl, fun i x hx j hj => (World.cell?_of_block (hb.block b (by have := h1 i x hx 0 (by omega); exact cell_lt2 this))).trans (h1 i x hx j hj)⟩
theorem IsKs.below {v : Value} {l : List Bool} (h : IsKs w v l) (hb : Below w.heap.size w w') : IsKs w' v l := by
  obtain ⟨po, c, rfl, h0, h1⟩ := h
  refine ⟨po, c, rfl, h0, ?_⟩
  rcases h1 with h1 | ⟨b, o, rfl, hS, h1⟩
  · exact .inl h1
  · exact .inr ⟨b, o, rfl, hS, fun i hi => (World.cell?_of_block (hb.block b (cell_lt2 (h1 i hi)))).trans (h1 i hi)⟩
/-- A file of what came in may be written: it lies below all drives. -/
theorem BV.ok.fl {x : BV} (h : x.ok w) (hx : x.bs.length ≤ 300) {s : Nm} (hs : s.length ≤ 1000) {W : World} (hb : Below w.heap.size w W) {T : Nat → Prop} (hT : ∀ b, T b → w.heap.size ≤ b) : (x.fl s).ok W T := by
  refine ⟨by unfold maxLen; show s.length ≤ _; omega, h.b8, by show x.bs.length ≤ _; omega, (h.below hb).bt, fun a e hn ht => ?_⟩
  have e' : x.po = some a := e
  rcases h.bt with ⟨_, h2⟩ | ⟨a', h1, h2⟩
  · exact hn h2
  · rw [h1] at e'; cases e'
    have := h2 0 (List.length_pos_iff.2 hn)
    have := cell_lt' (w := w) (a := a.add 0) (by rw [this]; simp)
    rw [add_block] at this
    have := hT _ ht
    omega
theorem lg_le {x : FilV} (h : x.lg = false) : x.a.bs.length ≤ 300 ∧ x.b.bs.length ≤ 300 ∧ x.c.bs.length ≤ 300 := by
  unfold FilV.lg at h
  simp at h
  omega
theorem FilV.ok.fls {x : FilV} (h : x.ok w) (hx : x.lg = false) {W : World} (hb : Below w.heap.size w W) {T : Nat → Prop} (hT : ∀ b, T b → w.heap.size ≤ b) : ∀ y ∈ x.fls, y.ok W T := fun y hy => by
  obtain ⟨l1, l2, l3⟩ := lg_le hx
  unfold FilV.fls at hy
  simp only [List.mem_append] at hy
  rcases hy with hy | hy | hy
  · split at hy
    · simp at hy; subst hy; exact h.a.fl l1 (by simp) hb hT
    · simp at hy
  · split at hy
    · simp at hy; subst hy; exact h.b.fl l2 (by simp) hb hT
    · simp at hy
  · split at hy
    · simp at hy; subst hy; exact h.c.fl l3 (by simp) hb hT
    · simp at hy
end
end Go.Proofs.YtklchjfkkbpipaaGreatDoor
