/- RecordKnown: the walk. -/
import Derived.Test.YtepkpkbgmchioaaWp
import Derived.Deep.Cut
namespace Go.Proofs.Ytepkpkbgmchioaa
open Go Go.RowKit

theorem P3.fields {w W : World} {ga gb gc : Nat} {Z A S N : Rv} (h : P3 w W ga gb gc Z Z Z) (hA : ({ Z with id := ⟨#[65]⟩ } : Rv) = A) (hS : ({ Z with size := 1 } : Rv) = S) (hN : ({ Z with mark := false } : Rv) = N) :
    W.cell? ⟨ga, 0, none⟩ = some (.string Z.id) ∧ (∀ i, W.frozen? ⟨ga, i, none⟩ = false) ∧ (W.setCell ⟨ga, 0, none⟩ (.string ⟨#[65]⟩)).cell? ⟨gb, 3, none⟩ = some (i64 Z.size) ∧ (∀ i, (W.setCell ⟨ga, 0, none⟩ (.string ⟨#[65]⟩)).frozen? ⟨gb, i, none⟩ = false) ∧
      ((W.setCell ⟨ga, 0, none⟩ (.string ⟨#[65]⟩)).setCell ⟨gb, 3, none⟩ (i64 1)).cell? ⟨gc, 2, none⟩ = some (.bool Z.mark) ∧ (∀ i, ((W.setCell ⟨ga, 0, none⟩ (.string ⟨#[65]⟩)).setCell ⟨gb, 3, none⟩ (i64 1)).frozen? ⟨gc, i, none⟩ = false) ∧
      P3 w (((W.setCell ⟨ga, 0, none⟩ (.string ⟨#[65]⟩)).setCell ⟨gb, 3, none⟩ (i64 1)).setCell ⟨gc, 2, none⟩ (.bool false)) ga gb gc A S N := by
  have zok := h.k1
  have hs : (⟨#[65]⟩ : ByteArray).size ≤ 100000 := by simp [ByteArray.size]
  have pa := h.set1 (h.b1.set0 zok ⟨#[65]⟩ hs) ⟨zok.sl, zok.s8, hs, zok.e, zok.d, zok.u⟩ (Only.set W ⟨ga, 0, none⟩ _ rfl)
  have pb := pa.set2 (pa.b2.set3 zok 1) ⟨zok.sl, zok.s8, zok.i, zok.e, zok.d, zok.u⟩ (Only.set _ ⟨gb, 3, none⟩ _ rfl)
  have pc := pb.set3 (pb.b3.set2 zok false) ⟨zok.sl, zok.s8, zok.i, zok.e, zok.d, zok.u⟩ (Only.set _ ⟨gc, 2, none⟩ _ rfl)
  subst hA hS hN
  exact ⟨h.b1.c0, h.b1.free, pa.b2.c3, pa.b2.free, pb.b3.c2, pb.b3.free, pc⟩
theorem same_lit {W : World} {v : Value} {x : List Nat} (hv : SL W v x) (h8 : ∀ z ∈ x, z < 256) (C : Array Value) (n : Nat) (fz : Nat × Nat) (hn : n = x.length) (hC : C = (x.map u8).toArray) : Calls Try.prog 11 #[v, .slice (some ⟨W.heap.size, 0, none⟩) n n] (W.alloc (.cells C 5 fz)) fun e w' => e = .returned (.bool true) ∧ Below W.heap.size W w' :=
  (sameB_true (hv.below (below_al _ _)) (slNew W C fz x n hn hC) h8).mono fun _ _ ⟨h1, h2⟩ => ⟨h1, h2 ▸ below_al _ _⟩
theorem read_lit (W : World) (C : Array Value) (x : List Nat) (n : Nat) (hn : n = x.length) (hC : C = (x.map u8).toArray) (hl : x.length ≤ 100000) (h8 : ∀ z ∈ x, z < 256) (hq : rdU x = none) : Calls Try.prog 15 #[.slice (some ⟨W.heap.size, 0, none⟩) n n] (W.alloc (.cells C 5)) fun e w' => e = .returned (.tuple #[i64 0, .slice none 0 0, i64 4]) ∧ Below W.heap.size W w' := by
  obtain ⟨po, c, he, hbl, hc⟩ := slNew W C (0, 0) x n hn hC
  rw [he]
  exact (readUint_bad po c x _ hbl hc hl h8 hq).mono fun _ _ ⟨h1, h2⟩ => ⟨h1, below_on (below_al _ _) h2⟩
theorem check_no (r : Rv) (hk : r.ok) (hp : r.pv = .slice none 0 0) (h : okRc (r.rc []) = false) (W : World) : Calls Try.prog 23 #[.agg r.cs] W fun e w' => e = .returned (i64 2) ∧ Below W.heap.size W w' := by
  have := check_any r hk [] W (hp ▸ PL.nil W)
  rw [h] at this
  exact this
theorem check_yes (r : Rv) (hk : r.ok) (hp : r.pv = .slice none 0 0) (h : okRc (r.rc []) = true) (W : World) : Calls Try.prog 23 #[.agg r.cs] W fun e w' => e = .returned (i64 0) ∧ Below W.heap.size W w' := by
  have := check_any r hk [] W (hp ▸ PL.nil W)
  rw [h] at this
  exact this
set_option maxRecDepth 100000 in
set_option maxHeartbeats 2000000 in
theorem known_all (w : World) : Calls Try.prog 8 #[] w fun e w' => e = .returned (.bool true) ∧ Below w.heap.size w w' := by
  have HU0 : Hid (∀ W, Calls Try.prog 9 #[.int .i64 0] W (OutE W [0] 0)) := hid (fun W => by have := uint_ok 0 W (by decide); rw [nb0] at this; exact this)
  have HU1 : Hid (∀ W, Calls Try.prog 9 #[.int .i64 127] W (OutE W [127] 0)) := hid (fun W => by have := uint_ok 127 W (by decide); rw [nb127] at this; exact this)
  have HU2 : Hid (∀ W, Calls Try.prog 9 #[.int .i64 128] W (OutE W [128, 1] 0)) := hid (fun W => by have := uint_ok 128 W (by decide); rw [nb128] at this; exact this)
  have HU3 : Hid (∀ W, Calls Try.prog 9 #[.int .i64 300] W (OutE W [172, 2] 0)) := hid (fun W => by have := uint_ok 300 W (by decide); rw [nb300] at this; exact this)
  have HTX : Hid (∀ W, Calls Try.prog 10 #[.string ⟨#[97, 98]⟩] W (OutE W [2, 97, 98] 0)) := hid (fun W => by have := text_ok ⟨#[97, 98]⟩ W (by decide); rw [tb_ab] at this; exact this)
  have HR1 : Hid (∀ W : World, Calls Try.prog 15 #[.slice (some ⟨W.heap.size, 0, none⟩) 2 2] (W.alloc (.cells #[.int .u8 128, .int .u8 0] 5)) fun e w' => e = .returned (.tuple #[i64 0, .slice none 0 0, i64 4]) ∧ Below W.heap.size W w') := hid (fun W => read_lit W _ [128, 0] 2 rfl rfl (by decide) (by decide) rd1)
  have HR2 : Hid (∀ W : World, Calls Try.prog 15 #[.slice (some ⟨W.heap.size, 0, none⟩) 1 1] (W.alloc (.cells #[.int .u8 128] 5)) fun e w' => e = .returned (.tuple #[i64 0, .slice none 0 0, i64 4]) ∧ Below W.heap.size W w') := hid (fun W => read_lit W _ [128] 1 rfl rfl (by decide) (by decide) rd2)
  have HR3 : Hid (∀ W : World, Calls Try.prog 15 #[.slice none 0 0] W fun e w' => e = .returned (.tuple #[i64 0, .slice none 0 0, i64 4]) ∧ Below W.heap.size W w') := hid (fun W => readUint_bad none 0 [] W (Or.inl rfl) (Nat.le_refl _) (by decide) (by simp) rd3)
  obtain ⟨Z, A, S, N, hA, hS, hN, zok, zone, HM, HCA, HCS, HCN, HCZ⟩ : ∃ Z A S N : Rv, ({ Z with id := ⟨#[65]⟩ } : Rv) = A ∧ ({ Z with size := 1 } : Rv) = S ∧ ({ Z with mark := false } : Rv) = N ∧ Z.ok ∧ Z.pv.oneCell' = true ∧ Hid (∀ W, Calls Try.prog 34 #[] W fun e w' => e = .returned (.agg Z.cs) ∧ Below W.heap.size W w') ∧
      Hid (∀ W, Calls Try.prog 23 #[.agg A.cs] W fun e w' => e = .returned (i64 2) ∧ Below W.heap.size W w') ∧ Hid (∀ W, Calls Try.prog 23 #[.agg S.cs] W fun e w' => e = .returned (i64 2) ∧ Below W.heap.size W w') ∧ Hid (∀ W, Calls Try.prog 23 #[.agg N.cs] W fun e w' => e = .returned (i64 2) ∧ Below W.heap.size W w') ∧ Hid (∀ W, Calls Try.prog 23 #[.agg Z.cs] W fun e w' => e = .returned (i64 0) ∧ Below W.heap.size W w') :=
    ⟨mk5, kA, kS, kN, rfl, rfl, rfl, mk5_ok, rfl, hid mark_any, hid (check_no kA ⟨mk5_ok.sl, mk5_ok.s8, by simp [kA, ByteArray.size], mk5_ok.e, mk5_ok.d, mk5_ok.u⟩ rfl kA_no), hid (check_no kS ⟨mk5_ok.sl, mk5_ok.s8, mk5_ok.i, mk5_ok.e, mk5_ok.d, mk5_ok.u⟩ rfl kS_no), hid (check_no kN ⟨mk5_ok.sl, mk5_ok.s8, mk5_ok.i, mk5_ok.e, mk5_ok.d, mk5_ok.u⟩ rfl kN_no), hid (check_yes mk5 mk5_ok rfl mk5_may)⟩
  have HA := hid hA
  have HS := hid hS
  have HN := hid hN
  have T1 : Hid True := hid trivial
  have T2 : Hid True := hid trivial
  have T3 : Hid True := hid trivial
  have S1 : Hid True := hid trivial
  have S2 : Hid True := hid trivial
  have S3 : Hid True := hid trivial
  clear hA hS hN
  go_enter Try.func8, Try.ntmps8
  go_upto_region 13 with (first
    | (go_at_call 9; (with_reducible refine (HU0.out _).mono ?_); rintro e w1 ⟨v1, rfl, ho1, hb1⟩; have HG1 := hid (And.intro hb1 (Bag.cons (Bag.nil _) ho1.sl)); clear ho1 hb1 HU0)
    | (go_at_call 9; (with_reducible refine (HU1.out _).mono ?_); rintro e w2 ⟨v2, rfl, ho2, hb2⟩; have HG2 := hid (And.intro (below_on HG1.out.1 hb2) (Bag.cons (HG1.out.2.below hb2) ho2.sl)); clear ho2 hb2 HU1 HG1)
    | (go_at_call 9; (with_reducible refine (HU2.out _).mono ?_); rintro e w3 ⟨v3, rfl, ho3, hb3⟩; have HG3 := hid (And.intro (below_on HG2.out.1 hb3) (Bag.cons (HG2.out.2.below hb3) ho3.sl)); clear ho3 hb3 HU2 HG2)
    | (go_at_call 9; (with_reducible refine (HU3.out _).mono ?_); rintro e w4 ⟨v4, rfl, ho4, hb4⟩; have HG4 := hid (And.intro (below_on HG3.out.1 hb4) (Bag.cons (HG3.out.2.below hb4) ho4.sl)); clear ho4 hb4 HU3 HG3)
    | (go_at_call 10; (with_reducible refine (HTX.out _).mono ?_); rintro e w5 ⟨v5, rfl, ho5, hb5⟩; have HG5 := hid (And.intro (below_on HG4.out.1 hb5) (Bag.cons (HG4.out.2.below hb5) ho5.sl)); clear ho5 hb5 HTX HG4)
    | (go_at_call 15; (with_reducible refine (HR1.out _).mono ?_); rintro e w6 ⟨rfl, hb6⟩; have HG6 := hid (And.intro (below_on HG5.out.1 hb6) (HG5.out.2.below hb6)); clear hb6 HR1 HG5)
    | (go_at_call 15; (with_reducible refine (HR2.out _).mono ?_); rintro e w7 ⟨rfl, hb7⟩; have HG7 := hid (And.intro (below_on HG6.out.1 hb7) (HG6.out.2.below hb7)); clear hb7 HR2 HG6)
    | (go_at_call 15; (with_reducible refine (HR3.out _).mono ?_); rintro e w8 ⟨rfl, hb8⟩; have HG8 := hid (And.intro (below_on HG7.out.1 hb8) (HG7.out.2.below hb8)); clear hb8 HR3 HG7)
    | (go_at_call 34; (with_reducible refine (HM.out _).mono ?_); rintro e w9 ⟨rfl, hb9⟩; replace HG8 := hid (And.intro (below_on HG8.out.1 hb9) (HG8.out.2.below hb9)); clear hb9)
    | (clear T1; (with_reducible refine wpList_allocR rfl rfl ?_); intro wa ga hza hba hga; have HZa := hid hza; have HBa := hid hba; have HGa := hid hga; clear hza hba hga)
    | (clear T2; (with_reducible refine wpList_allocR rfl rfl ?_); intro wb gb hzb hbb hgb; have HZb := hid hzb; have HBb := hid hbb; have HGb := hid hgb; clear hzb hbb hgb)
    | (clear T3; (with_reducible refine wpList_allocR rfl rfl ?_); intro wc gc hzc hbc hgc; have HP := hid (P3.mk1 HZa.out HBa.out HGa.out HZb.out HBb.out HGb.out hzc hbc hgc); clear hzc hbc hgc HZa HBa HGa HZb HBb HGb)
    | (clear S1; (with_reducible refine wpList_storeR rfl rfl _ _ rfl ga ?_ (r := Z) ?_ zR_ok zok zone HP.out.b1 ?_); exact rfl; exact rfl; intro wd hd od; replace HP := hid (HP.out.set1 hd zok od); clear hd od)
    | (clear S2; (with_reducible refine wpList_storeR rfl rfl _ _ rfl gb ?_ (r := Z) ?_ zR_ok zok zone HP.out.b2 ?_); exact rfl; exact rfl; intro we he oe; replace HP := hid (HP.out.set2 he zok oe); clear he oe)
    | (clear S3; (with_reducible refine wpList_storeR rfl rfl _ _ rfl gc ?_ (r := Z) ?_ zR_ok zok zone HP.out.b3 ?_); exact rfl; exact rfl; intro wf hf of_; replace HP := hid (HP.out.set3 hf zok of_); obtain ⟨d0, f0, d3, f3, d2, f2, pc⟩ := HP.out.fields HA.out HS.out HN.out; replace HP := hid pc; clear hf of_ pc))
  clear d0 f0 d3 f3 d2 f2
  generalize ((wf.setCell ⟨ga, 0, none⟩ (.string ⟨#[65]⟩)).setCell ⟨gb, 3, none⟩ (i64 1)).setCell ⟨gc, 2, none⟩ (.bool false) = W0 at HP ⊢
  have HL1 : Hid (∀ W, Below w9.heap.size w9 W → Calls Try.prog 11 #[v1, .slice (some ⟨W.heap.size, 0, none⟩) 1 1] (W.alloc (.cells #[.int .u8 0] 5)) fun e w' => e = .returned (.bool true) ∧ Below W.heap.size W w') := hid (fun W hb => same_lit (x := [0]) ((HG8.out.2 (v1, [0]) (by simp)).below hb) (by decide) _ 1 (0, 0) rfl rfl)
  have HL2 : Hid (∀ W, Below w9.heap.size w9 W → Calls Try.prog 11 #[v2, .slice (some ⟨W.heap.size, 0, none⟩) 1 1] (W.alloc (.cells #[.int .u8 127] 5)) fun e w' => e = .returned (.bool true) ∧ Below W.heap.size W w') := hid (fun W hb => same_lit (x := [127]) ((HG8.out.2 (v2, [127]) (by simp)).below hb) (by decide) _ 1 (0, 0) rfl rfl)
  have HL3 : Hid (∀ W, Below w9.heap.size w9 W → Calls Try.prog 11 #[v3, .slice (some ⟨W.heap.size, 0, none⟩) 2 2] (W.alloc (.cells #[.int .u8 128, .int .u8 1] 5)) fun e w' => e = .returned (.bool true) ∧ Below W.heap.size W w') := hid (fun W hb => same_lit (x := [128, 1]) ((HG8.out.2 (v3, [128, 1]) (by simp)).below hb) (by decide) _ 2 (0, 0) rfl rfl)
  have HL4 : Hid (∀ W, Below w9.heap.size w9 W → Calls Try.prog 11 #[v4, .slice (some ⟨W.heap.size, 0, none⟩) 2 2] (W.alloc (.cells #[.int .u8 172, .int .u8 2] 5)) fun e w' => e = .returned (.bool true) ∧ Below W.heap.size W w') := hid (fun W hb => same_lit (x := [172, 2]) ((HG8.out.2 (v4, [172, 2]) (by simp)).below hb) (by decide) _ 2 (0, 0) rfl rfl)
  have HL5 : Hid (∀ W, Below w9.heap.size w9 W → Calls Try.prog 11 #[v5, .slice (some ⟨W.heap.size, 0, none⟩) 3 3] (W.alloc (.cells #[.int .u8 2, .int .u8 97, .int .u8 98] 5 (3, 4))) fun e w' => e = .returned (.bool true) ∧ Below W.heap.size W w') := hid (fun W hb => same_lit (x := [2, 97, 98]) ((HG8.out.2 (v5, [2, 97, 98]) (by simp)).below hb) (by decide) _ 3 (3, 4) rfl rfl)
  have hcv := fun (w : World) (C : Array Value) (n c : Nat) => Go.Lib.run_convert_bytes_const (P := Try.prog) w 22 5 C n c Try.underlying22 under5
  have T1 : Hid True := hid trivial
  have T2 : Hid True := hid trivial
  have T3 : Hid True := hid trivial
  have HW := hid HG8.out.1
  clear HG8
  go_wp2_with (first
    | (go_at_call 11; (with_reducible refine (HL1.out _ HP.out.below).mono ?_); rintro e wg ⟨rfl, hbg⟩; replace HP := hid (HP.out.on hbg); clear hbg HL1)
    | (go_at_call 11; (with_reducible refine (HL2.out _ HP.out.below).mono ?_); rintro e wg ⟨rfl, hbg⟩; replace HP := hid (HP.out.on hbg); clear hbg HL2)
    | (go_at_call 11; (with_reducible refine (HL3.out _ HP.out.below).mono ?_); rintro e wg ⟨rfl, hbg⟩; replace HP := hid (HP.out.on hbg); clear hbg HL3)
    | (go_at_call 11; (with_reducible refine (HL4.out _ HP.out.below).mono ?_); rintro e wg ⟨rfl, hbg⟩; replace HP := hid (HP.out.on hbg); clear hbg HL4)
    | (go_at_call 11; (with_reducible refine (HL5.out _ HP.out.below).mono ?_); rintro e wg ⟨rfl, hbg⟩; replace HP := hid (HP.out.on hbg); clear hbg HL5)
    | (go_at_call 32; (with_reducible refine (awake_any _).mono ?_); rintro e wg ⟨rfl, hbg⟩; replace HP := hid (HP.out.on hbg); clear hbg)
    | (clear T1; (with_reducible refine wpList_load_at 45 _ rfl ?_ ga 0 ?_ A.cs (.struct (Try.prog.fieldsOf 45)) ?_ underRec rfl ?_ ?_); exact rfl; exact rfl; exact HP.out.b1.whole; (rw [HP.out.k1.size]; exact sizeR))
    | (clear T2; (with_reducible refine wpList_load_at 45 _ rfl ?_ gb 0 ?_ S.cs (.struct (Try.prog.fieldsOf 45)) ?_ underRec rfl ?_ ?_); exact rfl; exact rfl; exact HP.out.b2.whole; (rw [HP.out.k2.size]; exact sizeR))
    | (clear T3; (with_reducible refine wpList_load_at 45 _ rfl ?_ gc 0 ?_ N.cs (.struct (Try.prog.fieldsOf 45)) ?_ underRec rfl ?_ ?_); exact rfl; exact rfl; exact HP.out.b3.whole; (rw [HP.out.k3.size]; exact sizeR))
    | (go_at_call 23; (with_reducible refine (HCA.out _).mono ?_); rintro e wg ⟨rfl, hbg⟩; replace HP := hid (HP.out.on hbg); clear hbg)
    | (go_at_call 23; (with_reducible refine (HCS.out _).mono ?_); rintro e wg ⟨rfl, hbg⟩; replace HP := hid (HP.out.on hbg); clear hbg)
    | (go_at_call 23; (with_reducible refine (HCN.out _).mono ?_); rintro e wg ⟨rfl, hbg⟩; replace HP := hid (HP.out.on hbg); clear hbg)
    | (go_at_call 23; (with_reducible refine (HCZ.out _).mono ?_); rintro e wg ⟨rfl, hbg⟩; replace HP := hid (HP.out.on hbg); clear hbg)
    | (go_at_call 34; (with_reducible refine (HM.out _).mono ?_); rintro e wg ⟨rfl, hbg⟩; replace HP := hid (HP.out.on hbg); clear hbg))
  go_ret
  exact ⟨rfl, below_on HW.out HP.out.below⟩
#print axioms known_all
end Go.Proofs.Ytepkpkbgmchioaa
