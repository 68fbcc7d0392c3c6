/- Contract of change of package drive, for each of the four closures that it is handed. -/
import Derived.Test.YtfppmpfmafnfmaaDg
namespace Go.Proofs.Ytfppmpfmafnfmaa
open Go Go.RowKit

/-- S2: S, and what is new since w. -/
def Grows (w : World) (S S2 : Nat → Prop) : Prop := (∀ b, S b → S2 b) ∧ ∀ b, S2 b → S b ∨ w.heap.size ≤ b
theorem Grows.refl (w : World) (S : Nat → Prop) : Grows w S S := ⟨fun _ h => h, fun _ h => Or.inl h⟩
theorem Grows.on {w w1 : World} {S S2 : Nat → Prop} (h : Grows w1 S S2) (hs : w.heap.size ≤ w1.heap.size) : Grows w S S2 :=
  ⟨h.1, fun b hb => (h.2 b hb).imp id fun h => Nat.le_trans hs h⟩
theorem Grows.fu {w : World} {S S2 : Nat → Prop} (h : Grows w S S2) : ∀ {fu : Option Nat} {f : Fs}, FuAt w S fu f → FuAt w S2 fu f
  | none, none, _ => trivial
  | some _, some (_, _), hf => ⟨hf.1, fun hq => (h.2 _ hq).elim hf.2.1 (fun hle => absurd hf.1.lt (by omega)), hf.2.2⟩
/-- What a call that may change a drive leaves. -/
def Done (w : World) (S : Nat → Prop) (p : Nat) (fu : Option Nat) (r : Nat × Pd × Fs) (e : Ending) (w' : World) : Prop :=
  e = .returned (.int .i64 (r.1 : Int)) ∧ ∃ S2, Grows w S S2 ∧ DrAt w' S2 p fu r.2.1 ∧ FuAt w' S2 fu r.2.2 ∧ Only (fun b => S b ∨ fu = some b) w w'
/-- What a closure does: the files become F2. -/
def Did (w : World) (S : Nat → Prop) (p m : Nat) (fu : Option Nat) (d : Pd) (F2 : List (Nm × Fi)) (e : Ending) (w' : World) : Prop :=
  e = .returned (.tuple #[]) ∧ ∃ S2 L2, Grows w S S2 ∧ DrC w' S2 p m fu { d with F := F2 } L2 ∧ Only (fun b => b = p ∨ b = m) w w'
theorem DrC.moreOps {w : World} {S : Nat → Prop} {p m : Nat} {fu : Option Nat} {d : Pd} {L : List (Nm × Ent)} (h : DrC w S p m fu d L) :
    DrC (w.setCell ⟨p, 4, none⟩ (.int .i64 ((d.ops + 1 : Nat) : Int))) S p m fu { d with ops := d.ops + 1 } L :=
  h.turned (d2 := { d with ops := d.ops + 1 }) (h.c.set 4 _) (h.mp.setCell (Ne.symm h.pm) _) (fun _ _ h1 _ => heap_setCell_ne _ _ _ _ h1) (Nat.le_of_eq (setCell_size _ _ _).symm) h.fs h.so (fun x hx => ⟨h.nm x hx, Or.inl ⟨x, hx, rfl, rfl⟩⟩) h.ap h.us rfl
theorem FuAt.kept {w w' : World} {S T : Nat → Prop} {fu : Option Nat} {f : Fs} (h : FuAt w S fu f) (ho : Only T w w') (hT : ∀ q, fu = some q → ¬ T q) : FuAt w' S fu f :=
  h.keep fun q hq => ho.block q (h.lt q hq) (hT q hq)
theorem FuAt.ne {w : World} {S : Nat → Prop} : ∀ {fu : Option Nat} {f : Fs}, FuAt w S fu f → ∀ q, fu = some q → ¬ S q
  | some _, some (_, _), h, _, rfl => h.2.1
set_option maxRecDepth 100000 in
theorem change_w {w : World} {S : Nat → Prop} {p m : Nat} {fu : Option Nat} {d : Pd} {L : List (Nm × Ent)} (h : DrC w S p m fu d L) {f : Fs} (hf : FuAt w S fu f) (ho : d.ops < 1000000000000) (x0 x1 x2 : Value) (F2 : List (Nm × Fi))
    (hdo : ∀ w1, DrC w1 S p m fu d L → Only (fun b => fu = some b) w w1 → w1.heap.size = w.heap.size → Calls Try.prog 65 #[x0, x1, x2] w1 (Did w1 S p m fu d F2)) :
    Calls Try.prog 64 #[ptr p, .func (.func 65) #[] #[x0, x1, x2]] w (Done w S p fu (d.chg f F2)) := by
  have H := hid h
  have HF := hid hf
  have HD := hid hdo
  have c8 : w.cell? ⟨p, 8, none⟩ = some (fuV fu) := h.c.cell 8
  clear h hf hdo
  match fu, f, HF with
  | none, none, HF =>
    simp only [fuV] at c8
    go_enter Try.func64, Try.ntmps64
    go_wp2_with (go_at_call 65; refine (HD.out w H.out (Only.refl _ _) rfl).mono ?_; rintro e w2 ⟨rfl, S2, L2, hg2, hd2, ho2⟩; have c4 : w2.cell? ⟨p, 4, none⟩ = some (.int .i64 (d.ops : Int)) := hd2.c.cell 4; have z4 : w2.frozen? ⟨p, 4, none⟩ = false := hd2.c.free 4; have HG2 := hid hg2; have HD2 := hid hd2; have HO2 := hid ho2; clear hg2 hd2 ho2)
    go_ret
    refine ⟨rfl, S2, HG2.out, ⟨m, L2, HD2.out.moreOps⟩, trivial, ?_⟩
    exact (HO2.out.mono (fun b hb => Or.inl (hb.elim (fun e => e ▸ H.out.sp) (fun e => e ▸ H.out.sm)))).then (Only.set (S := fun b => b = p) _ _ _ rfl) (fun i _ e => Or.inl (e ▸ H.out.sp))
  | some q, some (n, g), HF =>
    have HL := hid (lets_any HF.out)
    simp only [fuV] at c8
    cases hl : letsF (some (n, g))
    · have e : d.chg (some (n, g)) F2 = (11, d, burn (some (n, g))) := by unfold Pd.chg; rw [hl]; rfl
      have HEE := hid e
      clear e
      rw [hl] at HL
      have HL := hid HL.out
      go_enter Try.func64, Try.ntmps64
      go_wp2_with (go_at_call 79; refine HL.out.mono ?_; rintro e w1 ⟨rfl, hf1, ho1, hz1⟩)
      go_ret
      rw [HEE.out]
      refine ⟨rfl, S, Grows.refl _ _, DrAt.keep ⟨m, L, H.out⟩ ho1.size (fun b hb => ho1.block b (H.out.lt b hb) (fun e => HF.out.2.1 (e ▸ hb))), hf1, ho1.mono fun b e => Or.inr (by rw [e])⟩
    · have e : d.chg (some (n, g)) F2 = (0, { d with F := F2, ops := d.ops + 1 }, burn (some (n, g))) := by unfold Pd.chg; rw [hl]; rfl
      have HEE := hid e
      clear e
      rw [hl] at HL
      have HL := hid HL.out
      go_enter Try.func64, Try.ntmps64
      go_wp2_with (first
        | (go_at_call 79; refine HL.out.mono ?_; rintro e w1 ⟨rfl, hf1, ho1, hz1⟩; have HF1 := hid hf1; have HO1 := hid ho1; have HZ1 := hid hz1; have H1 := hid (H.out.keep ho1.size (fun b hb => ho1.block b (H.out.lt b hb) (fun e => HF.out.2.1 (e ▸ hb)))); clear hf1 ho1 hz1)
        | (go_at_call 65; refine (HD.out w1 H1.out (HO1.out.mono (fun b e => by rw [e])) HZ1.out).mono ?_; rintro e w2 ⟨rfl, S2, L2, hg2, hd2, ho2⟩; have c4 : w2.cell? ⟨p, 4, none⟩ = some (.int .i64 (d.ops : Int)) := hd2.c.cell 4; have z4 : w2.frozen? ⟨p, 4, none⟩ = false := hd2.c.free 4; have HG2 := hid hg2; have HD2 := hid hd2; have HO2 := hid ho2; clear hg2 hd2 ho2))
      go_ret
      rw [HEE.out]
      have hS : ∀ b, b = p ∨ b = m → S b := fun b hb => hb.elim (fun e => e ▸ H.out.sp) (fun e => e ▸ H.out.sm)
      have hO3 : Only (fun b => b = p ∨ b = m) w1 (w2.setCell ⟨p, 4, none⟩ (.int .i64 ((d.ops + 1 : Nat) : Int))) := HO2.out.then (Only.set (S := fun b => b = p ∨ b = m) _ _ _ (Or.inl rfl)) (fun _ _ h => h)
      have hf3 := (HG2.out.fu HF1.out).kept hO3 (fun q' hq' hp => HF1.out.ne q' hq' (hS _ hp))
      exact ⟨rfl, S2, HG2.out.on HO1.out.size, ⟨m, L2, HD2.out.moreOps⟩, hf3, (HO1.out.mono (fun b e => Or.inr (by rw [e]))).then hO3 (fun i _ e => Or.inl (hS i e))⟩
set_option maxRecDepth 100000 in
theorem change_s {w : World} {S : Nat → Prop} {p m : Nat} {fu : Option Nat} {d : Pd} {L : List (Nm × Ent)} (h : DrC w S p m fu d L) {f : Fs} (hf : FuAt w S fu f) (ho : d.ops < 1000000000000) (x0 x1 x2 : Value) (F2 : List (Nm × Fi))
    (hdo : ∀ w1, DrC w1 S p m fu d L → Only (fun b => fu = some b) w w1 → w1.heap.size = w.heap.size → Calls Try.prog 67 #[x0, x1, x2] w1 (Did w1 S p m fu d F2)) :
    Calls Try.prog 64 #[ptr p, .func (.func 67) #[] #[x0, x1, x2]] w (Done w S p fu (d.chg f F2)) := by
  have H := hid h
  have HF := hid hf
  have HD := hid hdo
  have c8 : w.cell? ⟨p, 8, none⟩ = some (fuV fu) := h.c.cell 8
  clear h hf hdo
  match fu, f, HF with
  | none, none, HF =>
    simp only [fuV] at c8
    go_enter Try.func64, Try.ntmps64
    go_wp2_with (go_at_call 67; refine (HD.out w H.out (Only.refl _ _) rfl).mono ?_; rintro e w2 ⟨rfl, S2, L2, hg2, hd2, ho2⟩; have c4 : w2.cell? ⟨p, 4, none⟩ = some (.int .i64 (d.ops : Int)) := hd2.c.cell 4; have z4 : w2.frozen? ⟨p, 4, none⟩ = false := hd2.c.free 4; have HG2 := hid hg2; have HD2 := hid hd2; have HO2 := hid ho2; clear hg2 hd2 ho2)
    go_ret
    refine ⟨rfl, S2, HG2.out, ⟨m, L2, HD2.out.moreOps⟩, trivial, ?_⟩
    exact (HO2.out.mono (fun b hb => Or.inl (hb.elim (fun e => e ▸ H.out.sp) (fun e => e ▸ H.out.sm)))).then (Only.set (S := fun b => b = p) _ _ _ rfl) (fun i _ e => Or.inl (e ▸ H.out.sp))
  | some q, some (n, g), HF =>
    have HL := hid (lets_any HF.out)
    simp only [fuV] at c8
    cases hl : letsF (some (n, g))
    · have e : d.chg (some (n, g)) F2 = (11, d, burn (some (n, g))) := by unfold Pd.chg; rw [hl]; rfl
      have HEE := hid e
      clear e
      rw [hl] at HL
      have HL := hid HL.out
      go_enter Try.func64, Try.ntmps64
      go_wp2_with (go_at_call 79; refine HL.out.mono ?_; rintro e w1 ⟨rfl, hf1, ho1, hz1⟩)
      go_ret
      rw [HEE.out]
      refine ⟨rfl, S, Grows.refl _ _, DrAt.keep ⟨m, L, H.out⟩ ho1.size (fun b hb => ho1.block b (H.out.lt b hb) (fun e => HF.out.2.1 (e ▸ hb))), hf1, ho1.mono fun b e => Or.inr (by rw [e])⟩
    · have e : d.chg (some (n, g)) F2 = (0, { d with F := F2, ops := d.ops + 1 }, burn (some (n, g))) := by unfold Pd.chg; rw [hl]; rfl
      have HEE := hid e
      clear e
      rw [hl] at HL
      have HL := hid HL.out
      go_enter Try.func64, Try.ntmps64
      go_wp2_with (first
        | (go_at_call 79; refine HL.out.mono ?_; rintro e w1 ⟨rfl, hf1, ho1, hz1⟩; have HF1 := hid hf1; have HO1 := hid ho1; have HZ1 := hid hz1; have H1 := hid (H.out.keep ho1.size (fun b hb => ho1.block b (H.out.lt b hb) (fun e => HF.out.2.1 (e ▸ hb)))); clear hf1 ho1 hz1)
        | (go_at_call 67; refine (HD.out w1 H1.out (HO1.out.mono (fun b e => by rw [e])) HZ1.out).mono ?_; rintro e w2 ⟨rfl, S2, L2, hg2, hd2, ho2⟩; have c4 : w2.cell? ⟨p, 4, none⟩ = some (.int .i64 (d.ops : Int)) := hd2.c.cell 4; have z4 : w2.frozen? ⟨p, 4, none⟩ = false := hd2.c.free 4; have HG2 := hid hg2; have HD2 := hid hd2; have HO2 := hid ho2; clear hg2 hd2 ho2))
      go_ret
      rw [HEE.out]
      have hS : ∀ b, b = p ∨ b = m → S b := fun b hb => hb.elim (fun e => e ▸ H.out.sp) (fun e => e ▸ H.out.sm)
      have hO3 : Only (fun b => b = p ∨ b = m) w1 (w2.setCell ⟨p, 4, none⟩ (.int .i64 ((d.ops + 1 : Nat) : Int))) := HO2.out.then (Only.set (S := fun b => b = p ∨ b = m) _ _ _ (Or.inl rfl)) (fun _ _ h => h)
      have hf3 := (HG2.out.fu HF1.out).kept hO3 (fun q' hq' hp => HF1.out.ne q' hq' (hS _ hp))
      exact ⟨rfl, S2, HG2.out.on HO1.out.size, ⟨m, L2, HD2.out.moreOps⟩, hf3, (HO1.out.mono (fun b e => Or.inr (by rw [e]))).then hO3 (fun i _ e => Or.inl (hS i e))⟩
set_option maxRecDepth 100000 in
theorem change_r {w : World} {S : Nat → Prop} {p m : Nat} {fu : Option Nat} {d : Pd} {L : List (Nm × Ent)} (h : DrC w S p m fu d L) {f : Fs} (hf : FuAt w S fu f) (ho : d.ops < 1000000000000) (x0 x1 x2 x3 : Value) (F2 : List (Nm × Fi))
    (hdo : ∀ w1, DrC w1 S p m fu d L → Only (fun b => fu = some b) w w1 → w1.heap.size = w.heap.size → Calls Try.prog 68 #[x0, x1, x2, x3] w1 (Did w1 S p m fu d F2)) :
    Calls Try.prog 64 #[ptr p, .func (.func 68) #[] #[x0, x1, x2, x3]] w (Done w S p fu (d.chg f F2)) := by
  have H := hid h
  have HF := hid hf
  have HD := hid hdo
  have c8 : w.cell? ⟨p, 8, none⟩ = some (fuV fu) := h.c.cell 8
  clear h hf hdo
  match fu, f, HF with
  | none, none, HF =>
    simp only [fuV] at c8
    go_enter Try.func64, Try.ntmps64
    go_wp2_with (go_at_call 68; refine (HD.out w H.out (Only.refl _ _) rfl).mono ?_; rintro e w2 ⟨rfl, S2, L2, hg2, hd2, ho2⟩; have c4 : w2.cell? ⟨p, 4, none⟩ = some (.int .i64 (d.ops : Int)) := hd2.c.cell 4; have z4 : w2.frozen? ⟨p, 4, none⟩ = false := hd2.c.free 4; have HG2 := hid hg2; have HD2 := hid hd2; have HO2 := hid ho2; clear hg2 hd2 ho2)
    go_ret
    refine ⟨rfl, S2, HG2.out, ⟨m, L2, HD2.out.moreOps⟩, trivial, ?_⟩
    exact (HO2.out.mono (fun b hb => Or.inl (hb.elim (fun e => e ▸ H.out.sp) (fun e => e ▸ H.out.sm)))).then (Only.set (S := fun b => b = p) _ _ _ rfl) (fun i _ e => Or.inl (e ▸ H.out.sp))
  | some q, some (n, g), HF =>
    have HL := hid (lets_any HF.out)
    simp only [fuV] at c8
    cases hl : letsF (some (n, g))
    · have e : d.chg (some (n, g)) F2 = (11, d, burn (some (n, g))) := by unfold Pd.chg; rw [hl]; rfl
      have HEE := hid e
      clear e
      rw [hl] at HL
      have HL := hid HL.out
      go_enter Try.func64, Try.ntmps64
      go_wp2_with (go_at_call 79; refine HL.out.mono ?_; rintro e w1 ⟨rfl, hf1, ho1, hz1⟩)
      go_ret
      rw [HEE.out]
      refine ⟨rfl, S, Grows.refl _ _, DrAt.keep ⟨m, L, H.out⟩ ho1.size (fun b hb => ho1.block b (H.out.lt b hb) (fun e => HF.out.2.1 (e ▸ hb))), hf1, ho1.mono fun b e => Or.inr (by rw [e])⟩
    · have e : d.chg (some (n, g)) F2 = (0, { d with F := F2, ops := d.ops + 1 }, burn (some (n, g))) := by unfold Pd.chg; rw [hl]; rfl
      have HEE := hid e
      clear e
      rw [hl] at HL
      have HL := hid HL.out
      go_enter Try.func64, Try.ntmps64
      go_wp2_with (first
        | (go_at_call 79; refine HL.out.mono ?_; rintro e w1 ⟨rfl, hf1, ho1, hz1⟩; have HF1 := hid hf1; have HO1 := hid ho1; have HZ1 := hid hz1; have H1 := hid (H.out.keep ho1.size (fun b hb => ho1.block b (H.out.lt b hb) (fun e => HF.out.2.1 (e ▸ hb)))); clear hf1 ho1 hz1)
        | (go_at_call 68; refine (HD.out w1 H1.out (HO1.out.mono (fun b e => by rw [e])) HZ1.out).mono ?_; rintro e w2 ⟨rfl, S2, L2, hg2, hd2, ho2⟩; have c4 : w2.cell? ⟨p, 4, none⟩ = some (.int .i64 (d.ops : Int)) := hd2.c.cell 4; have z4 : w2.frozen? ⟨p, 4, none⟩ = false := hd2.c.free 4; have HG2 := hid hg2; have HD2 := hid hd2; have HO2 := hid ho2; clear hg2 hd2 ho2))
      go_ret
      rw [HEE.out]
      have hS : ∀ b, b = p ∨ b = m → S b := fun b hb => hb.elim (fun e => e ▸ H.out.sp) (fun e => e ▸ H.out.sm)
      have hO3 : Only (fun b => b = p ∨ b = m) w1 (w2.setCell ⟨p, 4, none⟩ (.int .i64 ((d.ops + 1 : Nat) : Int))) := HO2.out.then (Only.set (S := fun b => b = p ∨ b = m) _ _ _ (Or.inl rfl)) (fun _ _ h => h)
      have hf3 := (HG2.out.fu HF1.out).kept hO3 (fun q' hq' hp => HF1.out.ne q' hq' (hS _ hp))
      exact ⟨rfl, S2, HG2.out.on HO1.out.size, ⟨m, L2, HD2.out.moreOps⟩, hf3, (HO1.out.mono (fun b e => Or.inr (by rw [e]))).then hO3 (fun i _ e => Or.inl (hS i e))⟩
set_option maxRecDepth 100000 in
theorem change_d {w : World} {S : Nat → Prop} {p m : Nat} {fu : Option Nat} {d : Pd} {L : List (Nm × Ent)} (h : DrC w S p m fu d L) {f : Fs} (hf : FuAt w S fu f) (ho : d.ops < 1000000000000) (x0 x1 : Value) (F2 : List (Nm × Fi))
    (hdo : ∀ w1, DrC w1 S p m fu d L → Only (fun b => fu = some b) w w1 → w1.heap.size = w.heap.size → Calls Try.prog 70 #[x0, x1] w1 (Did w1 S p m fu d F2)) :
    Calls Try.prog 64 #[ptr p, .func (.func 70) #[] #[x0, x1]] w (Done w S p fu (d.chg f F2)) := by
  have H := hid h
  have HF := hid hf
  have HD := hid hdo
  have c8 : w.cell? ⟨p, 8, none⟩ = some (fuV fu) := h.c.cell 8
  clear h hf hdo
  match fu, f, HF with
  | none, none, HF =>
    simp only [fuV] at c8
    go_enter Try.func64, Try.ntmps64
    go_wp2_with (go_at_call 70; refine (HD.out w H.out (Only.refl _ _) rfl).mono ?_; rintro e w2 ⟨rfl, S2, L2, hg2, hd2, ho2⟩; have c4 : w2.cell? ⟨p, 4, none⟩ = some (.int .i64 (d.ops : Int)) := hd2.c.cell 4; have z4 : w2.frozen? ⟨p, 4, none⟩ = false := hd2.c.free 4; have HG2 := hid hg2; have HD2 := hid hd2; have HO2 := hid ho2; clear hg2 hd2 ho2)
    go_ret
    refine ⟨rfl, S2, HG2.out, ⟨m, L2, HD2.out.moreOps⟩, trivial, ?_⟩
    exact (HO2.out.mono (fun b hb => Or.inl (hb.elim (fun e => e ▸ H.out.sp) (fun e => e ▸ H.out.sm)))).then (Only.set (S := fun b => b = p) _ _ _ rfl) (fun i _ e => Or.inl (e ▸ H.out.sp))
  | some q, some (n, g), HF =>
    have HL := hid (lets_any HF.out)
    simp only [fuV] at c8
    cases hl : letsF (some (n, g))
    · have e : d.chg (some (n, g)) F2 = (11, d, burn (some (n, g))) := by unfold Pd.chg; rw [hl]; rfl
      have HEE := hid e
      clear e
      rw [hl] at HL
      have HL := hid HL.out
      go_enter Try.func64, Try.ntmps64
      go_wp2_with (go_at_call 79; refine HL.out.mono ?_; rintro e w1 ⟨rfl, hf1, ho1, hz1⟩)
      go_ret
      rw [HEE.out]
      refine ⟨rfl, S, Grows.refl _ _, DrAt.keep ⟨m, L, H.out⟩ ho1.size (fun b hb => ho1.block b (H.out.lt b hb) (fun e => HF.out.2.1 (e ▸ hb))), hf1, ho1.mono fun b e => Or.inr (by rw [e])⟩
    · have e : d.chg (some (n, g)) F2 = (0, { d with F := F2, ops := d.ops + 1 }, burn (some (n, g))) := by unfold Pd.chg; rw [hl]; rfl
      have HEE := hid e
      clear e
      rw [hl] at HL
      have HL := hid HL.out
      go_enter Try.func64, Try.ntmps64
      go_wp2_with (first
        | (go_at_call 79; refine HL.out.mono ?_; rintro e w1 ⟨rfl, hf1, ho1, hz1⟩; have HF1 := hid hf1; have HO1 := hid ho1; have HZ1 := hid hz1; have H1 := hid (H.out.keep ho1.size (fun b hb => ho1.block b (H.out.lt b hb) (fun e => HF.out.2.1 (e ▸ hb)))); clear hf1 ho1 hz1)
        | (go_at_call 70; refine (HD.out w1 H1.out (HO1.out.mono (fun b e => by rw [e])) HZ1.out).mono ?_; rintro e w2 ⟨rfl, S2, L2, hg2, hd2, ho2⟩; have c4 : w2.cell? ⟨p, 4, none⟩ = some (.int .i64 (d.ops : Int)) := hd2.c.cell 4; have z4 : w2.frozen? ⟨p, 4, none⟩ = false := hd2.c.free 4; have HG2 := hid hg2; have HD2 := hid hd2; have HO2 := hid ho2; clear hg2 hd2 ho2))
      go_ret
      rw [HEE.out]
      have hS : ∀ b, b = p ∨ b = m → S b := fun b hb => hb.elim (fun e => e ▸ H.out.sp) (fun e => e ▸ H.out.sm)
      have hO3 : Only (fun b => b = p ∨ b = m) w1 (w2.setCell ⟨p, 4, none⟩ (.int .i64 ((d.ops + 1 : Nat) : Int))) := HO2.out.then (Only.set (S := fun b => b = p ∨ b = m) _ _ _ (Or.inl rfl)) (fun _ _ h => h)
      have hf3 := (HG2.out.fu HF1.out).kept hO3 (fun q' hq' hp => HF1.out.ne q' hq' (hS _ hp))
      exact ⟨rfl, S2, HG2.out.on HO1.out.size, ⟨m, L2, HD2.out.moreOps⟩, hf3, (HO1.out.mono (fun b e => Or.inr (by rw [e]))).then hO3 (fun i _ e => Or.inl (hS i e))⟩
#print axioms change_w
end Go.Proofs.Ytfppmpfmafnfmaa
