/- Texts laid into one: the remark ahead of each part says what is proved there. -/
import Derived.Test.YtcbmimjjpkkoeaaGreatDoorQaa
import Derived.Test.YtcbmimjjpkkoeaaGreatDoorRows
import Derived.Stop.LaidTwo
import Derived.MakeChecks
/- What the row's two listed errors give: Ers. -/
namespace Go.Proofs.YtcbmimjjpkkoeaaGreatDoor
open Go Go.RowKit

theorem gForm : Tryz.prog.globalNamed "stowage/journal.errForm" = some 1 := by kernel_rfl
theorem gTurned : Tryz.prog.globalNamed "stowage/journal.errTurned" = some 0 := by kernel_rfl
theorem gFormT : (Tryz.prog.globals[1]?).map (·.type) = some 66 := by kernel_rfl
theorem gTurnedT : (Tryz.prog.globals[0]?).map (·.type) = some 66 := by kernel_rfl
theorem cellsEs : Tryz.prog.cellsOf 182 = 1 := by kernel_rfl
theorem cellsStr : Tryz.prog.cellsOf 9 = 1 := by kernel_rfl
theorem starEs : "*" ++ "errors.errorString" = "*errors.errorString" := by decide
theorem rowEs (u : TypeId) (h : Tryz.prog.typeName? 3 u = some "*errors.errorString") : u = 159 :=
  typeName_ptr_named (nm := "errors.errorString") (by rw [starEs]; kernel_rfl) (by kernel_rfl) (by decide) u (by rw [starEs]; exact h)
theorem ers_laid {W : World} (h : laidMetH Tryz.prog [("stowage/journal.errForm", Rows.laid_stowage_journal_errForm), ("stowage/journal.errTurned", Rows.laid_stowage_journal_errTurned)] W) : ∃ a0 a1, Ers W a0 a1 := by
  rw [Go.MakeChecks.laidMetH_plain _ _ _ (by kernel_rfl)] at h
  obtain ⟨a1, a0, s1, s0, c1, c0, t1, t0, hv1, hv0, hc1, hs1, hz1, hc0, hs0, hz0, hne, hb1, hb0⟩ := laid_sentinels2 h gForm gFormT gTurned gTurnedT Tryz.underlying66 rowEs Tryz.underlying159 Tryz.underlying182 rfl rfl Tryz.underlying9 cellsEs cellsStr
  exact ⟨a0, a1, ⟨by simpa using World.var?_cell gTurned hv0 0, by simpa using World.var?_cell gForm hv1 0, hne, ⟨_, _, hb0⟩, ⟨_, _, hb1⟩⟩⟩
#print axioms ers_laid
end Go.Proofs.YtcbmimjjpkkoeaaGreatDoor

/- Contracts of what writes numbers and texts: clipped, fresh, appendNumber, appendText, Uint, Text of package record. -/
namespace Go.Proofs.YtcbmimjjpkkoeaaGreatDoor
open Go Go.RowKit

theorem wpList_append_run {P : Program} {w w' : World} {ops : Array Oper} {rest : List Oper} {o : Oper} {a : Act} {Q : Exit → Act → World → Prop} (s x : Operand) (t t2 : TypeId)
    (ho : o.op = .call { callee := .builtin .append, args := #[s, x], argTypes := #[t, t2] }) (hw : Region.wanted o (yielded ops a.tmps) = true)
    (v xv v' : Value) (hs : a.eval s = v) (hx : a.eval x = xv) (hr : (Builtin.append_ #[t, t2] o.type #[v, xv]).run P w = .ok v' w') (h : wpList P ops Q rest (a.put o.dst v') w') : wpList P ops Q (o :: rest) a w := by
  refine BigFrame.wpList_want hw fun K hK => ?_
  unfold Oper.wp execOp
  simp only [ho, resolve, invoke, builtin, Sem.run_bind, Sem.run_pure, Result.andThen_ok, List.map_toArray, List.map_cons, List.map_nil, hs, hx, hr]
  exact hK _ _ h
def BufS (B : Nat) (w : World) (L : List Nat) (e : Ending) (w' : World) : Prop := ∃ v', e = .returned v' ∧ Buf B w' v' L ∧ Below B w w'
theorem nb_le {n : Nat} (h : n ≤ 1099511627776) : (nb n).length ≤ 6 := nb_len 5 n (by omega)
theorem or128 : ∀ x : Fin 256, x.val ||| 128 = x.val % 128 + 128 := by decide +kernel
theorem or_128 (m : Nat) : bits .or .u8 ((m : Int) % 256) 128 = ((m % 128 + 128 : Nat) : Int) := by
  rw [u8_or _ _ (by omega) (by omega) (by omega) (by omega)]
  have h1 : ((m : Int) % 256).toNat = m % 256 := by omega
  have h2 := or128 ⟨m % 256, by omega⟩
  simp only at h2
  have h3 : m % 256 % 128 = m % 128 := by omega
  rw [h1, show (128 : Int).toNat = 128 from rfl, h2, h3]
set_option maxRecDepth 100000 in
set_option maxHeartbeats 400000 in
theorem appNum (B : Nat) (L : List Nat) (v : Value) (n : Nat) (w : World) (hn : n ≤ 1099511627776) (hv : Buf B w v L) (hL : L.length ≤ 1000000) (hB : B ≤ w.heap.size) :
    Calls Tryz.prog 47 #[v, i64 n] w (BufS B w (L ++ nb n)) := by
  have HV := hid hv
  have HN := hid (nb_le hn)
  have HB := hid hB
  clear hv hB
  go_enter Tryz.func47, Tryz.ntmps47
  go_wp2
  go_loopw [0, 1] (fun b i wr => ∃ (m : Nat) (L' : List Nat), m ≤ n ∧ i = i64 m ∧ L' ++ nb m = L ++ nb n ∧ Buf B wr b L' ∧ Below B w wr) (fun b i _ => (intOf i).toNat)
  case atStart => exact ⟨n, L, Nat.le_refl _, rfl, rfl, HV.out, Below.refl _ _⟩
  case round =>
    obtain ⟨m, L', hm, rfl, hl, hb, hw⟩ := hrel
    have HR := hid hb
    have HW := hid hw
    have HE := hid hl
    have hlen := congrArg List.length hl
    rw [List.length_append, List.length_append] at hlen
    have HLN := hid hlen
    have HSZ := hid (show B ≤ wr.heap.size by have := hw.size; have := HB.out; omega)
    clear hb hw hl hlen
    by_cases hlt : (128 : Int) ≤ (m : Int)
    · have hp1 : L'.length + 1 ≤ 2000000 := by have := HLN.out; have := HN.out; omega
      obtain ⟨v', w', hr, hq, hbw⟩ := HR.out.push (m % 128 + 128) hp1 HSZ.out
      have HRUN := hid hr
      clear hr hp1
      have hor := or_128 m
      generalize hc : m % 128 + 128 = c at *
      have HC := hid hc
      clear hc
      go_wp2_with (at_builtin; refine wpList_append_run _ _ 25 25 rfl rfl _ _ _ rfl rfl HRUN.out ?_)
      refine ⟨⟨m / 128, L' ++ [c], by omega, by simp, ?_, hq, below_tr HW.out hbw⟩, by simp [intOf]; omega⟩
      rw [← HE.out, nb_ge (n := m) (by omega), HC.out, List.append_assoc]; rfl
    · have hp1 : L'.length + 1 ≤ 2000000 := by have := HLN.out; have := HN.out; omega
      obtain ⟨v', w', hr, hq, hbw⟩ := HR.out.push m hp1 HSZ.out
      have HRUN := hid hr
      clear hr hp1
      go_wp2_with (at_builtin; refine wpList_append_run _ _ 25 25 rfl rfl _ _ _ rfl rfl HRUN.out ?_)
      go_ret
      have e : nb m = [m] := nb_lt (by omega)
      refine ⟨_, rfl, ?_, below_tr HW.out hbw⟩
      rw [← HE.out, e]; exact hq
/-- Bytes that are told: in new memory, without spare room. -/
def OutB (B : Nat) (w : World) (v : Value) (bs : List Nat) : Prop := (v = .slice none 0 0 ∧ bs = []) ∨ ∃ g, v = .slice (some ⟨g, 0, none⟩) bs.length bs.length ∧ B ≤ g ∧ g < w.heap.size ∧ (∀ i, i < bs.length → w.cell? ⟨g, i, none⟩ = some (u8 (bs.getD i 0))) ∧ ∀ i, w.frozen? ⟨g, i, none⟩ = false
theorem OutB.form {B : Nat} {w : World} {v : Value} {bs : List Nat} (h : OutB B w v bs) : ∃ po, v = .slice po bs.length bs.length ∧ BL w po bs ∧ (po = none → bs.length = 0) := by
  rcases h with ⟨rfl, rfl⟩ | ⟨g, rfl, _, _, h, _⟩
  · exact ⟨none, rfl, Or.inl rfl, fun _ => rfl⟩
  · exact ⟨_, rfl, Or.inr ⟨g, 0, rfl, fun i hi => by rw [Nat.zero_add]; exact h i hi⟩, fun e => by cases e⟩
theorem OutB.below {B : Nat} {w w' : World} {v : Value} {bs : List Nat} (h : OutB B w v bs) (hb : Below w.heap.size w w') : OutB B w' v bs := by
  rcases h with h | ⟨g, h1, h2, h3, h4, h5⟩
  · exact Or.inl h
  · have e := hb.block g h3
    exact Or.inr ⟨g, h1, h2, by have := hb.size; omega, fun i hi => (World.cell?_of_block e).trans (h4 i hi), fun i => by have := h5 i; unfold World.frozen? at this ⊢; rw [e]; exact this⟩
theorem OutB.base {B C : Nat} {w : World} {v : Value} {bs : List Nat} (h : OutB B w v bs) (hC : C ≤ B) : OutB C w v bs := by
  rcases h with h | ⟨g, h1, h2, h3⟩
  · exact Or.inl h
  · exact Or.inr ⟨g, h1, by omega, h3⟩
theorem elem8 (w : World) : (sizeOf (Tryz.prog.elem 25)).run Tryz.prog w = .ok 1 w := by
  have hi : (Tryz.prog.info? (Tryz.prog.elem 25)).map (·.size) = some 1 := by kernel_rfl
  obtain ⟨i, h1, h2⟩ := Option.map_eq_some_iff.1 hi
  simp [sizeOf, typeInfo, h1, h2]
theorem underE8 : Tryz.prog.underlying 25 = some (.slice (Tryz.prog.elem 25)) := by kernel_rfl
theorem run_clip8 (po : Option Addr) (n c : Nat) (h : n ≤ c) (w : World) : (Instr.slice 25 (.slice po n c) none (some (.int .i64 (n : Int))) (some (.int .i64 (n : Int)))).run Tryz.prog w = .ok (.slice po n n) w := by
  rw [run_slice_hm (P := Tryz.prog) w 25 po n c underE8 .i64 .i64 (n : Int) (n : Int) (by omega) (by omega) (by omega), elem8]
  cases po with
  | none => simp [Result.andThen, sliced]
  | some a =>
    by_cases h0 : n = 0
    · simp [Result.andThen, sliced, h0]
    · simp [Result.andThen, sliced, h0, add_zero']
theorem Buf.cap {B : Nat} {w : World} {po : Option Addr} {n c : Nat} {L : List Nat} (h : Buf B w (.slice po n c) L) : n = L.length ∧ n ≤ c := by
  rcases h.2 with ⟨e, h0⟩ | ⟨g, cap, cur, e, _, hg, h1, _, h3, h4⟩
  · cases e; exact ⟨h0.symm, Nat.le_refl _⟩
  · cases e; exact ⟨rfl, h1⟩
theorem Buf.out {B : Nat} {w : World} {po : Option Addr} {n c : Nat} {L : List Nat} (h : Buf B w (.slice po n c) L) : OutB B w (.slice po n n) L := by
  have hbl := h.bl
  have hlt := own_ge h
  rcases h.2 with ⟨e, h0⟩ | ⟨g, cap, cur, e, hB, hg, h1, _, h3, h4⟩
  · cases e; exact Or.inl ⟨rfl, List.eq_nil_of_length_eq_zero h0⟩
  · cases e
    have hc : CAt w g cur 5 := hg
    refine Or.inr ⟨g, rfl, hB, hc.lt, fun i hi => ?_, fun i => hc.free i⟩
    rcases hbl with h | ⟨b, o, e, h⟩
    · subst h; simp at hi
    · cases e; have := h i hi; rwa [Nat.zero_add] at this
theorem clip_any (B : Nat) (v : Value) (L : List Nat) (w : World) (h : Buf B w v L) : Calls Tryz.prog 46 #[v] w fun e w' => (∃ v', e = .returned v' ∧ OutB B w v' L) ∧ w' = w := by
  obtain ⟨po, c, rfl⟩ := h.form
  have hcap := h.cap.2
  have hs := run_clip8 po L.length c hcap
  have H := hid h.out
  clear h
  go_enter Tryz.func46, Tryz.ntmps46
  go_wp2
  go_ret
  exact ⟨⟨_, rfl, H.out⟩, rfl⟩
def OutS (w : World) (bs : List Nat) (e : Ending) (w' : World) : Prop := ∃ v, e = .returned v ∧ OutB w.heap.size w' v bs ∧ Below w.heap.size w w'
def OutE (w : World) (bs : List Nat) (er : Nat) (e : Ending) (w' : World) : Prop := ∃ v, e = .returned (.tuple #[v, i64 er]) ∧ OutB w.heap.size w' v bs ∧ Below w.heap.size w w'
theorem between_any (n a b : Int) (w : World) : Calls Tryz.prog 42 #[i64 n, i64 a, i64 b] w fun e w' => e = .returned (.bool (inR n a b)) ∧ w' = w := by
  by_cases h1 : a ≤ n
  · by_cases h2 : n ≤ b
    · have e : inR n a b = true := inR_iff.2 ⟨h1, h2⟩
      rw [e]
      go_enter Tryz.func42, Tryz.ntmps42
      go_wp2
      go_ret
      simp
    · have e : inR n a b = false := by simp [inR, h2]
      rw [e]
      go_enter Tryz.func42, Tryz.ntmps42
      go_wp2
      go_ret
      simp
  · have e : inR n a b = false := by simp [inR, h1]
    rw [e]
    go_enter Tryz.func42, Tryz.ntmps42
    go_wp2
    go_ret
    simp
theorem uint_ok (n : Nat) (w : World) (hn : n ≤ 1099511627776) : Calls Tryz.prog 23 #[i64 n] w (OutE w (nb n) 0) := by
  go_enter Tryz.func23, Tryz.ntmps23
  go_wp2_with (first
    | (go_at_call 42; refine (between_any _ _ _ _).mono ?_; rintro e w0 ⟨rfl, hw0⟩; rw [show inR (n : Int) 0 1099511627776 = true from inR_iff.2 ⟨by omega, by omega⟩]; have hw2 := hw0.symm; subst hw2)
    | (go_at_call 47; refine (appNum w.heap.size [] _ n w hn (Buf.nil _ _) (by simp) (Nat.le_refl _)).mono ?_; rintro e w1 ⟨v1, rfl, hb1, hw1⟩)
    | (go_at_call 46; refine (clip_any w.heap.size _ (nb n) _ (by simpa using hb1)).mono ?_; rintro e w2 ⟨⟨v2, rfl, ho⟩, rfl⟩))
  go_ret2
  exact ⟨v2, rfl, ho, hw1⟩
theorem uint_bad (n : Int) (w : World) (hn : n < 0 ∨ 1099511627776 < n) : Calls Tryz.prog 23 #[i64 n] w fun e w' => e = .returned (.tuple #[.slice none 0 0, i64 2]) ∧ w' = w := by
  go_enter Tryz.func23, Tryz.ntmps23
  go_wp2_with (go_at_call 42; refine (between_any _ _ _ _).mono ?_; rintro e w0 ⟨rfl, hw0⟩; rw [show inR (n : Int) 0 1099511627776 = false from by simp [inR]; omega]; have hw2 := hw0.symm; subst hw2)
  go_ret2
  exact ⟨rfl, rfl⟩
theorem appText (B : Nat) (L : List Nat) (v : Value) (s : ByteArray) (w : World) (hn : s.size ≤ 65536) (hv : Buf B w v L) (hL : L.length ≤ 900000) (hB : B ≤ w.heap.size) :
    Calls Tryz.prog 48 #[v, .string s] w (BufS B w (L ++ tb (lst s))) := by
  have HV := hid hv
  have HB := hid hB
  clear hv hB
  go_enter Tryz.func48, Tryz.ntmps48
  go_wp2_with (first
    | (go_at_call 47; refine (appNum B L _ s.size w (by omega) HV.out (by omega) HB.out).mono ?_; rintro e w1 ⟨v1, rfl, hb1, hw1⟩; have hlen := nb_le (n := s.size) (by omega); obtain ⟨v2, w2, hr, hb2, hw2⟩ := hb1.appS s (by rw [List.length_append]; omega) (by have := hw1.size; have := HB.out; omega); have HRUN := hid hr; clear hr)
    | (at_builtin; refine wpList_append_run _ _ 25 9 rfl rfl _ _ _ rfl rfl HRUN.out ?_))
  go_ret
  refine ⟨v2, rfl, ?_, below_tr hw1 hw2⟩
  unfold tb; rw [lst_len, ← List.append_assoc]; exact hb2
theorem fresh_any (po : Option Addr) (c : Nat) (bs : List Nat) (w : World) (h : BL w po bs) (hc : po = none → c = 0) (hn : bs.length ≤ 1000000) : Calls Tryz.prog 111 #[.slice po bs.length c] w (OutS w bs) := by
  obtain ⟨v1, w1, hr, hb1, hg⟩ := (Buf.nil w.heap.size w).app po c bs h hc (by simpa using by omega) (Nat.le_refl _)
  have HRUN := hid hr
  have hw1 : Below w.heap.size w w1 := below_grown (Below.refl _ _) hg (Nat.le_refl _) (by intro b hb; cases hb)
  clear hr
  go_enter Tryz.func111, Tryz.ntmps111
  go_wp2_with (first
    | (at_builtin; refine wpList_append_run _ _ 25 25 rfl rfl _ _ _ rfl rfl HRUN.out ?_)
    | (go_at_call 46; refine (clip_any w.heap.size _ bs _ (by simpa using hb1)).mono ?_; rintro e w2 ⟨⟨v2, rfl, ho⟩, rfl⟩))
  go_ret
  exact ⟨v2, rfl, ho, hw1⟩
#print axioms fresh_any

end Go.Proofs.YtcbmimjjpkkoeaaGreatDoor

/- Contracts of the reader of package record: need, take, one. -/
namespace Go.Proofs.YtcbmimjjpkkoeaaGreatDoor
open Go Go.RowKit

/-- A reader lies at block p: it has the bytes s still, or (none) a fault. -/
def Rd (w : World) (p : Nat) (s : Option (List Nat)) : Prop := ∃ po L, CAt w p #[.slice po L.length L.length, i64 (if s.isSome then 0 else 4)] 152 ∧ BL w po L ∧ (L ≠ [] → ∀ a, po = some a → a.block < p) ∧ (po = none → L = []) ∧ (s = none ∨ s = some L) ∧ L.length ≤ 100000 ∧ ∀ x ∈ L, x < 256
theorem Rd.lt {w : World} {p : Nat} {s : Option (List Nat)} (h : Rd w p s) : p < w.heap.size := by obtain ⟨_, _, h, _⟩ := h; exact h.lt
theorem Rd.only {w w' : World} {p : Nat} {s : Option (List Nat)} {S : Nat → Prop} (h : Rd w p s) (ho : Only S w w') (hS : ∀ i, S i → p < i) : Rd w' p s := by
  obtain ⟨po, L, h1, h2, h3, h4⟩ := h
  have hp := h1.lt
  exact ⟨po, L, h1.keep (ho.block p hp fun e => by have := hS _ e; omega), h2.onlyAt ho (fun hne a ha e => by have := hS _ e; have := h3 hne a ha; omega), h3, h4⟩
theorem Rd.below {w w' : World} {p : Nat} {s : Option (List Nat)} (h : Rd w p s) (hb : Below w.heap.size w w') : Rd w' p s := h.only (S := fun _ => False) (Only.of_below hb) (fun _ h => h.elim)
def ReS (w : World) (p : Nat) (s : Option (List Nat)) (v : Value) (e : Ending) (w' : World) : Prop := e = .returned v ∧ Rd w' p s ∧ Only (fun b => b = p) w w'
theorem need_any (w : World) (p : Nat) (s : Option (List Nat)) (b : Bool) (h : Rd w p s) : Calls Tryz.prog 114 #[ptr p, .bool b] w (ReS w p (if b then s else none) (.tuple #[])) := by
  have H := hid h
  obtain ⟨po, L, h1, h2, h3, h4, h5, h6⟩ := h
  have HC := hid h1
  have c1 := h1.cell 1
  have z1 := h1.free 1
  simp at c1
  cases b with
  | true =>
    clear h1 h2 h3 h4 h5 h6
    go_enter Tryz.func114, Tryz.ntmps114
    go_wp2
    go_end0
    exact ⟨rfl, H.out, Only.refl _ _⟩
  | false =>
    cases s with
    | none =>
      simp at c1
      clear h1 h2 h3 h4 h5 h6
      go_enter Tryz.func114, Tryz.ntmps114
      go_wp2
      go_end0
      exact ⟨rfl, H.out, Only.refl _ _⟩
    | some K =>
      simp at c1
      have HX : Hid (Rd (w.setCell ⟨p, 1, none⟩ (i64 4)) p none) := by
        refine ⟨po, L, ?_, h2.onlyAt (Only.set (S := fun b => b = p) w ⟨p, 1, none⟩ _ rfl) (fun hne a ha e => by have := h3 hne a ha; omega), h3, h4, Or.inl rfl, h6⟩
        have := h1.set 1 (i64 4)
        simpa using this
      clear h1 h2 h3 h4 h5 h6
      go_enter Tryz.func114, Tryz.ntmps114
      go_wp2
      go_end0
      exact ⟨rfl, HX.out, Only.set _ _ _ rfl⟩
theorem need_true (w : World) (p : Nat) : Calls Tryz.prog 114 #[ptr p, .bool true] w fun e w' => e = .returned (.tuple #[]) ∧ w' = w := by
  go_enter Tryz.func114, Tryz.ntmps114
  go_wp2
  go_end0
  exact ⟨rfl, rfl⟩
theorem need_gone (w : World) (p : Nat) (b : Bool) (h : Rd w p none) : Calls Tryz.prog 114 #[ptr p, .bool b] w fun e w' => e = .returned (.tuple #[]) ∧ w' = w := by
  obtain ⟨po, L, h1, _⟩ := h
  have c1 := h1.cell 1
  simp at c1
  clear h1
  cases b <;>
  · go_enter Tryz.func114, Tryz.ntmps114
    go_wp2
    go_end0
    exact ⟨rfl, rfl⟩
theorem run_from8 (po : Option Addr) (n c l : Nat) (hl : l ≤ n) (hc : n ≤ c) : ∃ p2 : Option Addr, (∀ w : World, (Instr.slice 25 (.slice po n c) (some (.int .i64 (l : Int))) none none).run Tryz.prog w = .ok (.slice p2 (n - l) (c - l)) w) ∧
    (∀ b o, po = some ⟨b, o, none⟩ → l < n → p2 = some ⟨b, o + l, none⟩) ∧ (p2 = none → po = none) ∧ (∀ a, p2 = some a → ∃ a', po = some a' ∧ a.block = a'.block) := by
  have hr : ∀ w, (Instr.slice 25 (.slice po n c) (some (.int .i64 (l : Int))) none none).run Tryz.prog w = .ok (sliced po l n c 1) w := fun w => by
    rw [run_slice_l (P := Tryz.prog) w 25 po n c underE8 .i64 (l : Int) (by omega) (by omega), elem8]
    simp [Result.andThen]
  cases po with
  | none => exact ⟨none, fun w => by rw [hr]; simp [sliced], (fun b o e => by cases e), fun _ => rfl, fun a e => by cases e⟩
  | some a =>
    by_cases e : c = l
    · exact ⟨some a, fun w => by rw [hr]; simp [sliced, e], (fun b o _ q => by omega), (fun e => by cases e), fun a2 e2 => ⟨a, rfl, by cases e2; rfl⟩⟩
    · refine ⟨some (a.add l), fun w => by rw [hr]; simp [sliced, e], (fun b o q _ => by cases q; rw [add_none]), (fun e => by cases e), fun a2 e2 => ⟨a, rfl, by cases e2; unfold Addr.add; split <;> rfl⟩⟩
theorem run_head8 (po : Option Addr) (n c h : Nat) (hh : h ≤ c) (w : World) : (Instr.slice 25 (.slice po n c) none (some (.int .i64 (h : Int))) (some (.int .i64 (h : Int)))).run Tryz.prog w = .ok (.slice po h h) w := by
  rw [run_slice_hm (P := Tryz.prog) w 25 po n c underE8 .i64 .i64 (h : Int) (h : Int) (by omega) (by omega) (by omega), elem8]
  cases po with
  | none => simp [Result.andThen, sliced]
  | some a =>
    by_cases h0 : h = 0
    · simp [Result.andThen, sliced, h0]
    · simp [Result.andThen, sliced, h0, add_zero']
def TakS (w : World) (p n : Nat) (L : List Nat) (e : Ending) (w' : World) : Prop := ∃ po, e = .returned (.slice po n n) ∧ BL w' po (L.take n) ∧ Rd w' p (some (L.drop n)) ∧ Only (fun b => b = p) w w' ∧ (po = none → n = 0)
set_option maxRecDepth 100000 in
theorem take_ok (w : World) (p n : Nat) (L : List Nat) (h : Rd w p (some L)) (hn : n ≤ L.length) : Calls Tryz.prog 117 #[ptr p, i64 n] w (TakS w p n L) := by
  have H := hid h
  obtain ⟨po, L', h1, h2, h3, h4, h5, h6, h7⟩ := h
  have e : L' = L := by rcases h5 with h | h <;> cases h; rfl
  subst e
  have c0 := h1.cell 0
  have c1 := h1.cell 1
  have z0 := h1.free 0
  simp at c0 c1
  obtain ⟨p2, hfrom, hp2, hp3, hp4⟩ := run_from8 po L'.length L'.length n hn (Nat.le_refl _)
  have hhead := run_head8 po L'.length L'.length n hn
  have HX : Hid (Rd (w.setCell ⟨p, 0, none⟩ (.slice p2 (L'.length - n) (L'.length - n))) p (some (L'.drop n))) := by
    refine ⟨p2, L'.drop n, ?_, ?_, fun hne a ha => ?_, fun hn2 => ?_, Or.inr rfl, by rw [List.length_drop]; omega, fun x hx => h7 x (List.mem_of_mem_drop hx)⟩
    · have := h1.set 0 (.slice p2 (L'.length - n) (L'.length - n))
      rw [List.length_drop]; simpa using this
    · rcases Nat.lt_or_ge n L'.length with hlt | hge
      · have h2' := h2.onlyAt (Only.set (S := fun b => b = p) w ⟨p, 0, none⟩ (.slice p2 (L'.length - n) (L'.length - n)) rfl) (fun hne a ha e => by have := h3 hne a ha; omega)
        rcases h2' with h | ⟨b, o, hpo, hc⟩
        · subst h; simp at hlt
        · have hq := hp2 b o hpo hlt
          have hd := BL.drop (Or.inr ⟨b, o, rfl, hc⟩) n
          rw [← hq] at hd
          exact hd
      · exact Or.inl (List.drop_eq_nil_of_le hge)
    · obtain ⟨a', ha', he⟩ := hp4 a ha
      rw [he]; exact h3 (fun e => hne (by rw [e]; simp)) a' ha'
    · rw [h4 (hp3 hn2)]; simp
  have HT := hid ((h2.onlyAt (Only.set (S := fun b => b = p) w ⟨p, 0, none⟩ (.slice p2 (L'.length - n) (L'.length - n)) rfl) (fun hne a ha e => by have := h3 hne a ha; omega)).take n)
  have HPN : Hid (po = none → n = 0) := fun e => by have := h4 e; subst this; simpa using hn
  clear h1 h2 h3 h4 h5 h6 h7 hp2 hp3 hp4
  have hle : (n : Int) ≤ (L'.length : Int) := by omega
  go_enter Tryz.func117, Tryz.ntmps117
  go_wp2_with (go_at_call 114; refine (need_true w p).mono ?_; rintro e w' ⟨rfl, hw'⟩; have hw2 := hw'.symm; subst hw2)
  go_ret
  exact ⟨po, rfl, HT.out, HX.out, Only.set _ _ _ rfl, HPN.out⟩
set_option maxRecDepth 100000 in
theorem take_bad (w : World) (p : Nat) (n : Int) (s : Option (List Nat)) (h : Rd w p s) (hn : ∀ L, s = some L → (L.length : Int) < n) : Calls Tryz.prog 117 #[ptr p, i64 n] w (ReS w p none (.slice none 0 0)) := by
  have H := hid h
  obtain ⟨po, L, h1, h2, h3, h4, h5, h6, h7⟩ := h
  have c0 := h1.cell 0
  simp at c0
  clear h1 h2 h3 h4 h6 h7
  cases s with
  | none =>
    clear h5
    by_cases hle : n ≤ (L.length : Int)
    · go_enter Tryz.func117, Tryz.ntmps117
      go_wp2_with (go_at_call 114; refine (need_gone w p _ H.out).mono ?_; rintro e w' ⟨rfl, hw'⟩; have hw2 := hw'.symm; subst hw2; obtain ⟨po2, L2, k1, _⟩ := H.out; have c1 := k1.cell 1; simp at c1; clear k1)
      go_ret
      exact ⟨rfl, H.out, Only.refl _ _⟩
    · go_enter Tryz.func117, Tryz.ntmps117
      go_wp2_with (go_at_call 114; refine (need_gone w p _ H.out).mono ?_; rintro e w' ⟨rfl, hw'⟩; have hw2 := hw'.symm; subst hw2; obtain ⟨po2, L2, k1, _⟩ := H.out; have c1 := k1.cell 1; simp at c1; clear k1)
      go_ret
      exact ⟨rfl, H.out, Only.refl _ _⟩
  | some K =>
    have e : K = L := by rcases h5 with h | h <;> cases h; rfl
    subst e
    have hgt := hn K rfl
    clear hn h5
    have hle : ¬ n ≤ (K.length : Int) := by omega
    go_enter Tryz.func117, Tryz.ntmps117
    go_wp2_with (go_at_call 114; refine (need_any w p (some K) false H.out).mono ?_; rintro e w' ⟨rfl, hr, ho⟩; have HR := hid hr; have HO := hid ho; obtain ⟨po2, L2, k1, _⟩ := hr; have c1 := k1.cell 1; simp at c1; clear k1 ho)
    go_ret
    exact ⟨rfl, by simpa using HR.out, HO.out⟩
def oneV : Option (List Nat) → Nat | some (c :: _) => c | _ => 0
def oneR : Option (List Nat) → Option (List Nat) | some (_ :: r) => some r | _ => none
theorem one_any (w : World) (p : Nat) (s : Option (List Nat)) (h : Rd w p s) : Calls Tryz.prog 113 #[ptr p] w (ReS w p (oneR s) (u8 (oneV s))) := by
  by_cases hs : ∃ c r, s = some (c :: r)
  · obtain ⟨c, r, rfl⟩ := hs
    have ht := take_ok w p 1 (c :: r) h (by simp)
    clear h
    go_enter Tryz.func113, Tryz.ntmps113
    go_wp2_with (go_at_call 117; refine ht.mono ?_; rintro e w1 ⟨po, rfl, hb, hr, ho, hn⟩; have HR := hid hr; have HO := hid ho; obtain ⟨po2, L2, k1, _⟩ := hr; have c1 := k1.cell 1; simp at c1; clear k1 ho; have hb' : ∃ b o, po = some ⟨b, o, none⟩ ∧ w1.cell? ⟨b, o, none⟩ = some (u8 c) := (by
      rcases hb with h | ⟨b, o, h1, h2⟩
      · simp at h
      · exact ⟨b, o, h1, by have := h2 0 (by simp); simpa using this⟩); obtain ⟨b, o, rfl, hcell⟩ := hb'; clear hb hn)
    go_ret
    exact ⟨rfl, by simpa [oneR] using HR.out, HO.out⟩
  · have e1 : oneV s = 0 := by match s, hs with | none, _ => rfl | some [], _ => rfl | some (c :: r), hs => exact absurd ⟨c, r, rfl⟩ hs
    have e2 : oneR s = none := by match s, hs with | none, _ => rfl | some [], _ => rfl | some (c :: r), hs => exact absurd ⟨c, r, rfl⟩ hs
    have ht := take_bad w p 1 s h (fun L hL => by
      match L, hL with
      | [], _ => simp
      | c :: r, hL => exact absurd ⟨c, r, hL⟩ hs)
    rw [e1, e2]
    clear h
    go_enter Tryz.func113, Tryz.ntmps113
    go_wp2_with (go_at_call 117; refine ht.mono ?_; rintro e w1 ⟨rfl, hr, ho⟩; have HR := hid hr; have HO := hid ho; obtain ⟨po2, L2, k1, _⟩ := hr; have c1 := k1.cell 1; simp at c1; clear k1 ho)
    go_ret
    exact ⟨rfl, HR.out, HO.out⟩
#print axioms one_any
end Go.Proofs.YtcbmimjjpkkoeaaGreatDoor
