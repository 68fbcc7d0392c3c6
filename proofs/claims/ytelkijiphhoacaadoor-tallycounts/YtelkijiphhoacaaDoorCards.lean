/-
  DERIVED. GIVEN WITH THE SEED: THE CARDS: each row of YtelkijiphhoacaaDoorRows.lean that lists a variable, with what it lists TIED to the program's text (the seventh form; the later family's looks); each row that meets fmt, with fmt's text TOLD by the authors' own Lean function (tested against real Go, not proved from fmt's source: count such statements apart). THE CARD IS WHAT COUNTS. Prove the row's statement (the work); the ties are given (YtelkijiphhoacaaDoorTie.lean); close each card by the builder's one call (the guide's Derived/Test/ToyasCard.lean, 'card_holds'). Laid BY PROGRAM, IN A SANDBOX (cutbox-door.mjs). By AI agents, Wed Nov 11 2026. No macro, syntax, notation, axiom, sorry.
-/
import Derived.Test.YtelkijiphhoacaaDoorRows
import GoSem.ClaimSeven
namespace Go.Proofs.YtelkijiphhoacaaDoor
namespace Rows

/-- THE TIED CARD OF 'stowagelaw09.TallyCounts'. -/
def tallyCountsCard : Claim7 := { stood := { row := tallyCountsRow, standIns := [], harness := (true, "386801b461cdbaceeff4e0972dc5274b29d87c13ed730a4f1dde0ae478b22429"), looks := true }, kinds := [], alts := [], laidByText := true, laidKinds := [.sentinel, .sentinel], laidTests := true, laidLooks := .later }
def TallyCountsCardSaid : Prop := Claim7.holds Tryd.pinned (.plain (OpenSpec.ofChange tallyCountsSpec)) tallyCountsCard

/-- THE TIED CARD OF 'stowagelaw09.TallyTrue'. -/
def tallyTrueCard : Claim7 := { stood := { row := tallyTrueRow, standIns := [], harness := (true, "386801b461cdbaceeff4e0972dc5274b29d87c13ed730a4f1dde0ae478b22429"), looks := true }, kinds := [], alts := [], laidByText := true, laidKinds := [.sentinel, .sentinel], laidTests := true, laidLooks := .later }
def TallyTrueCardSaid : Prop := Claim7.holds Tryd.pinned (.plain (OpenSpec.ofChange tallyTrueSpec)) tallyTrueCard

/-- THE TIED CARD OF 'stowagelaw09.TallyKnown'. -/
def tallyKnownCard : Claim7 := { stood := { row := tallyKnownRow, standIns := [], harness := (true, "386801b461cdbaceeff4e0972dc5274b29d87c13ed730a4f1dde0ae478b22429"), looks := true }, kinds := [], alts := [], laidByText := true, laidKinds := [.sentinel, .sentinel], laidTests := true, laidLooks := .later }
def TallyKnownCardSaid : Prop := Claim7.holds Tryd.pinned (.plain (OpenSpec.ofChange tallyKnownSpec)) tallyKnownCard

/-- THE SECOND FORM's CARD OF 'stowagelaw09.TallyCounts'. -/
def tallyCountsUptoCard : Claim7 := { stood := { row := tallyCountsUptoRow, standIns := [], harness := (true, "386801b461cdbaceeff4e0972dc5274b29d87c13ed730a4f1dde0ae478b22429"), looks := true }, kinds := [], alts := [], laidByText := true, laidKinds := [.sentinel, .sentinel], laidTests := true, laidLooks := .later }
def TallyCountsUptoCardSaid : Prop := Claim7.holds Tryd.pinned (.plain (OpenSpec.upto tallyCountsSpec)) tallyCountsUptoCard

/-- THE SECOND FORM's CARD OF 'stowagelaw09.TallyTrue'. -/
def tallyTrueUptoCard : Claim7 := { stood := { row := tallyTrueUptoRow, standIns := [], harness := (true, "386801b461cdbaceeff4e0972dc5274b29d87c13ed730a4f1dde0ae478b22429"), looks := true }, kinds := [], alts := [], laidByText := true, laidKinds := [.sentinel, .sentinel], laidTests := true, laidLooks := .later }
def TallyTrueUptoCardSaid : Prop := Claim7.holds Tryd.pinned (.plain (OpenSpec.upto tallyTrueSpec)) tallyTrueUptoCard

/-- THE SECOND FORM's CARD OF 'stowagelaw09.TallyKnown'. -/
def tallyKnownUptoCard : Claim7 := { stood := { row := tallyKnownUptoRow, standIns := [], harness := (true, "386801b461cdbaceeff4e0972dc5274b29d87c13ed730a4f1dde0ae478b22429"), looks := true }, kinds := [], alts := [], laidByText := true, laidKinds := [.sentinel, .sentinel], laidTests := true, laidLooks := .later }
def TallyKnownUptoCardSaid : Prop := Claim7.holds Tryd.pinned (.plain (OpenSpec.upto tallyKnownSpec)) tallyKnownUptoCard
end Rows
end Go.Proofs.YtelkijiphhoacaaDoor
